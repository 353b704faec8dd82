/- What formats and has answer: the table of the three. -/
import Derived.Test.YtpemajghaceegaaGreatDoorHxj
import Derived.Laws.ByValue
import Derived.Laws.EntriesVeiled
import Derived.Deep.MidRow
namespace Go.Proofs.YtpemajghaceegaaGreatDoor
open Go.RowKit
set_option linter.unusedVariables false

def fnV (n : Nat) : Value := .func (.func n) #[] #[]
/- a row of the table -/
def fmL : Nat → List Value
  | 1 => [.int .i64 255, .int .i64 0, .bool true, fnV 62, fnV 63, fnV 64, fnV 65, fnV 66, fnV 67]
  | 2 => [.int .i64 252, .int .i64 1, .bool true, fnV 68, fnV 69, fnV 70, fnV 71, fnV 72, fnV 73]
  | 3 => [.int .i64 255, .int .i64 0, .bool false, fnV 74, fnV 75, fnV 76, fnV 77, fnV 78, fnV 80]
  | _ => [.int .i64 0, .int .i64 0, .bool false, .nilFunc, .nilFunc, .nilFunc, .nilFunc, .nilFunc, .nilFunc]
def tabO : Obj := .cells (fmL 0 ++ fmL 1 ++ fmL 2 ++ fmL 3).toArray (76 : TypeId)
def TabAt (w : World) (g : Nat) : Prop := w.heap[g]? = some tabO
theorem TabAt.next {w w' : World} {g : Nat} (h : TabAt w g) (hb : Below w.heap.size w w') : TabAt w' g := (hb.block g (row_lt h)).trans h
set_option maxRecDepth 100000 in
set_option maxHeartbeats 800000 in
theorem formats_any (w : World) : Calls Tryz.prog 37 #[] w fun e w' => ∃ g, e = .returned (.slice (some ⟨g, 0, none⟩) 4 4) ∧ TabAt w' g ∧ w.heap.size ≤ g ∧ Below w.heap.size w w' := by
  go_enter Tryz.func37, Tryz.ntmps37
  go_wp2_with fail
  go_ret
  exact ⟨_, rfl, heap_alloc_last w tabO, Nat.le_refl _, (Below.refl _ _).alloc (Nat.le_refl _) _⟩
set_option maxRecDepth 100000 in
set_option maxHeartbeats 1600000 in
theorem hasIntel_any (K A : Int) (v : Value) (d : List UInt8) (hd : d.length ≤ 9223372036854775807) (w : World) (h : ByAt w v d) :
    Calls Tryz.prog 38 #[.agg (fmL 1).toArray, .agg #[.int .i64 K, .int .i64 A, v]] w fun e w' => e = .returned (.bool (mayS 1 K A d)) ∧ Below w.heap.size w w' := by
  have HM := hidD (may_int K A d)
  have HAL : Hid (∀ (w : World) o, Below w.heap.size w (w.alloc o)) := fun w o => (Below.refl _ _).alloc (Nat.le_refl _) o
  have HF := hidD (fun (w' : World) (hb : Below w.heap.size w w') => fitsIntel_any K A v d hd w' (h.next hb))
  have HP := hidD (fun w => isPlace_any A w)
  obtain ⟨a, cap, rfl⟩ := h.len
  obtain ⟨N, HN⟩ : ∃ N, Hid (d.length = N) := ⟨_, rfl⟩
  rw [HN.out] at hd HM HF ⊢
  have hw2 : Hid (Below w.heap.size w ((w.alloc (.cells (fmL 1).toArray (76 : TypeId))).alloc (.cells #[.int .i64 K, .int .i64 A, .slice a N cap] (80 : TypeId)))) := Below.next (HAL.out w _) (HAL.out _ _)
  clear h
  obtain ⟨m, HMM⟩ : ∃ m, Hid (mayS 1 K A d = m) := ⟨_, rfl⟩
  rw [HMM.out] at HM ⊢
  show Calls _ _ #[.agg #[.int .i64 255, .int .i64 0, .bool true, .func (.func 62) #[] #[], .func (.func 63) #[] #[], .func (.func 64) #[] #[], .func (.func 65) #[] #[], .func (.func 66) #[] #[], .func (.func 67) #[] #[]], _] _ _
  change Hid (Below w.heap.size w ((w.alloc (.cells #[.int .i64 255, .int .i64 0, .bool true, .func (.func 62) #[] #[], .func (.func 63) #[] #[], .func (.func 64) #[] #[], .func (.func 65) #[] #[], .func (.func 66) #[] #[], .func (.func 67) #[] #[]] (76 : TypeId))).alloc (.cells #[.int .i64 K, .int .i64 A, .slice a N cap] (80 : TypeId)))) at hw2
  by_cases hp : 0 ≤ A ∧ A < 65536
  · rw [decide_eq_true hp] at HP HM
    clear hp
    by_cases hl : N ≤ 255
    · rw [decide_eq_true hl, Bool.true_and, Bool.true_and] at HM
      have hli : (N : Int) ≤ 255 := by omega
      clear hl
      go_enter Tryz.func38, Tryz.ntmps38
      go_wp2_with first
        | (go_at_call 62; refine (HF.out _ hw2.out).mono ?_; rintro e w3 ⟨rfl, hb⟩; rw [← HM.out]; have HB3 := hidD (Below.next hw2.out hb); clear hb HF)
        | (go_at_call 81; refine (HP.out _).mono ?_; rintro e w3 ⟨rfl, hw3⟩; subst w3; clear HP)
      go_ret
      exact ⟨rfl, HB3.out⟩
    · rw [decide_eq_false hl, Bool.and_false, Bool.false_and] at HM
      have hli : ¬ (N : Int) ≤ 255 := by omega
      have hl2 : ((255 : Int) < N) := by omega
      have hm := HM.out
      subst hm
      clear hl HF HM
      go_enter Tryz.func38, Tryz.ntmps38
      go_wp2_with (go_at_call 81; refine (HP.out _).mono ?_; rintro e w3 ⟨rfl, hw3⟩; subst w3; clear HP)
      go_ret
      exact ⟨rfl, hw2.out⟩
  · rw [decide_eq_false hp] at HP HM
    rw [Bool.false_and, Bool.false_and] at HM
    have hm := HM.out
    subst hm
    clear hp HF HM
    go_enter Tryz.func38, Tryz.ntmps38
    go_wp2_with (go_at_call 81; refine (HP.out _).mono ?_; rintro e w3 ⟨rfl, hw3⟩; subst w3; clear HP)
    go_ret
    exact ⟨rfl, hw2.out⟩
set_option maxRecDepth 100000 in
set_option maxHeartbeats 1600000 in
theorem hasMotorola_any (K A : Int) (v : Value) (d : List UInt8) (hd : d.length ≤ 9223372036854775807) (w : World) (h : ByAt w v d) :
    Calls Tryz.prog 38 #[.agg (fmL 2).toArray, .agg #[.int .i64 K, .int .i64 A, v]] w fun e w' => e = .returned (.bool (mayS 2 K A d)) ∧ Below w.heap.size w w' := by
  have HM := hidD (may_mot K A d)
  have HAL : Hid (∀ (w : World) o, Below w.heap.size w (w.alloc o)) := fun w o => (Below.refl _ _).alloc (Nat.le_refl _) o
  have HF := hidD (fun (w' : World) (hb : Below w.heap.size w w') => fitsMotorola_any K A v d hd w' (h.next hb))
  have HP := hidD (fun w => isPlace_any A w)
  obtain ⟨a, cap, rfl⟩ := h.len
  obtain ⟨N, HN⟩ : ∃ N, Hid (d.length = N) := ⟨_, rfl⟩
  rw [HN.out] at hd HM HF ⊢
  have hw2 : Hid (Below w.heap.size w ((w.alloc (.cells (fmL 2).toArray (76 : TypeId))).alloc (.cells #[.int .i64 K, .int .i64 A, .slice a N cap] (80 : TypeId)))) := Below.next (HAL.out w _) (HAL.out _ _)
  clear h
  obtain ⟨m, HMM⟩ : ∃ m, Hid (mayS 2 K A d = m) := ⟨_, rfl⟩
  rw [HMM.out] at HM ⊢
  show Calls _ _ #[.agg #[.int .i64 252, .int .i64 1, .bool true, .func (.func 68) #[] #[], .func (.func 69) #[] #[], .func (.func 70) #[] #[], .func (.func 71) #[] #[], .func (.func 72) #[] #[], .func (.func 73) #[] #[]], _] _ _
  change Hid (Below w.heap.size w ((w.alloc (.cells #[.int .i64 252, .int .i64 1, .bool true, .func (.func 68) #[] #[], .func (.func 69) #[] #[], .func (.func 70) #[] #[], .func (.func 71) #[] #[], .func (.func 72) #[] #[], .func (.func 73) #[] #[]] (76 : TypeId))).alloc (.cells #[.int .i64 K, .int .i64 A, .slice a N cap] (80 : TypeId)))) at hw2
  by_cases hp : 0 ≤ A ∧ A < 65536
  · rw [decide_eq_true hp] at HP HM
    clear hp
    by_cases hl : N ≤ 252
    · rw [decide_eq_true hl, Bool.true_and, Bool.true_and] at HM
      have hli : (N : Int) ≤ 252 := by omega
      clear hl
      go_enter Tryz.func38, Tryz.ntmps38
      go_wp2_with first
        | (go_at_call 68; refine (HF.out _ hw2.out).mono ?_; rintro e w3 ⟨rfl, hb⟩; rw [← HM.out]; have HB3 := hidD (Below.next hw2.out hb); clear hb HF)
        | (go_at_call 81; refine (HP.out _).mono ?_; rintro e w3 ⟨rfl, hw3⟩; subst w3; clear HP)
      go_ret
      exact ⟨rfl, HB3.out⟩
    · rw [decide_eq_false hl, Bool.and_false, Bool.false_and] at HM
      have hli : ¬ (N : Int) ≤ 252 := by omega
      have hl2 : ((252 : Int) < N) := by omega
      have hm := HM.out
      subst hm
      clear hl HF HM
      go_enter Tryz.func38, Tryz.ntmps38
      go_wp2_with (go_at_call 81; refine (HP.out _).mono ?_; rintro e w3 ⟨rfl, hw3⟩; subst w3; clear HP)
      go_ret
      exact ⟨rfl, hw2.out⟩
  · rw [decide_eq_false hp] at HP HM
    rw [Bool.false_and, Bool.false_and] at HM
    have hm := HM.out
    subst hm
    clear hp HF HM
    go_enter Tryz.func38, Tryz.ntmps38
    go_wp2_with (go_at_call 81; refine (HP.out _).mono ?_; rintro e w3 ⟨rfl, hw3⟩; subst w3; clear HP)
    go_ret
    exact ⟨rfl, hw2.out⟩
set_option maxRecDepth 100000 in
set_option maxHeartbeats 1600000 in
theorem hasMos_any (K A : Int) (v : Value) (d : List UInt8) (hd : d.length ≤ 9223372036854775807) (w : World) (h : ByAt w v d) :
    Calls Tryz.prog 38 #[.agg (fmL 3).toArray, .agg #[.int .i64 K, .int .i64 A, v]] w fun e w' => e = .returned (.bool (mayS 3 K A d)) ∧ Below w.heap.size w w' := by
  have HM := hidD (may_mos K A d)
  have HAL : Hid (∀ (w : World) o, Below w.heap.size w (w.alloc o)) := fun w o => (Below.refl _ _).alloc (Nat.le_refl _) o
  have HF := hidD (fun (w' : World) (hb : Below w.heap.size w w') => fitsMos_any K A v d hd w' (h.next hb))
  have HP := hidD (fun w => isPlace_any A w)
  obtain ⟨a, cap, rfl⟩ := h.len
  obtain ⟨N, HN⟩ : ∃ N, Hid (d.length = N) := ⟨_, rfl⟩
  rw [HN.out] at hd HM HF ⊢
  have hw2 : Hid (Below w.heap.size w ((w.alloc (.cells (fmL 3).toArray (76 : TypeId))).alloc (.cells #[.int .i64 K, .int .i64 A, .slice a N cap] (80 : TypeId)))) := Below.next (HAL.out w _) (HAL.out _ _)
  clear h
  obtain ⟨m, HMM⟩ : ∃ m, Hid (mayS 3 K A d = m) := ⟨_, rfl⟩
  rw [HMM.out] at HM ⊢
  show Calls _ _ #[.agg #[.int .i64 255, .int .i64 0, .bool false, .func (.func 74) #[] #[], .func (.func 75) #[] #[], .func (.func 76) #[] #[], .func (.func 77) #[] #[], .func (.func 78) #[] #[], .func (.func 80) #[] #[]], _] _ _
  change Hid (Below w.heap.size w ((w.alloc (.cells #[.int .i64 255, .int .i64 0, .bool false, .func (.func 74) #[] #[], .func (.func 75) #[] #[], .func (.func 76) #[] #[], .func (.func 77) #[] #[], .func (.func 78) #[] #[], .func (.func 80) #[] #[]] (76 : TypeId))).alloc (.cells #[.int .i64 K, .int .i64 A, .slice a N cap] (80 : TypeId)))) at hw2
  by_cases hp : 0 ≤ A ∧ A < 65536
  · rw [decide_eq_true hp] at HP HM
    clear hp
    by_cases hl : N ≤ 255
    · rw [decide_eq_true hl, Bool.true_and, Bool.true_and] at HM
      have hli : (N : Int) ≤ 255 := by omega
      clear hl
      go_enter Tryz.func38, Tryz.ntmps38
      go_wp2_with first
        | (go_at_call 74; refine (HF.out _ hw2.out).mono ?_; rintro e w3 ⟨rfl, hb⟩; rw [← HM.out]; have HB3 := hidD (Below.next hw2.out hb); clear hb HF)
        | (go_at_call 81; refine (HP.out _).mono ?_; rintro e w3 ⟨rfl, hw3⟩; subst w3; clear HP)
      go_ret
      exact ⟨rfl, HB3.out⟩
    · rw [decide_eq_false hl, Bool.and_false, Bool.false_and] at HM
      have hli : ¬ (N : Int) ≤ 255 := by omega
      have hl2 : ((255 : Int) < N) := by omega
      have hm := HM.out
      subst hm
      clear hl HF HM
      go_enter Tryz.func38, Tryz.ntmps38
      go_wp2_with (go_at_call 81; refine (HP.out _).mono ?_; rintro e w3 ⟨rfl, hw3⟩; subst w3; clear HP)
      go_ret
      exact ⟨rfl, hw2.out⟩
  · rw [decide_eq_false hp] at HP HM
    rw [Bool.false_and, Bool.false_and] at HM
    have hm := HM.out
    subst hm
    clear hp HF HM
    go_enter Tryz.func38, Tryz.ntmps38
    go_wp2_with (go_at_call 81; refine (HP.out _).mono ?_; rintro e w3 ⟨rfl, hw3⟩; subst w3; clear HP)
    go_ret
    exact ⟨rfl, hw2.out⟩
/-- Has it a format this record? -/
theorem has_any (f : Nat) (hf : f = 1 ∨ f = 2 ∨ f = 3) (K A : Int) (v : Value) (d : List UInt8) (hd : d.length ≤ 9223372036854775807) (w : World) (h : ByAt w v d) :
    Calls Tryz.prog 38 #[.agg (fmL f).toArray, .agg #[.int .i64 K, .int .i64 A, v]] w fun e w' => e = .returned (.bool (mayS (f : Int) K A d)) ∧ Below w.heap.size w w' := by
  rcases hf with rfl | rfl | rfl
  · exact hasIntel_any K A v d hd w h
  · exact hasMotorola_any K A v d hd w h
  · exact hasMos_any K A v d hd w h
end Go.Proofs.YtpemajghaceegaaGreatDoor
