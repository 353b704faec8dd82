/- What Roots answers, the program's and the document's. -/
import Derived.Test.YtdpkeffkpecmjabRpb
namespace Go.Proofs.Ytdpkeffkpecmjab
open Go.RowKit
set_option linter.unusedVariables false

/-- The roots among the first k bytes. -/
def rootsTo (P : UInt8) (p : List UInt8) : Nat → List UInt8
  | 0 => []
  | k + 1 => if evalS P (UInt8.ofNat k) p = 0 then rootsTo P p k ++ [UInt8.ofNat k] else rootsTo P p k
theorem roots_length (P : UInt8) (p : List UInt8) : ∀ k, (rootsTo P p k).length ≤ k
  | 0 => Nat.le_refl _
  | k + 1 => by
    have := roots_length P p k
    unfold rootsTo
    split
    · rw [List.length_append]; simp; omega
    · omega
theorem of_nat_lt {k : Nat} (h : k < 256) : (UInt8.ofNat k).toNat = k := by rw [UInt8.toNat_ofNat']; exact Nat.mod_eq_of_lt h
set_option maxRecDepth 100000 in
set_option maxHeartbeats 1000000 in
theorem roots_any {P G : UInt8} {b : Nat} (ho : ordS P G = 255) (p : List UInt8) (v : Value) (w : World) (hf : FdAt w b P G) (hp : SlAt w v p) :
    Calls Try.prog 9 #[.pointer (some ⟨b, 0, none⟩), v] w fun e w' => ∃ u, e = .returned u ∧ SlAt w' u (rootsTo P p 256) ∧ Below w.heap.size w w' := by
  have HEV : Hid (∀ k : Nat, k < 256 → ∀ w', Below w.heap.size w w' → Calls Try.prog 10 #[.pointer (some ⟨b, 0, none⟩), v, .int .u8 (k : Int)] w' fun e w2 => e = .returned (.int .u8 ((evalS P (UInt8.ofNat k) p).toNat : Int)) ∧ Below w'.heap.size w' w2) := fun k hk w' h => by
    have := eval_any ho p (UInt8.ofNat k) v w' (hf.next h) (hp.next h)
    rw [of_nat_lt hk] at this; exact this
  have HAL : Hid (∀ (w' : World) o, Below w'.heap.size w' (w'.alloc o)) := fun w' o => (Below.refl _ _).alloc (Nat.le_refl _) o
  have HRL := hidD (fun k => roots_length P p k)
  clear hf hp
  go_enter Try.func9, Try.ntmps9
  go_wp2_with fail
  go_loopw [5, 9] (fun o i wr => ∃ k : Nat, k ≤ 256 ∧ i = .int .i64 k ∧ wr.ownsRow w.heap.size 5 1 o (rootsTo P p k).length ((rootsTo P p k).map encB) ∧ Below w.heap.size w wr) (fun _ i _ => 256 - (intOf i).toNat)
  case atStart => exact ⟨0, Nat.zero_le _, rfl, World.ownsRow_nil _ _ _ _, Below.refl _ _⟩
  case round =>
    obtain ⟨k, hk, rfl, hown, hbel⟩ := hrel
    have HBL := hidD hbel
    have HOW := hidD hown
    by_cases hlt : k < 256
    · have hlti : (k : Int) < 256 := by omega
      have HE := hidD (HEV.out k hlt wr hbel)
      have HL := hidD (HRL.out k)
      by_cases h0 : evalS P (UInt8.ofNat k) p = 0
      · have HN : Hid (rootsTo P p (k + 1) = rootsTo P p k ++ [UInt8.ofNat k]) := by show rootsTo P p (k + 1) = _; rw [rootsTo, if_pos h0]
        have hv : ((evalS P (UInt8.ofNat k) p).toNat : Int) = 0 := by rw [h0]; rfl
        rw [hv] at HE
        have hkb : k < 256 := hlt
        have HBS : Hid (∀ w' : World, ByAt (w'.alloc (.cells #[.int .u8 (k : Int)] (5 : TypeId))) (.slice (some ⟨w'.heap.size, 0, none⟩) 1 1) [UInt8.ofNat k]) := fun w' => by
          have := (sl_new w' [UInt8.ofNat k] #[.int .u8 (k : Int)] 1 (by simp [encB, of_nat_lt hkb]) rfl (by omega)).by'
          exact this
        generalize rootsTo P p k = L at *
        clear hown hbel h0 hv
        go_wp2_with (first
          | (go_at_call 10; refine HE.out.mono ?_; rintro e w3 ⟨rfl, hb3⟩; have HO3 := hidD (row_below HOW.out hb3); have HB3 := hidD (Below.next HBL.out hb3); clear hb3)
          | (at_builtin; refine wpList_append_by rfl _ _ rfl w.heap.size u5 L.length (L.map encB) rfl (HO3.out.alloc _) (.slice (some ⟨w3.heap.size, 0, none⟩) 1 1) [UInt8.ofNat k] rfl (HBS.out w3) (by have := HL.out; simp; omega) (by have := HB3.out.size; simp; omega) ?_; intro v8 w8 hown8 hg8; have HO8 := hidD hown8; have HB8 := hidD (row_grown (HO3.out.alloc _) (Below.next HB3.out (HAL.out _ _)) hg8 (by have := HB3.out.size; simp; omega)); clear hown8 hg8))
        go_roundw
        case rel => exact ⟨k + 1, by omega, by go_num, by rw [HN.out, List.length_append, List.map_append]; exact HO8.out, HB8.out⟩
        case measure => simp [intOf]; omega
      · have HN : Hid (rootsTo P p (k + 1) = rootsTo P p k) := by show rootsTo P p (k + 1) = _; rw [rootsTo, if_neg h0]
        have hv := u8_ne h0
        have hvb := u8_bne h0
        generalize ((evalS P (UInt8.ofNat k) p).toNat : Int) = ev at *
        clear hown hbel h0
        go_wp2_with (go_at_call 10; refine HE.out.mono ?_; rintro e w3 ⟨rfl, hb3⟩)
        go_roundw
        case rel => exact ⟨k + 1, by omega, by go_num, by rw [HN.out]; exact row_below HOW.out hb3, Below.next HBL.out hb3⟩
        case measure => simp [intOf]; omega
    · obtain rfl : k = 256 := by omega
      clear hown hbel
      go_wp2_with fail
      go_ret
      exact ⟨_, rfl, sl_of_own HOW.out, HBL.out⟩
set_option maxRecDepth 100000 in
set_option maxHeartbeats 800000 in
theorem roots_nil (v : Value) (w : World) : Calls Try.prog 9 #[.pointer none, v] w fun e w' => e = .returned (.slice none 0 0) ∧ Below w.heap.size w w' := by
  have HW : Hid (Below w.heap.size w w) := Below.refl _ _
  go_enter Try.func9, Try.ntmps9
  go_wp2_with fail
  go_ret
  exact ⟨rfl, HW.out⟩
end Go.Proofs.Ytdpkeffkpecmjab
