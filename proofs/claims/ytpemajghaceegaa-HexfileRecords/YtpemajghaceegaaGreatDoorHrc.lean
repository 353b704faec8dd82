/- HexfileRecords: the law's walk. -/
import Derived.Test.YtpemajghaceegaaGreatDoorHyc
import Derived.Test.YtpemajghaceegaaGreatDoorRfd
import Derived.Test.YtpemajghaceegaaGreatDoorRfi
namespace Go.Proofs.YtpemajghaceegaaGreatDoor
open Go.RowKit
set_option linter.unusedVariables false

/- what both Records tell -/
def recL (f k a : Int) (d : List UInt8) : List UInt8 := if mayS f k a d then recS f.toNat k.toNat a.toNat d else []
def recE (f k a : Int) (d : List UInt8) : Int := if mayS f k a d then 0 else 1
theorem rec_tell {f k a : Int} {d : List UInt8} {e : Ending} {w w' : World} (h : RecIs f k a d e w w') : e = .returned (.tuple #[.string (bA (recL f k a d)), .int .i64 (recE f k a d)]) ∧ Below w.heap.size w w' := by
  obtain ⟨hb, h1, h2⟩ := h
  refine ⟨?_, hb⟩
  unfold recL recE
  cases hm : mayS f k a d with
  | true =>
    obtain ⟨F, K, A, rfl, rfl, rfl, he⟩ := h1 hm
    rw [if_pos rfl, if_pos rfl]
    exact he
  | false =>
    rw [if_neg (by simp), if_neg (by simp)]
    exact h2 hm
set_option maxRecDepth 100000 in
set_option maxHeartbeats 1600000 in
theorem refRecordNo_any (f k a : Int) (v : Value) (d : List UInt8) (hd : d.length ≤ 9223372036854775807) (hm : mayS f k a d = false) (w : World) (h : ByAt w v d) :
    Calls Tryz.prog 17 #[.int .i64 f, .int .i64 k, .int .i64 a, v] w fun e w' => e = .returned (.tuple #[.string (bA []), .int .i64 1]) ∧ w' = w := by
  have HMY := hidD (refMay_any f k a v d hd w h)
  rw [hm] at HMY
  clear hm
  go_enter Tryz.func17, Tryz.ntmps17
  go_wp2_with (go_at_call 39
               refine HMY.out.mono ?_
               rintro e w2 ⟨rfl, hw2⟩
               subst w2
               clear HMY)
  go_ret2
  exact ⟨rfl, rfl⟩
theorem refRecord_any (f k a : Int) (v : Value) (d : List UInt8) (hd : d.length ≤ 9223372036854775807) (w : World) (h : ByAt w v d) :
    Calls Tryz.prog 17 #[.int .i64 f, .int .i64 k, .int .i64 a, v] w fun e w' => e = .returned (.tuple #[.string (bA (recL f k a d)), .int .i64 (recE f k a d)]) ∧ Below w.heap.size w w' := by
  unfold recL recE
  cases hm : mayS f k a d with
  | false =>
    refine (refRecordNo_any f k a v d hd hm w h).mono ?_
    rintro e w' ⟨rfl, rfl⟩
    exact ⟨rfl, Below.refl _ _⟩
  | true =>
    obtain ⟨F, K, A, rfl, rfl, rfl, hf, _⟩ := may_num hm
    rw [if_pos rfl, if_pos rfl]
    rcases hf with rfl | rfl | rfl
    · exact refRecordIntel_any K A hm v w h
    · exact refRecordMotorola_any K A hm v w h
    · exact refRecordMos_any K A hm v w h
/- what both Splits tell -/
def spF : Res → Nat | .ok (f, _, _, _) => f | .error _ => 0
def spK : Res → Nat | .ok (_, k, _, _) => k | .error _ => 0
def spA : Res → Nat | .ok (_, _, a, _) => a | .error _ => 0
def spD : Res → List UInt8 | .ok (_, _, _, d) => d | .error _ => []
def spE : Res → Nat | .ok _ => 0 | .error n => n
theorem spl_tell {r : Res} {e : Ending} {w w' : World} (h : SplIs r e w w') : ∃ v, e = .returned (.tuple #[.int .i64 (spF r : Int), .int .i64 (spK r : Int), .int .i64 (spA r : Int), v, .int .i64 (spE r : Int)]) ∧ ByAt w' v (spD r) ∧ Below w.heap.size w w' := by
  obtain ⟨hb, h⟩ := h
  cases r with
  | error n => exact ⟨_, h.1, ByAt.nil _, hb⟩
  | ok x =>
    obtain ⟨f, k, a, d⟩ := x
    obtain ⟨v, he, hy⟩ := h
    exact ⟨v, he, hy, hb⟩
theorem cell0_below {w w' : World} {m : Int} (h : w.cell? ⟨0, 0, none⟩ = some (.int .i64 m)) (hb : Below w.heap.size w w') : w'.cell? ⟨0, 0, none⟩ = some (.int .i64 m) := (hb.cell (p := ⟨0, 0, none⟩) (cell0_lt h)).trans h
set_option maxRecDepth 100000 in
set_option maxHeartbeats 6400000 in
theorem records_any (f k a : Int) (v : Value) (d : List UInt8) (hd : d.length ≤ 140737488355000) (l : List UInt8) (hl : l.length ≤ 140737488355000) (m : Int) (w : World) (h : ByAt w v d) (hm : w.cell? ⟨0, 0, none⟩ = some (.int .i64 m)) :
    Calls Tryz.prog 4 #[.int .i64 f, .int .i64 k, .int .i64 a, v, .string (bA l)] w fun e w' => e = .returned (.bool true) ∧ Below w.heap.size w w' := by
  have HPR := hidD (fun v w h => (Record_any f k a v d (by omega) w h).mono fun e w' h => rec_tell h)
  have HRR := hidD (fun v w h => refRecord_any f k a v d (by omega) w h)
  have HPS := hidD (fun w => (Split_any l hl w).mono fun e w' h => spl_tell h)
  have HRS := hidD (fun w => (refSplit_any l hl w).mono fun e w' h => spl_tell h)
  have HAL := hidD (fun w (hm : w.cell? ⟨0, 0, none⟩ = some (.int .i64 m)) => alive_any m w hm)
  have HM := hidD hm
  have HBY := hidD h
  have HDL := hidD hd
  obtain ⟨va, vc, rfl⟩ := h.len
  generalize recL f k a d = rl at *
  generalize recE f k a d = re at *
  generalize lineS l = r at *
  generalize bA rl = rs at *
  generalize bA l = s at *
  obtain ⟨N, HN⟩ : ∃ N, Hid (d.length = N) := ⟨_, rfl⟩
  rw [HN.out] at HBY hd ⊢
  clear h hm
  have HYE : Hid (∀ o, Below w.heap.size w (w.alloc o)) := fun o => (Below.refl _ _).alloc (Nat.le_refl _) o
  go_enter Tryz.func4, Tryz.ntmps4
  go_wp2_with first
    | (at_builtin
       refine wpList_append_by rfl _ _ rfl w.heap.size (.slice (some ⟨w.heap.size, 0, none⟩) 0 0) 0 [] rfl (full_row (Nat.le_refl _) rfl (by decide) (heap_alloc_last _ _)) _ d rfl (HBY.out.next (HYE.out _)) (by have := HDL.out; omega) (HYE.out _).size ?_
       intro v1 w1 hown1 hg1
       rw [Nat.zero_add, List.nil_append] at hown1
       have HY1 := hidD (by_of_own hown1)
       have HB1 : Hid (Below w.heap.size w w1) := row_grown (xs := []) (full_row (Nat.le_refl _) rfl (by decide) (heap_alloc_last _ _)) (HYE.out _) hg1 (HYE.out _).size
       clear hown1 hg1)
  go_at_call 16
  refine (HPR.out _ _ HY1.out).mono ?_
  rintro e w2 ⟨rfl, hb⟩
  have HB2 := hidD (Below.next HB1.out hb)
  clear hb HPR
  go_wp2_with fail
  go_at_call 17
  refine (HRR.out _ _ (HBY.out.next HB2.out)).mono ?_
  rintro e w3 ⟨rfl, hb⟩
  have HB3 := hidD (Below.next HB2.out hb)
  clear hb HRR
  go_wp2_with fail
  go_at_call 18
  refine (HPS.out _).mono ?_
  rintro e w4 ⟨v4, rfl, hy, hb⟩
  have HY4 := hidD hy
  have HB4 := hidD (Below.next HB3.out hb)
  clear hy hb HPS
  go_wp2_with fail
  go_at_call 19
  refine (HRS.out _).mono ?_
  rintro e w5 ⟨v5, rfl, hy, hb⟩
  have HY5 := hidD hy
  have HY45 := hidD (HY4.out.next hb)
  have HB5 := hidD (Below.next HB4.out hb)
  clear hb hy HRS
  have c4 := conv_any HY45.out
  have c5 := conv_any HY5.out
  obtain ⟨a4, k4, rfl⟩ := HY4.out.len
  obtain ⟨a5, k5, rfl⟩ := HY5.out.len
  have HM5 := hidD (cell0_below HM.out HB5.out)
  generalize bA (spD r) = ds at *
  generalize (spD r).length = dn at *
  generalize spF r = xf at *
  generalize spK r = xk at *
  generalize spA r = xa at *
  generalize spE r = xe at *
  go_wp2_with (go_at_call 15
               refine (HAL.out _ HM5.out).mono ?_
               rintro e w6 ⟨rfl, hb⟩
               have HB6 := hidD (Below.next HB5.out hb)
               clear hb HAL)
  go_ret
  exact ⟨rfl, HB6.out⟩
end Go.Proofs.YtpemajghaceegaaGreatDoor
