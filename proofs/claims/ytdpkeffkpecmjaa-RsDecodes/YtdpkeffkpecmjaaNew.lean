/- What New of the program answers; what a nil field answers. -/
import Derived.Test.YtdpkeffkpecmjaaFnc
namespace Go.Proofs.Ytdpkeffkpecmjaa
open Go.RowKit
set_option linter.unusedVariables false

set_option maxRecDepth 100000 in
set_option maxHeartbeats 400000 in
theorem new_out (Q : Int) (h : ¬ (256 ≤ Q ∧ Q ≤ 511)) (g : UInt8) (w : World) : Calls Try.prog 50 #[.int .i64 Q, .int .u8 (g.toNat : Int)] w fun e w' => e = .returned (.tuple #[.pointer none, .int .i64 50]) ∧ Below w.heap.size w w' := by
  have HW : Hid (Below w.heap.size w w) := Below.refl _ _
  have HI := hidD (fun w => irr_out Q h w)
  clear h
  go_enter Try.func50, Try.ntmps50
  go_wp2_with (go_at_call 67; refine (HI.out _).mono ?_; rintro e w2 ⟨rfl, hb2⟩)
  refine bodyPost_ret (v := .tuple #[.pointer none, .int .i64 50]) (by simp [results, Try.results50, go_sem]) rfl ?_
  exact ⟨rfl, HW.out⟩
set_option maxRecDepth 100000 in
set_option maxHeartbeats 400000 in
theorem new_bad (P g : UInt8) (Q : Int) (hQ : Q = 256 + (P.toNat : Int)) (hbad : ¬ (irrS (256 + P.toNat) = true ∧ ordS P g = 255)) (w : World) : Calls Try.prog 50 #[.int .i64 Q, .int .u8 (g.toNat : Int)] w fun e w' => e = .returned (.tuple #[.pointer none, .int .i64 50]) ∧ Below w.heap.size w w' := by
  have HW : Hid (Below w.heap.size w w) := Below.refl _ _
  have hP := u8_lt P
  have HI : Hid (∀ w, Calls Try.prog 67 #[.int .i64 Q] w fun e w' => e = .returned (.bool (irrS (256 + P.toNat))) ∧ w' = w) := fun w => by
    have := irr_in (256 + P.toNat) (by omega) (by omega) w
    rw [show ((256 + P.toNat : Nat) : Int) = Q by omega] at this
    exact this
  have HO := hidD (fun w => order_in P g Q hQ w)
  generalize irrS (256 + P.toNat) = I at *
  generalize ordS P g = O at *
  clear hQ hP
  cases I
  · clear hbad
    go_enter Try.func50, Try.ntmps50
    go_wp2_with (go_at_call 67; refine (HI.out _).mono ?_; rintro e w2 ⟨rfl, hb2⟩)
    refine bodyPost_ret (v := .tuple #[.pointer none, .int .i64 50]) (by simp [results, Try.results50, go_sem]) rfl ?_
    exact ⟨rfl, HW.out⟩
  · have ho : ¬ (O : Int) = 255 := fun h => hbad ⟨rfl, by omega⟩
    have hob : ((O : Int) == 255) = false := by simpa using ho
    clear hbad
    go_enter Try.func50, Try.ntmps50
    go_wp2_with (first | (go_at_call 67; refine (HI.out _).mono ?_; rintro e w2 ⟨rfl, hb2⟩) | (go_at_call 68; refine (HO.out _).mono ?_; rintro e w2 ⟨rfl, hb2⟩))
    refine bodyPost_ret (v := .tuple #[.pointer none, .int .i64 50]) (by simp [results, Try.results50, go_sem]) rfl ?_
    exact ⟨rfl, HW.out⟩
set_option maxRecDepth 100000 in
set_option maxHeartbeats 400000 in
theorem new_ok (P g : UInt8) (Q : Int) (hQ : Q = 256 + (P.toNat : Int)) (hirr : irrS (256 + P.toNat) = true) (hord : ordS P g = 255) (w : World) : Calls Try.prog 50 #[.int .i64 Q, .int .u8 (g.toNat : Int)] w fun e w' => ∃ b, e = .returned (.tuple #[.pointer (some ⟨b, 0, none⟩), .int .i64 0]) ∧ w.heap.size ≤ b ∧ FdAt w' b P g ∧ Below w.heap.size w w' := by
  have hP := u8_lt P
  have HI : Hid (∀ w, Calls Try.prog 67 #[.int .i64 Q] w fun e w' => e = .returned (.bool true) ∧ w' = w) := fun w => by
    have := irr_in (256 + P.toNat) (by omega) (by omega) w
    rw [show ((256 + P.toNat : Nat) : Int) = Q by omega, hirr] at this
    exact this
  have HO : Hid (∀ w, Calls Try.prog 68 #[.int .i64 Q, .int .u8 (g.toNat : Int)] w fun e w' => e = .returned (.int .i64 255) ∧ w' = w) := fun w => by
    have := order_in P g Q hQ w
    rw [hord] at this
    exact this
  have HF := hidD (fun w => fieldOf_any P g Q hQ w)
  obtain ⟨hz, hsz⟩ := zero_of_info Try.zero94
  have hs1 : (fldC P g 255).size = 511 := rowF_size _ _ _
  have hs0 : (rowF .u8 511 (fun _ => 0)).size = 511 := rowF_size _ _ _
  have HONE : Hid ((fldC P g 255).all (·.oneCell') = true) := rowF_one .u8 511 (fldF P g 255)
  have HFD : Hid (∀ w' b, FdAt w' b P g ↔ w'.heap[b]? = some (.cells (fldC P g 255) (94 : TypeId) (0, 0))) := fun w' b => Iff.rfl
  generalize FdAt = FA at *
  have hi : (Try.prog.info? 94).map (·.size) = some (fldC P g 255).size := by rw [hsz, hs1]
  generalize fldC P g 255 = C at *
  generalize rowF .u8 511 (fun _ => 0) = C0 at *
  clear hQ hP hirr hord
  go_enter Try.func50, Try.ntmps50
  go_wp2_with (first | (go_at_call 67; refine (HI.out _).mono ?_; rintro e w2 ⟨rfl, hb2⟩) | (go_at_call 68; refine (HO.out _).mono ?_; rintro e w2 ⟨rfl, hb2⟩) | (go_at_call 69; refine (HF.out _).mono ?_; rintro e w1 ⟨rfl, hb1⟩) | (refine wpList_store_row rfl 94 _ _ rfl _ C rfl rfl 94 C0 (heap_alloc_last _ _) hi (by rw [hs0, hs1]) HONE.out ?_))
  refine bodyPost_ret (v := .tuple #[.pointer (some ⟨w1.heap.size, 0, none⟩), .int .i64 0]) (by simp [results, Try.results50, go_sem]) rfl ?_
  refine ⟨_, rfl, hb1.size, (HFD.out _ _).mpr (setRow_heap _ _ C0 C 94 (0, 0) (heap_alloc_last _ _)), ?_⟩
  exact below_setRow (hb1.alloc hb1.size _) hb1.size _
end Go.Proofs.Ytdpkeffkpecmjaa
