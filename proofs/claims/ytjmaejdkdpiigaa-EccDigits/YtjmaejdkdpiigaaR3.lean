/- What the document's Permuted and VerhoeffRight answer. -/
import Derived.Test.YtjmaejdkdpiigaaR1
import Derived.Laws.Build
namespace Go.Proofs.Ytjmaejdkdpiigaa
open Go.RowKit
set_option linter.unusedVariables false

def snC : Array Value := #[.int .i64 1, .int .i64 5, .int .i64 7, .int .i64 6, .int .i64 2, .int .i64 8, .int .i64 3, .int .i64 0, .int .i64 9, .int .i64 4]
def snZ : Array Value := #[.int .i64 0, .int .i64 0, .int .i64 0, .int .i64 0, .int .i64 0, .int .i64 0, .int .i64 0, .int .i64 0, .int .i64 0, .int .i64 0]
theorem Try.zeroSn : (Try.prog.info? 76).map (fun i => (i.zero, i.size)) = some (some (.agg snZ), 10) := by kernel_rfl
theorem sn_one : snC.all (·.oneCell') = true := by simp [snC, Value.oneCell']
theorem sn_at : ∀ d < 10, snC[d]? = some (.int .i64 (snS d : Int)) := fun d hd => by
  obtain rfl | rfl | rfl | rfl | rfl | rfl | rfl | rfl | rfl | rfl : d = 0 ∨ d = 1 ∨ d = 2 ∨ d = 3 ∨ d = 4 ∨ d = 5 ∨ d = 6 ∨ d = 7 ∨ d = 8 ∨ d = 9 := by omega
  all_goals rfl
set_option maxRecDepth 100000 in
set_option maxHeartbeats 1600000 in
theorem refPermuted_any (x y : Int) (w : World) : Calls Try.prog 48 #[.int .i64 x, .int .i64 y] w fun e w' => e = .returned (.int .i64 (peS (mdS x 8) (mdS y 10) : Int)) ∧ Below w.heap.size w w' := by
  have HM := hidD refmod_all
  have hy := md_lt y 10 (by decide)
  have hx := md_lt x 8 (by decide)
  have ey : y % 10 = ((mdS y 10 : Nat) : Int) := (md_int y 10 (by decide)).symm
  have ex : x % 8 = ((mdS x 8 : Nat) : Int) := (md_int x 8 (by decide)).symm
  generalize mdS y 10 = d at *
  generalize mdS x 8 = n at *
  obtain ⟨hz, hsz⟩ := zero_of_info Try.zeroSn
  have HI : Hid ((Try.prog.info? 76).map (·.size) = some snC.size) := hsz
  have HR : Hid ((w.alloc (.cells snZ (76 : TypeId))).heap[w.heap.size]? = some (.cells snZ (76 : TypeId) (0, 0))) := heap_alloc_last _ _
  have HB : Hid (Below w.heap.size w ((w.alloc (.cells snZ (76 : TypeId))).setRow w.heap.size snC)) := below_setRow ((Below.refl _ _).alloc (Nat.le_refl _) _) (Nat.le_refl _) _
  have HC : Hid (∀ d, d < 10 → ((w.alloc (.cells snZ (76 : TypeId))).setRow w.heap.size snC).cell? ⟨w.heap.size, d, none⟩ = some (.int .i64 (snS d : Int))) := fun d hd => by
    rw [cell_of_row _ _ _ _ _ _ (setRow_heap _ _ _ snC _ _ HR.out)]; exact sn_at d hd
  clear hsz
  go_enter Try.func48, Try.ntmps48
  go_wp2_with (first | (refine wpList_store_row rfl 76 _ _ rfl w.heap.size snC rfl rfl 76 snZ HR.out HI.out rfl sn_one ?_) | (go_at_call 57; refine (HM.out _ _ (by simp) _).mono ?_; rintro e w2 ⟨rfl, hb2⟩))
  generalize (w.alloc (.cells snZ (76 : TypeId))).setRow w.heap.size snC = w1 at *
  go_loopw [6, 7] (fun t i wr => ∃ k : Nat, k ≤ n ∧ i = .int .i64 k ∧ t = .int .i64 (peS k d : Int) ∧ wr = w1) (fun _ i _ => n - (intOf i).toNat)
  case atStart => exact ⟨0, Nat.zero_le _, rfl, rfl, rfl⟩
  case round =>
    obtain ⟨k, hk, rfl, rfl, rfl⟩ := hrel
    have hp := pe_lt k d hy
    by_cases hlt : k < n
    · have hlti : (k : Int) < n := by omega
      have HS : Hid (peS (k + 1) d = snS (peS k d)) := (rfl : _ = _)
      have hcell := HC.out _ hp
      have hsn := sn_lt _ hp
      generalize peS k d = P at *
      generalize snS P = Q at *
      have hPi : (P : Int) < 10 := by omega
      go_wp2_with (go_at_call 57; refine (HM.out _ _ (by simp) _).mono ?_; rintro e w2 ⟨rfl, hb2⟩)
      go_roundw
      case rel => exact ⟨k + 1, by omega, by go_num, by rw [HS.out], trivial⟩
      case measure => simp [intOf]; omega
    · obtain rfl : k = n := by omega
      go_wp2_with (go_at_call 57; refine (HM.out _ _ (by simp) _).mono ?_; rintro e w2 ⟨rfl, hb2⟩)
      go_ret
      exact ⟨rfl, HB.out⟩
end Go.Proofs.Ytjmaejdkdpiigaa
