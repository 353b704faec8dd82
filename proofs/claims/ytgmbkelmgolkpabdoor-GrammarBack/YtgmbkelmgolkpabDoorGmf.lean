/- What upTo answers. -/
import Derived.Test.YtgmbkelmgolkpabDoorGmd
namespace Go.Proofs.YtgmbkelmgolkpabDoor
open Go.RowKit
set_option linter.unusedVariables false

/-- The symbols below a number. -/
def utS : Nat → Nat
  | 0 => 0
  | k + 1 => utS k ||| 2 ^ k
theorem ut_top : ∀ k, k ≤ 128 → utS k < Top
  | 0, _ => by decide
  | k + 1, h => by rw [utS]; exact or_top (ut_top k (by omega)) (two_top (by omega))
theorem ut_bit : ∀ k s, (utS k).testBit s = decide (s < k)
  | 0, s => by simp [utS]
  | k + 1, s => by
    rw [utS, Nat.testBit_or, ut_bit k s, Nat.testBit_two_pow, ← Bool.decide_or]
    congr 1
    exact propext (by omega)
set_option maxRecDepth 100000 in
set_option maxHeartbeats 3200000 in
theorem upTo_any (n : Nat) (hn : n ≤ 128) (w : World) : Calls Tryd.prog 32 #[.int .i64 n] w fun e w' => e = .returned (setV (utS n)) ∧ Below w.heap.size w w' := by
  obtain ⟨hz, hsz⟩ := zero_of_info Tryd.zero61
  have HBL0 : Hid (Below w.heap.size w ((w.alloc (.cells #[.int .u64 0, .int .u64 0] (61 : TypeId))).alloc (.cells #[.int .u64 0, .int .u64 0] (61 : TypeId)))) := ((Below.refl _ _).alloc (Nat.le_refl _) _).alloc (by simp) _
  have HR0 : Hid (CsAt ((w.alloc (.cells #[.int .u64 0, .int .u64 0] (61 : TypeId))).alloc (.cells #[.int .u64 0, .int .u64 0] (61 : TypeId))) w.heap.size zc 61) := by
    have h1 : CsAt (w.alloc (.cells #[.int .u64 0, .int .u64 0] (61 : TypeId))) w.heap.size zc 61 := heap_alloc_last _ _
    exact h1.next ((Below.refl _ _).alloc (Nat.le_refl _) _)
  have HZ0 : Hid (CsAt ((w.alloc (.cells #[.int .u64 0, .int .u64 0] (61 : TypeId))).alloc (.cells #[.int .u64 0, .int .u64 0] (61 : TypeId))) (w.heap.size + 1) (setC zc 0 (utS 0)) 61) := by
    have := heap_alloc_last (w.alloc (.cells #[.int .u64 0, .int .u64 0] (61 : TypeId))) (.cells #[.int .u64 0, .int .u64 0] (61 : TypeId))
    rw [show (w.alloc (.cells #[.int .u64 0, .int .u64 0] (61 : TypeId))).heap.size = w.heap.size + 1 by simp] at this
    exact this
  have HUT := hidD ut_top
  have HSI : Hid (∀ M, M < Top → SetIn (setC zc 0 M) 0 M) := fun M hM => setC_same (by decide) hM
  have HST : Hid (∀ A B, B < Top → setC (setC zc 0 A) 0 B = setC zc 0 B) := fun A B hB => setC_twice _ 0 A B (by decide) hB
  have HUN : Hid (∀ k, utS (k + 1) = utS k ||| 2 ^ k) := fun k => rfl
  go_enter Tryd.func32, Tryd.ntmps32
  go_wp2_with fail
  generalize hw1 : ((w.alloc (.cells #[.int .u64 0, .int .u64 0] (61 : TypeId))).alloc (.cells #[.int .u64 0, .int .u64 0] (61 : TypeId))) = w1 at *
  clear hw1
  generalize hgg : w.heap.size = g at *
  have HGG := hidD hgg
  clear hgg
  go_loopw [6] (fun i wr => ∃ k : Nat, k ≤ n ∧ i = .int .i64 k ∧ CsAt wr (g + 1) (setC zc 0 (utS k)) 61 ∧ But (g + 1) w1 wr) (fun i _ => n - (intOf i).toNat)
  case atStart => exact ⟨0, Nat.zero_le _, rfl, HZ0.out, But.refl _ _⟩
  case round =>
    obtain ⟨k, hk, rfl, hcs, hbut⟩ := hrel
    have HBU := hidD hbut
    have hYT := HUT.out k (by omega)
    have HYT := hidD hYT
    by_cases hlt : k < n
    · have hlti : (k : Int) < n := by omega
      have hAD := setAdd_cs (utS k) (g + 1) 0 k (by omega) wr hcs (HSI.out _ hYT)
      rw [HST.out _ _ (or_top hYT (two_top (by omega))), ← HUN.out] at hAD
      have HAD := hidD hAD
      clear hAD hcs hbut
      go_wp2_with (go_at_call 51; refine HAD.out.mono ?_; rintro e w6 ⟨rfl, hc6, hb6⟩; have HC6 := hidD hc6; have HBU6 := hidD (HBU.out.trans hb6); clear hc6 hb6)
      go_roundw
      case rel => exact ⟨k + 1, by omega, by go_num, HC6.out, HBU6.out⟩
      case measure => simp [intOf]; omega
    · obtain rfl : n = k := by omega
      have f0 : wr.cell? ⟨g + 1, 0, none⟩ = some (.int .u64 (lw (utS n) : Int)) := (hcs.cell 0).trans (HSI.out _ hYT).c0
      have f1 : wr.cell? ⟨g + 1, 1, none⟩ = some (.int .u64 (hw (utS n) : Int)) := (hcs.cell 1).trans (HSI.out _ hYT).c1
      have hc5 : CsAt wr g zc 61 := (HBU.out.rest g HR0.out.lt (by omega)).trans HR0.out
      have f4 : wr.cell? ⟨g, 0, none⟩ = some (.int .u64 0) := hc5.cell 0
      have f5 : wr.cell? ⟨g, 1, none⟩ = some (.int .u64 0) := hc5.cell 1
      have g4 := hc5.frz 0
      have g5 := hc5.frz 1
      have HBF : Hid (Below g w ((wr.setCell ⟨g, 0, none⟩ (.int .u64 (lw (utS n) : Int))).setCell ⟨g, 1, none⟩ (.int .u64 (hw (utS n) : Int)))) := ((HBL0.out.trans (HBU.out.bel.mono (Nat.le_succ _))).setCell (p := ⟨g, 0, none⟩) (Nat.le_refl _) _).setCell (p := ⟨g, 1, none⟩) (Nat.le_refl _) _
      have HXV : Hid (setV (utS n) = .agg #[.int .u64 (lw (utS n) : Int), .int .u64 (hw (utS n) : Int)]) := rfl
      generalize lw (utS n) = x0 at *
      generalize hw (utS n) = x1 at *
      clear hcs hbut
      go_wp2_with fail
      have hc9 : CsAt ((wr.setCell ⟨g, 0, none⟩ (.int .u64 (x0 : Int))).setCell ⟨g, 1, none⟩ (.int .u64 (x1 : Int))) g ((zc.setIfInBounds 0 (.int .u64 (x0 : Int))).setIfInBounds 1 (.int .u64 (x1 : Int))) 61 := (hc5.put 0 _).put 1 _
      have e0 := hc9.cell 0
      have e1 := hc9.cell 1
      rw [show ((zc.setIfInBounds 0 (.int .u64 (x0 : Int))).setIfInBounds 1 (.int .u64 (x1 : Int)))[0]? = some (.int .u64 (x0 : Int)) from rfl] at e0
      rw [show ((zc.setIfInBounds 0 (.int .u64 (x0 : Int))).setIfInBounds 1 (.int .u64 (x1 : Int)))[1]? = some (.int .u64 (x1 : Int)) from rfl] at e1
      clear hc9
      generalize ((wr.setCell ⟨g, 0, none⟩ (.int .u64 (x0 : Int))).setCell ⟨g, 1, none⟩ (.int .u64 (x1 : Int))) = w9 at *
      refine bodyPost_ret (v := .agg #[.int .u64 (x0 : Int), .int .u64 (x1 : Int)]) (by simp [results, Tryd.results32, go_sem, e0, e1]) rfl ?_
      exact ⟨by rw [HXV.out], by rw [HGG.out]; exact HBF.out⟩
end Go.Proofs.YtgmbkelmgolkpabDoor
