/- What masked answers. -/
import Derived.Test.YtnldpofljeodiaaShd
namespace Go.Proofs.Ytnldpofljeodiaa
open Go.RowKit
set_option linter.unusedVariables false

set_option maxRecDepth 100000 in
set_option maxHeartbeats 1600000 in
theorem masked_any (f : Nat → UInt8) (m : UInt8) (g0 off len cap : Nat) (hl : len ≤ 4096) (w : World) (hg : g0 < w.heap.size) (hc : ∀ k, k < len → w.cell? ⟨g0, off + k, none⟩ = some (.int .u8 ((f k).toNat : Int))) : Calls Try.prog 58 #[.slice (some ⟨g0, off, none⟩) len cap, .int .u8 (m.toNat : Int)] w fun e w' => ∃ g, e = .returned (.slice (some ⟨g, 0, none⟩) len len) ∧ w.heap.size ≤ g ∧ RowZ w' g .u8 len 5 (fun i => ((f i ^^^ m).toNat : Int)) ∧ Below w.heap.size w w' := by
  have HC := hidD hc
  have HGL := hidD hg
  clear hc hg
  go_enter Try.func58, Try.ntmps58
  go_wp2_with (at_make; refine wpList_makeB _ rfl _ _ rfl .i64 .i64 (len : Int) (len : Int) len rfl rfl rfl rfl (by omega) ?_; intro w1 hr1 hb1; have X7 := hidD hr1.out; have X4 := hidD hb1; clear hr1 hb1)
  have X7' : Hid (RowZ w1 w.heap.size .u8 len 5 (fun j => ((if j < 0 then f j ^^^ m else 0 : UInt8).toNat : Int))) := X7.out.congr fun j _ => by rw [if_neg (by omega)]; rfl
  clear X7
  generalize hgs : w.heap.size = gs at *
  have HGS := hidD hgs
  clear hgs
  go_loopw [13] (fun iv wr => ∃ i : Nat, i ≤ len ∧ iv = .int .i64 (i : Int) ∧ RowZ wr gs .u8 len 5 (fun j => ((if j < i then f j ^^^ m else 0 : UInt8).toNat : Int)) ∧ Below gs w wr) (fun iv _ => len - (intOf iv).toNat)
  case atStart => exact ⟨0, by omega, rfl, X7'.out, X4.out⟩
  case round =>
    clear X7' X4
    obtain ⟨i, hi, rfl, hrow, hbel⟩ := hrel
    by_cases hlt : i < len
    · have hlti : (i : Int) < (len : Int) := by omega
      have hcc : wr.cell? ⟨g0, off + i, none⟩ = some (.int .u8 ((f i).toNat : Int)) := (hbel.cell (p := ⟨g0, off + i, none⟩) HGL.out).trans (HC.out i hlt)
      have ct := hrow.cell (k := i) hlt
      have cf := hrow.frozen i
      have hx : bits .xor .u8 ((f i).toNat : Int) (m.toNat : Int) = ((f i ^^^ m).toNat : Int) := by rw [UInt8.toNat_xor]; exact u8_xor_nat _ _ (UInt8.toNat_lt _) (UInt8.toNat_lt _)
      have HST : Hid (RowZ (wr.setCell ⟨gs, i, none⟩ (.int .u8 ((f i ^^^ m).toNat : Int))) gs .u8 len 5 (fun j => ((if j < i + 1 then f j ^^^ m else 0 : UInt8).toNat : Int))) := (hrow.set hlt _).congr fun j hj => by
        by_cases h : j = i
        · subst h; rw [if_pos rfl, if_pos (by omega)]
        · rw [if_neg h]
          by_cases h2 : j < i
          · rw [if_pos h2, if_pos (by omega)]
          · rw [if_neg h2, if_neg (by omega)]
      have HSB : Hid (Below gs w (wr.setCell ⟨gs, i, none⟩ (.int .u8 ((f i ^^^ m).toNat : Int)))) := below_setCell hbel (Nat.le_refl _) _ _
      clear hrow hbel
      generalize ((f i ^^^ m).toNat : Int) = Z at *
      generalize ((f i).toNat : Int) = FI at *
      generalize (m.toNat : Int) = MM at *
      go_wp2_with fail
      go_roundw
      case rel =>
        first
        | exact ⟨i + 1, by omega, by go_num, HST.out, HSB.out⟩
        | ((repeat apply Exists.intro); refine And.intro ?_ rfl; exact ⟨i + 1, by omega, by go_num, HST.out, HSB.out⟩)
      case measure => simp [intOf]; omega
    · obtain rfl : i = len := by omega
      have hlti : ¬ (i : Int) < (i : Int) := by omega
      have HF : Hid (RowZ wr gs .u8 i 5 (fun j => ((f j ^^^ m).toNat : Int))) := hrow.congr fun j hj => by rw [if_pos hj]
      have HBF := hidD hbel
      clear hrow hbel
      go_wp2_with fail
      go_ret
      refine ⟨gs, rfl, by rw [HGS.out]; exact Nat.le_refl _, HF.out, ?_⟩
      rw [HGS.out]; exact HBF.out
end Go.Proofs.Ytnldpofljeodiaa
