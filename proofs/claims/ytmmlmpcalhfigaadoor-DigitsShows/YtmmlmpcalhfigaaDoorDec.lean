/- What Decimal of the program answers. -/
import Derived.Test.YtmmlmpcalhfigaaDoorMisc
import Derived.Test.YtmmlmpcalhfigaaDoorShelf
namespace Go.Proofs.YtmmlmpcalhfigaaDoor
open Go.RowKit
set_option linter.unusedVariables false

theorem hexC_dec : ∀ d : Fin 10, hexC d.val = UInt8.ofNat (48 + d.val) := by decide
theorem dig_dec : ∀ (f u : Nat) (acc : List UInt8), u < 10 ^ f → 0 < u → digS 10 f u acc = Lib.decDigits u ++ acc
  | 0, u, acc, h, hu => by simp at h; omega
  | f + 1, u, acc, h, hu => by
    have hc : hexC (u % 10) = UInt8.ofNat (48 + u % 10) := hexC_dec ⟨u % 10, by omega⟩
    rw [digS_step (.inl hu)]
    by_cases h10 : u < 10
    · have h0 : u / 10 = 0 := by omega
      rw [h0, digS_stop (by simp), Lib.decDigits, dif_pos h10, hc, show u % 10 = u by omega]
      rfl
    · have h1 : u / 10 < 10 ^ f := by rw [Nat.div_lt_iff_lt_mul (by omega)]; rw [Nat.pow_succ] at h; exact h
      rw [dig_dec f (u / 10) _ h1 (by omega), hc]
      conv => rhs; rw [Lib.decDigits, dif_neg h10]
      simp
theorem dig_dec0 (u : Nat) (h : u ≤ 18446744073709551615) : digS 10 65 u [] = Lib.decDigits u := by
  by_cases hu : 0 < u
  · have h1 : (18446744073709551616 : Nat) ≤ 10 ^ 65 := by decide
    rw [dig_dec 65 u [] (by omega) hu, List.append_nil]
  · obtain rfl : u = 0 := by omega
    rw [Lib.decDigits, dif_pos (by omega)]
    rfl
theorem dec_itoa {v : Int} (h0 : -9223372036854775808 ≤ v) (h1 : v ≤ 9223372036854775807) : Lib.itoa v = decS v := by
  unfold Lib.itoa decS
  by_cases h : v < 0
  · rw [if_pos h, if_neg (by omega), dig_dec0 _ (by omega)]
    congr 2
    omega
  · rw [if_neg h, if_pos (by omega), dig_dec0 _ (by omega)]

set_option maxRecDepth 100000 in
set_option maxHeartbeats 400000 in
theorem decimal_any (v : Int) (h0 : -9223372036854775808 ≤ v) (h1 : v ≤ 9223372036854775807) (w : World) (htab : Lib.TabIs Tryd.prog w "internal/strconv.uint64pow10" .u64 Lib.pow10Tab) : Calls Tryd.prog 8 #[.int .i64 v] w fun e w' => e = .returned (.string ⟨(decS v).toArray⟩) ∧ ∃ k os, w' = Sort.grow (w.drewN k) os := by
  have HF := hidD (Tryd.strconv_FormatInt_10 v h0 h1 w htab)
  rw [dec_itoa h0 h1] at HF
  generalize decS v = D at *
  clear htab
  go_enter Tryd.func8, Tryd.ntmps8
  go_wp2_with (go_at_call 18; refine HF.out.mono ?_; rintro e w' ⟨rfl, k, os, rfl⟩)
  go_ret
  exact ⟨rfl, k, os, rfl⟩
end Go.Proofs.YtmmlmpcalhfigaaDoor
