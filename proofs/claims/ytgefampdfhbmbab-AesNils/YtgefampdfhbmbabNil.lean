/- AesNils: the walk. -/
import Derived.Test.YtgefampdfhbmbabLw3
import Derived.Test.YtgefampdfhbmbabNls
namespace Go.Proofs.Ytgefampdfhbmbab
open Go.RowKit
set_option linter.unusedVariables false

set_option maxRecDepth 100000 in
set_option maxHeartbeats 1600000 in
theorem aesNils_any (v : Value) (n : Int) (w : World) : Calls Try.prog 4 #[v, .int .i64 n] w fun e w' => e = .returned (.bool true) ∧ Below w.heap.size w w' := by
  have HAV := hidD alive_any
  have H1 := hidD (fun w => pKey_nil n w)
  have H2 := hidD (fun w => pEncrypt_nil v w)
  have H3 := hidD (fun w => pDecrypt_nil v w)
  have H4 := hidD (fun w => pSteps_nil v w)
  have H5 := hidD (fun w => pCounter_nil v v w)
  have H6 := hidD (fun w => pChain_nil v v w)
  have H7 := hidD (fun w => pUnchain_nil v v w)
  have H8 := hidD (fun w => pMac_nil v w)
  have H9 := hidD (fun w => pRounds_nil w)
  go_enter Try.func4, Try.ntmps4
  go_wp2_with (first
    | (go_at_call 9; refine (H1.out _).mono ?_; rintro e w1 ⟨v1, rfl, _, hb⟩; have B1 := hidD hb; clear hb H1)
    | (go_at_call 7; refine (H2.out _).mono ?_; rintro e w2 ⟨v2, rfl, _, hb⟩; have B2 : Hid (Below w.heap.size w w2) := Below.next B1.out hb; clear hb H2 B1)
    | (go_at_call 10; refine (H3.out _).mono ?_; rintro e w3 ⟨v3, rfl, _, hb⟩; have B3 : Hid (Below w.heap.size w w3) := Below.next B2.out hb; clear hb H3 B2)
    | (go_at_call 11; refine (H4.out _).mono ?_; rintro e w4 ⟨a4, c4, rfl, hb⟩; have B4 : Hid (Below w.heap.size w w4) := Below.next B3.out hb; clear hb H4 B3)
    | (go_at_call 12; refine (H5.out _).mono ?_; rintro e w5 ⟨v5, rfl, _, hb⟩; have B5 : Hid (Below w.heap.size w w5) := Below.next B4.out hb; clear hb H5 B4)
    | (go_at_call 13; refine (H6.out _).mono ?_; rintro e w6 ⟨v6, rfl, _, hb⟩; have B6 : Hid (Below w.heap.size w w6) := Below.next B5.out hb; clear hb H6 B5)
    | (go_at_call 14; refine (H7.out _).mono ?_; rintro e w7 ⟨v7, rfl, _, hb⟩; have B7 : Hid (Below w.heap.size w w7) := Below.next B6.out hb; clear hb H7 B6)
    | (go_at_call 15; refine (H8.out _).mono ?_; rintro e w8 ⟨v8, rfl, _, hb⟩; have B8 : Hid (Below w.heap.size w w8) := Below.next B7.out hb; clear hb H8 B7)
    | (go_at_call 16; refine (H9.out _).mono ?_; rintro e w9 ⟨rfl, hb⟩; have B9 : Hid (Below w.heap.size w w9) := Below.next B8.out hb; clear hb H9 B8)
    | (go_at_call 5; refine (HAV.out _).mono ?_; rintro e wa ⟨rfl, hb⟩; have Ba : Hid (Below w.heap.size w wa) := Below.next B9.out hb; clear hb HAV B9))
  go_ret
  exact ⟨rfl, Ba.out⟩
end Go.Proofs.Ytgefampdfhbmbab
