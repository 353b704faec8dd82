/- AesBlocks: all cases. -/
import Derived.Test.YtgefampdfhbmbaaBlk
namespace Go.Proofs.Ytgefampdfhbmbaa
open Go.RowKit
set_option linter.unusedVariables false

theorem rowsE_of_st {w : World} {B gs n R : Nat} {vo : Value} {vs : List Value} {rk : Nat → Nat → UInt8} {s : Nat → UInt8} (hn : 0 < n) (h : w.ownsRow B 22 1 vo n vs) (hs : StAt w gs vs R rk s n) : RowsE w vo ((List.range n).map fun r => toL (enTo R rk s r)) := by
  obtain ⟨g, cap, rfl, hb, hl, hc⟩ := row_shapeC h hn
  refine ⟨some ⟨g, 0, none⟩, cap, by simp, fun j hj => ?_⟩
  have hj : j < n := by simpa using hj
  obtain ⟨u, h1, h2⟩ := hs.2 j hj
  refine ⟨g, 0, u, rfl, hl, ?_, ?_⟩
  · have h3 := h.cells (g := g) rfl j u h1
    rw [show (⟨g, 0, none⟩ : Addr).add j = ⟨g, 0 + j, none⟩ from Addr.add_lit ..] at h3
    exact h3
  · have h3 : ((List.range n).map fun r => toL (enTo R rk s r)).getD j [] = toL (enTo R rk s j) := by
      rw [List.getD_eq_getElem?_getD, List.getElem?_map, List.getElem?_range hj]; rfl
    rw [h3]
    exact row_byD h2
/-- The two ciphers of a key, or none. -/
def KNil (P Q : Option Addr) (w : World) : Prop := P = none ∧ Q = none
def KTwo (n : Nat) (key : Nat → UInt8) (P Q : Option Addr) (w : World) : Prop := ∃ p b B, P = some ⟨p, 0, none⟩ ∧ Q = some ⟨b, 0, none⟩ ∧ AcAt w B p n key ∧ RcAt w b n key
theorem KNil.next (P Q : Option Addr) (w w' : World) (h : KNil P Q w) (hb : Below w.heap.size w w') : KNil P Q w' := h
theorem KTwo.next (n : Nat) (key : Nat → UInt8) (P Q : Option Addr) (w w' : World) (h : KTwo n key P Q w) (hb : Below w.heap.size w w') : KTwo n key P Q w' := by
  obtain ⟨p, b, B, h1, h2, h3, h4⟩ := h
  exact ⟨p, b, B, h1, h2, h3.next hb, h4.next hb⟩
theorem both_nilK (l : List UInt8) (hl : l.length ≤ 140737488355200) (h16 : l.length ≠ 16) (h24 : l.length ≠ 24) (h32 : l.length ≠ 32) (v : Value) (w : World) (hv : ByAt w v l) : Calls Try.prog 9 #[v] w fun e w' => ∃ P Q, e = .returned (.tuple #[.pointer P, .pointer Q, .bool true]) ∧ KNil P Q w' ∧ Below w.heap.size w w' :=
  (both_no l hl h16 h24 h32 v w hv).mono fun e w' h => ⟨none, none, h.1, ⟨rfl, rfl⟩, h.2⟩
theorem both_twoK (l : List UInt8) (n : Nat) (hn : n = 4 ∨ n = 6 ∨ n = 8) (hl : l.length = 4 * n) (v : Value) (w : World) (hv : ByAt w v l) : Calls Try.prog 9 #[v] w fun e w' => ∃ P Q, e = .returned (.tuple #[.pointer P, .pointer Q, .bool true]) ∧ KTwo n (blk l) P Q w' ∧ Below w.heap.size w w' :=
  (both_any l n hn hl v w hv).mono fun e w' ⟨p, b, h1, ⟨B, h2⟩, h3, h4⟩ => ⟨_, _, h1, ⟨p, b, B, rfl, rfl, h2, h3⟩, h4⟩
theorem same_world {f : FuncId} {args : Array Value} {w : World} {c : Int} (h : Calls Try.prog f args w fun e w' => e = .returned (.tuple #[.slice none 0 0, .int .i64 c]) ∧ w' = w) : Calls Try.prog f args w fun e w' => ∃ vo, e = .returned (.tuple #[vo, .int .i64 c]) ∧ ByAt w' vo [] ∧ Below w.heap.size w w' :=
  h.mono fun e w' h => ⟨_, h.1, by_none _, by rw [h.2]; exact Below.refl _ _⟩
theorem same_worldR {f : FuncId} {args : Array Value} {w : World} {c : Int} (h : Calls Try.prog f args w fun e w' => e = .returned (.tuple #[.slice none 0 0, .int .i64 c]) ∧ w' = w) : Calls Try.prog f args w fun e w' => ∃ vo, e = .returned (.tuple #[vo, .int .i64 c]) ∧ RowsE w' vo [] ∧ Below w.heap.size w w' :=
  h.mono fun e w' h => ⟨_, h.1, rowsE_nil _ _ _, by rw [h.2]; exact Below.refl _ _⟩
theorem sl_by {f : FuncId} {args : Array Value} {w : World} {c : Int} {L : List UInt8} (h : Calls Try.prog f args w fun e w' => ∃ vo, e = .returned (.tuple #[vo, .int .i64 c]) ∧ SlAt w' vo L ∧ Below w.heap.size w w') : Calls Try.prog f args w fun e w' => ∃ vo, e = .returned (.tuple #[vo, .int .i64 c]) ∧ ByAt w' vo L ∧ Below w.heap.size w w' :=
  h.mono fun e w' ⟨vo, h1, h2, h3⟩ => ⟨vo, h1, h2.by', h3⟩
theorem own_by {f : FuncId} {args : Array Value} {w : World} {c : Int} {L : List UInt8} {n : Nat} (h : Calls Try.prog f args w fun e w' => ∃ vo, e = .returned (.tuple #[vo, .int .i64 c]) ∧ w'.ownsRow w.heap.size 5 1 vo n (L.map encB) ∧ Below w.heap.size w w') : Calls Try.prog f args w fun e w' => ∃ vo, e = .returned (.tuple #[vo, .int .i64 c]) ∧ ByAt w' vo L ∧ Below w.heap.size w w' :=
  h.mono fun e w' ⟨vo, h1, h2, h3⟩ => ⟨vo, h1, row_byD h2, h3⟩
theorem nil_rows {f : FuncId} {args : Array Value} {w : World} {c : Int} (h : Calls Try.prog f args w fun e w' => ∃ a k, e = .returned (.tuple #[.slice a 0 k, .int .i64 c]) ∧ Below w.heap.size w w') : Calls Try.prog f args w fun e w' => ∃ vo, e = .returned (.tuple #[vo, .int .i64 c]) ∧ RowsE w' vo [] ∧ Below w.heap.size w w' :=
  h.mono fun e w' ⟨a, k, h1, h2⟩ => ⟨_, h1, rowsE_nil _ _ _, h2⟩
theorem aesBlocks_any (l d : List UInt8) (hl : l.length ≤ 140737488355200) (hd : d.length ≤ 140737488355200) (v u : Value) (w : World) (hv : ByAt w v l) (hu : ByAt w u d) : Calls Try.prog 4 #[v, u] w fun e w' => e = .returned (.bool true) ∧ Below w.heap.size w w' := by
  by_cases hk : l.length = 16 ∨ l.length = 24 ∨ l.length = 32
  · obtain ⟨n, hn, hn4⟩ : ∃ n, (n = 4 ∨ n = 6 ∨ n = 8) ∧ l.length = 4 * n := ⟨l.length / 4, by omega, by omega⟩
    have hn8 : n ≤ 8 := by omega
    by_cases h16 : d.length = 16
    · refine blocks_gen d (toL (enS (n + 6) (rkS n (blk l)) (blk d))) (toL (deS (n + 6) (rkS n (blk l)) (blk d))) hd ((List.range (n + 7)).map fun r => toL (enTo (n + 6) (rkS n (blk l)) (blk d) r)) (by simp; omega) 0 v u w hu (KTwo n (blk l)) (KTwo.next n (blk l)) (both_twoK l n hn hn4 v w hv) ?_ ?_ ?_ ?_ ?_ ?_
      · rintro P Q wA vA ⟨p, b, B, rfl, rfl, h3, h4⟩ hA
        exact sl_by (pEncrypt_any d h16 n B p hn8 (blk l) vA wA h3 hA)
      · rintro P Q wA vA ⟨p, b, B, rfl, rfl, h3, h4⟩ hA
        exact own_by (refEncrypt_any d h16 n hn8 (blk l) b vA wA h4 hA)
      · rintro P Q wA vA ⟨p, b, B, rfl, rfl, h3, h4⟩ hA
        exact sl_by (pDecrypt_any d h16 n B p hn8 (blk l) vA wA h3 hA)
      · rintro P Q wA vA ⟨p, b, B, rfl, rfl, h3, h4⟩ hA
        exact own_by (refDecrypt_any d h16 n hn8 (blk l) b vA wA h4 hA)
      · rintro P Q wA vA ⟨p, b, B, rfl, rfl, h3, h4⟩ hA
        exact (pSteps_any d h16 n B p hn8 (blk l) vA wA h3 hA).mono fun e w' ⟨vo, h1, h2, h3⟩ => ⟨vo, h1, h2.e, h3⟩
      · rintro P Q wA vA ⟨p, b, B, rfl, rfl, h3, h4⟩ hA
        exact (refSteps_any d h16 n hn8 (blk l) b vA wA h4 hA).mono fun e w' ⟨vo, h1, h2, vs, h5, gs, h6, h7⟩ => ⟨vo, h1, rowsE_of_st (by omega) h5 h7, h2⟩
    · refine blocks_gen d [] [] hd [] (by simp) 91 v u w hu (KTwo n (blk l)) (KTwo.next n (blk l)) (both_twoK l n hn hn4 v w hv) ?_ ?_ ?_ ?_ ?_ ?_
      · rintro P Q wA vA ⟨p, b, B, rfl, rfl, h3, h4⟩ hA
        exact sl_by (pEncrypt_no d h16 n B p (blk l) vA wA h3 hA)
      · rintro P Q wA vA ⟨p, b, B, rfl, rfl, h3, h4⟩ hA
        exact same_world (refEncrypt_no d h16 b vA wA hA)
      · rintro P Q wA vA ⟨p, b, B, rfl, rfl, h3, h4⟩ hA
        exact sl_by (pDecrypt_no d h16 n B p (blk l) vA wA h3 hA)
      · rintro P Q wA vA ⟨p, b, B, rfl, rfl, h3, h4⟩ hA
        exact same_world (refDecrypt_no d h16 b vA wA hA)
      · rintro P Q wA vA ⟨p, b, B, rfl, rfl, h3, h4⟩ hA
        exact nil_rows (pSteps_no d h16 n B p (blk l) vA wA h3 hA)
      · rintro P Q wA vA ⟨p, b, B, rfl, rfl, h3, h4⟩ hA
        exact same_worldR (refSteps_no d h16 b vA wA hA)
  · refine blocks_gen d [] [] hd [] (by simp) 2 v u w hu KNil KNil.next (both_nilK l hl (by omega) (by omega) (by omega) v w hv) ?_ ?_ ?_ ?_ ?_ ?_
    · rintro P Q wA vA ⟨rfl, rfl⟩ hA
      exact sl_by (pEncrypt_nil vA wA)
    · rintro P Q wA vA ⟨rfl, rfl⟩ hA
      exact same_world (refEncrypt_nil vA wA)
    · rintro P Q wA vA ⟨rfl, rfl⟩ hA
      exact sl_by (pDecrypt_nil vA wA)
    · rintro P Q wA vA ⟨rfl, rfl⟩ hA
      exact same_world (refDecrypt_nil vA wA)
    · rintro P Q wA vA ⟨rfl, rfl⟩ hA
      exact nil_rows (pSteps_nil vA wA)
    · rintro P Q wA vA ⟨rfl, rfl⟩ hA
      exact same_worldR (refSteps_nil vA wA)
end Go.Proofs.Ytgefampdfhbmbaa
