/- The document's cipher while it is made. -/
import Derived.Test.YtgefampdfhbmbaaMf
import Derived.Test.YtgefampdfhbmbaaAer
import Derived.Test.YtgefampdfhbmbaaMh
namespace Go.Proofs.Ytgefampdfhbmbaa
open Go.RowKit
set_option linter.unusedVariables false

def wdV (T : Nat → Nat → UInt8) (i : Nat) : List Value := [encB (T i 0), encB (T i 1), encB (T i 2), encB (T i 3)]
def wdL (T : Nat → Nat → UInt8) : Nat → List Value
  | 0 => []
  | k + 1 => wdL T k ++ wdV T k
theorem wdL_len (T : Nat → Nat → UInt8) : ∀ k, (wdL T k).length = k * 4
  | 0 => rfl
  | k + 1 => by rw [wdL, List.length_append, wdL_len T k]; simp [wdV]; omega
theorem wdL_congr {T T' : Nat → Nat → UInt8} : ∀ {k : Nat}, (∀ i, i < k → ∀ j, j < 4 → T i j = T' i j) → wdL T k = wdL T' k
  | 0, _ => rfl
  | k + 1, h => by
    rw [wdL, wdL, wdL_congr fun i hi j hj => h i (by omega) j hj]
    unfold wdV
    rw [h k (by omega) 0 (by omega), h k (by omega) 1 (by omega), h k (by omega) 2 (by omega), h k (by omega) 3 (by omega)]
theorem wdL_at (T : Nat → Nat → UInt8) : ∀ {k i : Nat}, i < k → ∀ j, j < 4 → (wdL T k)[4 * i + j]? = some (encB (T i j))
  | k + 1, i, hi, j, hj => by
    rw [wdL]
    by_cases h : i < k
    · rw [List.getElem?_append_left (by rw [wdL_len]; omega)]; exact wdL_at T h j hj
    · obtain rfl : i = k := by omega
      rw [List.getElem?_append_right (by rw [wdL_len]; omega), wdL_len, show 4 * i + j - i * 4 = j by omega]
      rcases (show j = 0 ∨ j = 1 ∨ j = 2 ∨ j = 3 by omega) with h | h | h | h <;> subst h <;> rfl
/-- The cipher in block b, its words so far. -/
structure CpB (w : World) (base n b gb cb : Nat) (CB : Array Value) (T : Nat → Nat → UInt8) (vW : Value) (k : Nat) : Prop where
  blk : w.heap[b]? = some (.cells #[vW, .int .i64 ((n + 6 : Nat) : Int), .slice (some ⟨gb, 0, none⟩) 256 cb] (35 : TypeId) (0, 0))
  own : w.ownsRow base 64 4 vW k (wdL T k)
  box : w.heap[gb]? = some (.cells CB (5 : TypeId) (0, 0))
theorem CpB.next {w w' : World} {base n b gb cb k : Nat} {CB : Array Value} {T : Nat → Nat → UInt8} {vW : Value} (h : CpB w base n b gb cb CB T vW k) (hb : Below w.heap.size w w') : CpB w' base n b gb cb CB T vW k :=
  ⟨(hb.block _ (row_lt h.blk)).trans h.blk, row_below h.own hb, (hb.block _ (row_lt h.box)).trans h.box⟩
theorem ty_ne {w : World} {g b : Nat} {C D : Array Value} {t u : TypeId} {x y : Nat × Nat} (hg : w.heap[g]? = some (.cells C t x)) (hb : w.heap[b]? = some (.cells D u y)) (hn : t ≠ u) : g ≠ b := fun h => by
  subst h
  rw [hg] at hb
  cases hb
  exact hn rfl
theorem own_ne {w : World} {base e sz k b : Nat} {v : Value} {xs : List Value} {D : Array Value} {u : TypeId} {y : Nat × Nat} (h : w.ownsRow base e sz v k xs) (hb : w.heap[b]? = some (.cells D u y)) (hn : e ≠ u) : some b ≠ v.ownBlock := fun hc => by
  rcases h.2 with ⟨rfl, _⟩ | ⟨g, cap, cur, rfl, _, hg, _⟩
  · simp [Value.ownBlock] at hc
  · simp [Value.ownBlock] at hc
    exact ty_ne hg hb hn hc.symm
theorem own_other {w : World} {base e sz k b o : Nat} {v u : Value} {xs : List Value} {D : Array Value} {t : TypeId} {y : Nat × Nat} (h : w.ownsRow base e sz v k xs) (hb : w.heap[b]? = some (.cells D t y)) (hn : e ≠ t) : (w.setCell ⟨b, o, none⟩ u).ownsRow base e sz v k xs := by
  refine ⟨h.1, ?_⟩
  rcases h.2 with h0 | ⟨g, cap, cur, rfl, hb', hg, h3⟩
  · exact .inl h0
  · exact .inr ⟨g, cap, cur, rfl, hb', (heap_setCell_other w ⟨b, o, none⟩ g u (ty_ne hg hb hn)).trans hg, h3⟩
/-- One word more. -/
theorem CpB.push {W w4 : World} {base n b gb cb k : Nat} {CB : Array Value} {T T' : Nat → Nat → UInt8} {vW v' : Value} {news : List Value} (h : CpB W base n b gb cb CB T vW k) (ho : w4.ownsRow base 64 4 v' (k + 1) (wdL T k ++ news)) (hg : W.grownBy w4 vW.ownBlock) (he : wdL T' (k + 1) = wdL T k ++ news) : CpB (w4.setCell ⟨b, 0, none⟩ v') base n b gb cb CB T' v' (k + 1) := by
  have hb4 := (hg.block b (row_lt h.blk) (own_ne h.own h.blk (by decide))).trans h.blk
  have hx4 := (hg.block gb (row_lt h.box) (own_ne h.own h.box (by decide))).trans h.box
  refine ⟨?_, ?_, ?_⟩
  · exact heap_setCell_same w4 b 0 _ 35 v' hb4
  · rw [he]; exact own_other ho hb4 (by decide)
  · exact (heap_setCell_other w4 ⟨b, 0, none⟩ gb v' (ty_ne hx4 hb4 (by decide))).trans hx4
theorem Try.info64 : (Try.prog.info? 64).map (fun i => (i.zero, i.size, i.bytes)) = some (some (.agg #[.int .u8 0, .int .u8 0, .int .u8 0, .int .u8 0]), 4, 4) := by kernel_rfl
theorem new_cell4 (w : World) (a b c d : Value) (t : TypeId) : ∀ j v, [a, b, c, d][j]? = some v → (w.alloc (.cells #[a, b, c, d] t)).cell? ((⟨w.heap.size, 0, none⟩ : Addr).add j) = some v := fun j v h => by
  rw [show (⟨w.heap.size, 0, none⟩ : Addr).add j = ⟨w.heap.size, 0 + j, none⟩ from Addr.add_lit .., Nat.zero_add, cell_of_row _ _ _ _ _ _ (heap_alloc_last _ _)]
  simpa using h
/-- What it tells when all words are there. -/
theorem CpB.done {w : World} {base n b gb cb : Nat} {CB : Array Value} {key : Nat → UInt8} {vW : Value} (hn : 0 < n) (h : CpB w base n b gb cb CB (wkS n key) vW (4 * (n + 7))) (hbx : ∀ j, j < 256 → CB[j]? = some (.int .u8 (sbN j : Int))) (hB1 : base ≤ b) (hB2 : base ≤ gb) : RcIn w base b n key := by
  rcases h.own.2 with ⟨_, h0⟩ | ⟨gw, cw, cur, rfl, hb, hg, hc, hm, hsz, ht⟩
  · omega
  · refine ⟨gw, cw, gb, cb, ?_, ?_, ?_, fun i hi k hk => ?_, fun j hj => ?_, row_lt h.blk, row_lt hg, row_lt h.box, hB1, hb, hB2⟩
    · rw [cell_of_row _ _ _ _ _ _ h.blk]; rfl
    · rw [cell_of_row _ _ _ _ _ _ h.blk]; rfl
    · rw [cell_of_row _ _ _ _ _ _ h.blk]; rfl
    · rw [cell_of_row _ _ _ _ _ _ hg]
      have h1 := wdL_at (wkS n key) (k := 4 * (n + 7)) hi k hk
      rw [← ht, List.getElem?_take, if_pos (by omega), Array.getElem?_toList] at h1
      exact h1
    · rw [cell_of_row _ _ _ _ _ _ h.box]; exact hbx j hj
theorem CpB.bx {w : World} {base n b gb cb k : Nat} {CB : Array Value} {T : Nat → Nat → UInt8} {vW : Value} (h : CpB w base n b gb cb CB T vW k) (hbx : ∀ j, j < 256 → CB[j]? = some (.int .u8 (sbN j : Int))) : BxAt w b gb cb :=
  ⟨by rw [cell_of_row _ _ _ _ _ _ h.blk]; rfl, fun j hj => by rw [cell_of_row _ _ _ _ _ _ h.box]; exact hbx j hj, row_lt h.blk, row_lt h.box⟩
set_option maxRecDepth 100000 in
theorem refNew_no (l : List UInt8) (h16 : l.length ≠ 16) (h24 : l.length ≠ 24) (h32 : l.length ≠ 32) (v : Value) (w : World) (hv : ByAt w v l) : Calls Try.prog 39 #[v] w fun e w' => e = .returned (.tuple #[.pointer none, .int .i64 90]) ∧ w' = w := by
  obtain ⟨a', cap, rfl, hsh⟩ := hv.shape
  clear hsh hv
  have e1 : ((l.length : Int) != 16) = true := by
    have : ¬ ((l.length : Int) = 16) := by omega
    simpa using this
  have e2 : ((l.length : Int) != 24) = true := by
    have : ¬ ((l.length : Int) = 24) := by omega
    simpa using this
  have e3 : ((l.length : Int) != 32) = true := by
    have : ¬ ((l.length : Int) = 32) := by omega
    simpa using this
  clear h16 h24 h32
  generalize l.length = LL at *
  go_enter Try.func39, Try.ntmps39
  go_wp2_with fail
  refine bodyPost_ret (v := .tuple #[.pointer none, .int .i64 90]) (by simp [results, Try.results39, go_sem]) rfl ?_
  exact ⟨rfl, rfl⟩
end Go.Proofs.Ytgefampdfhbmbaa
