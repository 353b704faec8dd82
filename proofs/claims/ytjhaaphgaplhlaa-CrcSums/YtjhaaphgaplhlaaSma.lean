/- CrcSums over all models. -/
import Derived.Test.YtjhaaphgaplhlaaSms
namespace Go.Proofs.Ytjhaaphgaplhlaa
open Go.RowKit
set_option linter.unusedVariables false

theorem sums_any (m : Mw) (hm : MwOk m) (bs : List UInt8) (hl : bs.length ≤ 140737488355200) (sl : Value) (w : World) (hs : ByAt w sl bs) : Calls Try.prog 4 #[m.v, sl] w fun e w' => e = .returned (.bool true) ∧ Below w.heap.size w w' := by
  by_cases hv : m.Valid
  · have hk := hv.2.2
    have hw := hv.v
    by_cases ha : m.md.w % 8 = 0 ∧ m.md.inn = m.md.out
    · refine sums_of m bs hl true (sumS m.md bs) (sumS m.md chk) (resS m.md) 256 (tabS m.md) (appS m.md bs) 0 0 0 (fun w => valid_any m hm true (by simp [hv]) w) (fun w => refValid_any m hm true (by simp [hv]) w)
        (fun v w h => by rw [hw]; exact sum_some m.md hk bs (by omega) v w h) (fun v w h => by rw [hw]; exact refSum_some m.md hk bs (by omega) v w h) (by omega)
        (fun w => by
          rw [hw]
          exact (table_some m.md hk w).mono fun e w' ⟨g, h1, h2, h3, h4⟩ => ⟨_, h1, NsAt.fill h3, h4⟩)
        (fun w => by
          rw [hw]
          exact (refTable_some m.md hk w).mono fun e w' ⟨v, h1, h2, h3⟩ => ⟨v, h1, NsAt.row h2, h3⟩)
        (by rw [appS_length]; have := hk.hi; omega)
        (fun v w h => by
          rw [hw]
          exact (append_some m.md hk ha.1 ha.2 bs (by omega) v w h).mono fun e w' ⟨g, h1, h2, h3⟩ => ⟨_, h1, by rw [appS_length]; exact h2, h3⟩)
        (fun v w h => by rw [hw]; exact refAppend_some m.md hk ha.1 ha.2 bs hl v w h)
        (fun w => by rw [hw]; exact residue_some m.md hk ha.1 ha.2 w) (fun w => by rw [hw]; exact refResidue_some m.md hk ha.1 ha.2 w)
        (fun w => by rw [hw]; exact check_some m.md hk w) (fun v w h => by rw [hw]; exact refSum_some m.md hk chk (by decide) v w h) sl w hs
    · refine sums_of m bs hl true (sumS m.md bs) (sumS m.md chk) 0 256 (tabS m.md) [] 0 1 1 (fun w => valid_any m hm true (by simp [hv]) w) (fun w => refValid_any m hm true (by simp [hv]) w)
        (fun v w h => by rw [hw]; exact sum_some m.md hk bs (by omega) v w h) (fun v w h => by rw [hw]; exact refSum_some m.md hk bs (by omega) v w h) (by omega)
        (fun w => by
          rw [hw]
          exact (table_some m.md hk w).mono fun e w' ⟨g, h1, h2, h3, h4⟩ => ⟨_, h1, NsAt.fill h3, h4⟩)
        (fun w => by
          rw [hw]
          exact (refTable_some m.md hk w).mono fun e w' ⟨v, h1, h2, h3⟩ => ⟨v, h1, NsAt.row h2, h3⟩)
        (by simp)
        (fun v w h => by
          rw [hw]
          exact (append_arg m.md hk ha v w).mono fun e w' ⟨h1, h2⟩ => ⟨_, h1, World.ownsRow_nil _ _ _ _, h2⟩)
        (fun v w h => by
          rw [hw]
          exact (refAppend_arg m.md hk ha bs (by omega) v w h).mono fun e w' ⟨h1, h2⟩ => ⟨_, h1, World.ownsRow_nil _ _ _ _, h2⟩)
        (fun w => residue_none m hm 1 (by omega) (fun sl w => by rw [hw]; exact append_arg m.md hk ha sl w) w) (fun w => refResidue_none m hm 1 (by omega) (fun w => by rw [hw]; exact refAppend_arg m.md hk ha [] (by simp) _ w (nil_by w)) w)
        (fun w => by rw [hw]; exact check_some m.md hk w) (fun v w h => by rw [hw]; exact refSum_some m.md hk chk (by decide) v w h) sl w hs
  · refine sums_of m bs hl false 0 0 0 0 (fun _ => 0) [] 40 40 40 (fun w => valid_any m hm false (by simp [hv]) w) (fun w => refValid_any m hm false (by simp [hv]) w)
      (fun v w h => sum_none m hm hv v w) (fun v w h => refSum_none m hm hv v w) (by omega)
      (fun w => (table_none m hm hv w).mono fun e w' ⟨h1, h2⟩ => ⟨_, h1, NsAt.nil _ _ _, h2⟩)
      (fun w => (refTable_none m hm hv w).mono fun e w' ⟨h1, h2⟩ => ⟨_, h1, NsAt.nil _ _ _, h2⟩)
      (by simp)
      (fun v w h => (append_model m hm hv v w).mono fun e w' ⟨h1, h2⟩ => ⟨_, h1, World.ownsRow_nil _ _ _ _, h2⟩)
      (fun v w h => (refAppend_model m hm hv v w).mono fun e w' ⟨h1, h2⟩ => ⟨_, h1, World.ownsRow_nil _ _ _ _, h2⟩)
      (fun w => residue_none m hm 40 (by omega) (fun sl w => append_model m hm hv sl w) w) (fun w => refResidue_none m hm 40 (by omega) (fun w => refAppend_model m hm hv _ w) w)
      (fun w => check_none m hm hv w) (fun v w h => refSum_none m hm hv v w) sl w hs
end Go.Proofs.Ytjhaaphgaplhlaa
