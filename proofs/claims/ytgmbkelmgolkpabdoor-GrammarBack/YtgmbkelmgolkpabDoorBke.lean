/- What a grammar that a text's rules make answers: its text, its numbers, its start, how many are of no use. -/
import Derived.Test.YtgmbkelmgolkpabDoorGj
import Derived.Test.YtgmbkelmgolkpabDoorGt
import Derived.Test.YtgmbkelmgolkpabDoorRul
import Derived.Test.YtgmbkelmgolkpabDoorGnl
namespace Go.Proofs.YtgmbkelmgolkpabDoor
open Go.RowKit Go.Maps
set_option linter.unusedVariables false

/-- What a text that is taken tells. -/
theorem pars_nm {x : Tx} (h : (prR x).2 = 0) : ∀ r ∈ parsL x, 1 ≤ r.length ∧ ∀ y ∈ r, nmS y = true := by
  have hG : prG x = true := by
    cases hg : prG x with
    | true => rfl
    | false =>
      unfold prR at h
      rw [hg] at h
      split at h
      · cases h
      · cases h
  unfold prG at hG
  rw [List.all_eq_true] at hG
  exact rd_names (lnsS x) (lnsS x).length fun j hj => hG j (List.mem_range.2 hj)
theorem rd_heads (ls : List Tx) : ∀ k, ∀ r ∈ rdTo ls k, (lfS r).getD 0 0 ≠ 35
  | 0 => fun r hr => by cases hr
  | k + 1 => by
    have ih := rd_heads ls k
    intro r hr
    rw [rdTo] at hr
    split at hr
    · exact ih r hr
    · rename_i hs
      rcases List.mem_append.1 hr with hr | hr
      · exact ih r hr
      · unfold lfS
        rw [alS_left _ r hr]
        unfold skipS at hs
        rw [Bool.or_eq_true, beq_iff_eq] at hs
        exact fun e => hs (.inr e)
theorem pars_nml {x : Tx} (h : (prR x).2 = 0) (h1 : 1 ≤ (parsL x).length) : NmL (parsL x) := ⟨pars_nm h, rd_heads _ _, h1⟩
theorem nm_short {x : Tx} (h : nmS x = true) : x.length ≤ 32 := by
  unfold nmS at h
  simp only [Bool.and_eq_true, decide_eq_true_eq] at h
  exact h.1.1.1.1.2
theorem nam_short {T O : List Tx} (h : Nam T O) (s : Nat) : ((allN T O).getD s []).length ≤ 32 := by
  by_cases hs : s < (allN T O).length
  · by_cases ht : s = T.length
    · have e : (allN T O).getD s [] = tEnd := by
        rw [ht]; unfold allN
        simp only [List.flatten_cons, List.flatten_nil, List.append_nil]
        rw [List.getD_eq_getElem?_getD, List.getElem?_append_right (Nat.le_refl _), Nat.sub_self]; rfl
      rw [e]; decide
    · rcases alN_split hs ht with ⟨h1, h2⟩ | ⟨k, h1, h2, h3⟩
      · rw [h2]; exact nm_short (h.all _ (.inl (getD_mem h1)))
      · rw [h3]; exact nm_short (h.all _ (.inr (getD_mem h2)))
  · rw [List.getD_eq_getElem?_getD, List.getElem?_eq_none (by omega)]; exact Nat.zero_le _
/-- A grammar of these rules lies in block p. -/
def GL (w : World) (p : Nat) (L : List (List Tx)) : Prop := ∃ nul bg fo, GfAt w p (teS L) (otS L) (nmN (teS L) (otS L) (stS L)) (L.map (rnF (nuF (teS L) (otS L)))) nul bg fo
theorem GL.next {w w' : World} {p : Nat} {L : List (List Tx)} (h : GL w p L) (hb : Below w.heap.size w w') : GL w' p L := by
  obtain ⟨nul, bg, fo, h⟩ := h
  exact ⟨nul, bg, fo, h.next hb⟩
theorem GL.one {w : World} {p : Nat} {L : List (List Tx)} (h : GL w p L) : 1 ≤ L.length ∧ L.length ≤ 128 ∧ (teS L).length + 1 + (otS L).length ≤ 128 := by
  obtain ⟨nul, bg, fo, h⟩ := h
  have h1 := h.one
  have h2 := h.len
  have h3 := h.few
  rw [List.length_map] at h1 h2
  rw [allN_len] at h3
  exact ⟨h1, h2, h3⟩
theorem inl_of {L : List (List Tx)} (hL : NmL L) : InL (teS L) (otS L) L := fun r hr => ⟨(hL.nm r hr).1, fun x hx => in_names hr hx⟩
theorem st_in {L : List (List Tx)} (hL : NmL L) : stS L ∈ otS L := by
  have hm : L.getD 0 [] ∈ L := getD_memL hL.one
  exact left_in hm (hL.nm _ hm).1
theorem bk15 {w : World} {p : Nat} {L : List (List Tx)} (hL : NmL L) (h : GL w p L) : Calls Tryd.prog 15 #[.pointer (some ⟨p, 0, none⟩)] w fun e w' => e = .returned (.string (bA (txtS L))) ∧ Below w.heap.size w w' := by
  obtain ⟨nul, bg, fo, h⟩ := h
  have hn := nam_of hL.nm
  obtain ⟨gn, on, nc, gr, og, cr, hw⟩ := h.gw
  have := text_any hw h.ok h.few (nam_short hn) h.len
  rw [tx_txt hn (inl_of hL)] at this
  exact this
theorem bk16 {w : World} {p : Nat} {L : List (List Tx)} (h : GL w p L) : Calls Tryd.prog 16 #[.pointer (some ⟨p, 0, none⟩)] w fun e w' => ∃ a c, e = .returned (.slice a L.length c) ∧ Below w.heap.size w w' := by
  obtain ⟨nul, bg, fo, h⟩ := h
  obtain ⟨cs, h1, _, _, _, _, ⟨vr, h4, h5⟩, _⟩ := h.cs
  refine (rules_any (p := p) _ _ h.ok (by have := h.len; omega) vr w h1.lt (by rw [h1.cell]; exact h4) h5).mono fun e w' ⟨u, e1, e2, e3⟩ => ?_
  obtain ⟨a, c, rfl, _⟩ := e2
  exact ⟨a, c, by rw [e1, List.length_map], e3⟩
theorem bk10 {w : World} {p : Nat} {L : List (List Tx)} (h : GL w p L) : Calls Tryd.prog 10 #[.pointer (some ⟨p, 0, none⟩)] w fun e w' => e = .returned (.int .i64 (((teS L).length + 1 + (otS L).length : Nat) : Int)) ∧ Below w.heap.size w w' := by
  obtain ⟨nul, bg, fo, h⟩ := h
  refine (symbols_any w h.gm).mono fun e w' ⟨e1, e2⟩ => ⟨?_, by rw [e2]; exact Below.refl _ _⟩
  rw [e1, ← allN_len]; rfl
theorem bk9 {w : World} {p : Nat} {L : List (List Tx)} (h : GL w p L) : Calls Tryd.prog 9 #[.pointer (some ⟨p, 0, none⟩)] w fun e w' => e = .returned (.int .i64 (((teS L).length + 1 : Nat) : Int)) ∧ Below w.heap.size w w' := by
  obtain ⟨nul, bg, fo, h⟩ := h
  exact (terminals_any w h.gm).mono fun e w' ⟨e1, e2⟩ => ⟨e1, by rw [e2]; exact Below.refl _ _⟩
theorem bk18 {w : World} {p : Nat} {L : List (List Tx)} (h : GL w p L) : Calls Tryd.prog 18 #[.pointer (some ⟨p, 0, none⟩)] w fun e w' => e = .returned (.int .i64 ((nmN (teS L) (otS L) (stS L) : Nat) : Int)) ∧ Below w.heap.size w w' := by
  obtain ⟨nul, bg, fo, h⟩ := h
  exact (start_any w h.gm).mono fun e w' ⟨e1, e2⟩ => ⟨e1, by rw [e2]; exact Below.refl _ _⟩
theorem bk17 {w : World} {p : Nat} {L : List (List Tx)} (hL : NmL L) (h : GL w p L) : Calls Tryd.prog 17 #[.pointer (some ⟨p, 0, none⟩), .int .i64 ((nmN (teS L) (otS L) (stS L) : Nat) : Int)] w fun e w' => e = .returned (.tuple #[.string (bA (stS L)), .bool true]) ∧ Below w.heap.size w w' := by
  obtain ⟨nul, bg, fo, h⟩ := h
  have := name_any h _ h.stl.2
  unfold nmN at this ⊢
  rw [at_name (nam_of hL.nm) (.inr (st_in hL))] at this
  exact this
theorem bk8 {w : World} {p : Nat} {L : List (List Tx)} (h : GL w p L) : Calls Tryd.prog 8 #[.pointer (some ⟨p, 0, none⟩)] w fun e w' => ∃ E X a c, e = .returned (.slice a (usTo E X ((teS L).length + 1) (otS L).length).length c) ∧ GrIs (L.map (rnF (nuF (teS L) (otS L)))) (utS ((teS L).length + 1)) E ∧ ReIs (L.map (rnF (nuF (teS L) (otS L)))) E (2 ^ nmN (teS L) (otS L) (stS L)) X ∧ Below w.heap.size w w' := by
  obtain ⟨nul, bg, fo, h⟩ := h
  refine (useless_any h).mono fun e w' ⟨E, X, u, e1, e2, e3, e4, e5⟩ => ?_
  obtain ⟨a, c, rfl, _⟩ := e4
  exact ⟨E, X, a, c, e1, e2, e3, e5⟩
/-- What is read of a grammar's text. -/
theorem pr_txt {L : List (List Tx)} (hL : NmL L) (hl : (txtS L).length ≤ 1048576) (h1 : L.length ≤ 128) (h2 : (teS L).length + 1 + (otS L).length ≤ 128) : prR (txtS L) = (0, 0) := by
  have hp := (gp_two hL).lens
  have hE : prE (txtS L) = 0 := by
    unfold prE
    rw [txt_pars hL, newE_of hL.gp.nm hL.gp.one, if_pos ⟨by rw [gp_len]; exact h1, by rw [← hp.1, ← hp.2]; exact h2⟩]
  unfold prR
  rw [if_neg (by omega), txt_good hL, if_pos rfl, hE, if_pos rfl]
end Go.Proofs.YtgmbkelmgolkpabDoor
