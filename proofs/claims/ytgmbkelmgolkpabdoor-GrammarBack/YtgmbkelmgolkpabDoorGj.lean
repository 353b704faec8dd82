/- Texts of one proof, one behind the other. -/
import Derived.Test.YtgmbkelmgolkpabDoorGk
import Derived.Test.YtgmbkelmgolkpabDoorGt
import Derived.Test.YtgmbkelmgolkpabDoorGcm
/- Plain: the text that Text makes of rules with numbers is the text of the rules with names. -/
namespace Go.Proofs.YtgmbkelmgolkpabDoor
set_option linter.unusedVariables false

theorem getD_memL {L : List (List Tx)} {k : Nat} (h : k < L.length) : L.getD k [] ∈ L := by rw [List.getD_eq_getElem?_getD, List.getElem?_eq_getElem h]; exact List.getElem_mem h
/-- The names of rules are among these. -/
def InL (T O : List Tx) (L : List (List Tx)) : Prop := ∀ r ∈ L, 1 ≤ r.length ∧ ∀ x ∈ r, x ∈ T ∨ x ∈ O
theorem at_name {T O : List Tx} (h : Nam T O) {x : Tx} (hx : x ∈ T ∨ x ∈ O) : (allN T O).getD (vaF (nuF T O) x).toNat [] = x := by
  unfold vaF
  by_cases hT : x ∈ T
  · rw [h.inT hT, Option.getD_some]
    obtain ⟨j, h1, h2, h3, _⟩ := at_mem hT
    rw [h2, Int.toNat_natCast, alN_T h1]; exact h3
  · have hO := hx.resolve_left hT
    rw [h.inO hO, Option.getD_some]
    obtain ⟨j, h1, h2, h3, _⟩ := at_mem hO
    rw [h2, show (((T.length + 1 : Nat) : Int) + (j : Int)).toNat = T.length + 1 + j by omega, alN_O]; exact h3
theorem num_inj {T O : List Tx} (h : Nam T O) {x y : Tx} (hx : x ∈ T ∨ x ∈ O) (hy : y ∈ T ∨ y ∈ O) (e : (vaF (nuF T O) x).toNat = (vaF (nuF T O) y).toNat) : x = y := by
  rw [← at_name h hx, e, at_name h hy]
/-- Words with a blank ahead of each. -/
def bkS (ws : List Tx) : Tx := (ws.map (fun x => (32 : UInt8) :: x)).flatten
theorem bk_app (a b : List Tx) : bkS (a ++ b) = bkS a ++ bkS b := by unfold bkS; rw [List.map_append, List.flatten_append]
theorem rw_flat (N : List Tx) (r : List Int) : ∀ k, k ≤ r.length → rwTo N r k = bkS ((r.take k).map (fun i => N.getD i.toNat []))
  | 0, _ => by simp [rwTo, bkS]
  | k + 1, hk => by
    rw [rwTo, rw_flat N r k (by omega), List.take_succ_eq_append_getElem (by omega), List.map_append, bk_app]
    congr 1
    rw [List.getD_eq_getElem?_getD (l := r), List.getElem?_eq_getElem (show k < r.length by omega)]
    simp [bkS]
/-- The words behind a left side. -/
def arV : List (List Tx) → List Tx
  | [] => []
  | r :: rs => tArr :: (r ++ (rs.map (fun r => tOr :: r)).flatten)
theorem arV_more (rs : List (List Tx)) (r : List Tx) : arV (rs ++ [r]) = arV rs ++ ((if rs = [] then tArr else tOr) :: r) := by
  cases rs with
  | nil => simp [arV]
  | cons r0 rs => simp [arV]
theorem wl_arV (a : Tx) {rs : List (List Tx)} (h : rs ≠ []) : wlS a rs = a :: arV rs := by
  cases rs with
  | nil => exact absurd rfl h
  | cons r rs => rfl
theorem ar_flat (N : List Tx) (R : Rus) (of : List Int) : ∀ k, k ≤ of.length → arTo N R of k = bkS (arV ((of.take k).map (fun i => ((R.getD i.toNat (0, [])).2).map (fun i => N.getD i.toNat []))))
  | 0, _ => by simp [arTo, arV, bkS]
  | k + 1, hk => by
    have hl : k < of.length := by omega
    have hg : of.getD k 0 = of[k] := by rw [List.getD_eq_getElem?_getD, List.getElem?_eq_getElem hl]; rfl
    rw [arTo, ar_flat N R of k (by omega), List.take_succ_eq_append_getElem hl, List.map_append, List.map_singleton, arV_more, bk_app, List.append_assoc]
    congr 1
    rw [rw_flat N _ _ (Nat.le_refl _), List.take_length]
    unfold rgS
    rw [hg]
    have hb : ((of.take k).map (fun i => ((R.getD i.toNat (0, [])).2).map (fun i => N.getD i.toNat [])) = []) ↔ k = 0 := by
      rw [List.map_eq_nil_iff, List.take_eq_nil_iff]
      constructor
      · rintro (h | h)
        · exact h
        · rw [h] at hl; simp at hl
      · exact .inl
    unfold barS
    by_cases h0 : k = 0
    · rw [if_pos h0, if_pos (hb.2 h0)]; rfl
    · rw [if_neg h0, if_neg (fun h => h0 (hb.1 h))]; rfl
theorem of_rights (R : Rus) (s : Int) : ∀ m, m ≤ R.length → (ofTo R s m).map (fun i => (R.getD i.toNat (0, [])).2) = ((R.take m).filter (fun r => (r.1 : Int) == s)).map (fun r => r.2)
  | 0, _ => by simp [ofTo]
  | m + 1, hm => by
    have ih := of_rights R s m (by omega)
    have hl : m < R.length := by omega
    have hg : R.getD m (0, []) = R[m] := by rw [List.getD_eq_getElem?_getD, List.getElem?_eq_getElem hl]; rfl
    rw [ofTo, List.take_succ_eq_append_getElem hl, List.filter_append, List.map_append, ← ih]
    by_cases h : ((R.getD m (0, [])).1 : Int) = s
    · rw [if_pos h, List.map_append, List.map_singleton, Int.toNat_natCast, hg]
      rw [hg] at h
      rw [List.filter_cons_of_pos (by rw [beq_iff_eq]; exact h)]
      rfl
    · rw [if_neg h]
      rw [hg] at h
      rw [List.filter_cons_of_neg (by rw [beq_iff_eq]; exact h)]
      simp
theorem of_alts {T O : List Tx} (hn : Nam T O) {L : List (List Tx)} (hL : InL T O L) {a : Tx} (ha : a ∈ T ∨ a ∈ O) :
    (ofTo (L.map (rnF (nuF T O))) (((vaF (nuF T O) a).toNat : Nat) : Int) (L.map (rnF (nuF T O))).length).map (fun i => (((L.map (rnF (nuF T O))).getD i.toNat (0, [])).2).map (fun i => (allN T O).getD i.toNat [])) = altS L a := by
  have h1 := of_rights (L.map (rnF (nuF T O))) (((vaF (nuF T O) a).toNat : Nat) : Int) _ (Nat.le_refl _)
  rw [List.take_length] at h1
  have e : ∀ l : List Int, l.map (fun i => (((L.map (rnF (nuF T O))).getD i.toNat (0, [])).2).map (fun i => (allN T O).getD i.toNat [])) = (l.map (fun i => ((L.map (rnF (nuF T O))).getD i.toNat (0, [])).2)).map (fun r => r.map (fun i => (allN T O).getD i.toNat [])) := fun l => by rw [List.map_map]; rfl
  rw [e, h1, List.filter_map, List.map_map, List.map_map]
  unfold altS grS
  have hf : L.filter ((fun r => ((r.1 : Int) == (((vaF (nuF T O) a).toNat : Nat) : Int))) ∘ rnF (nuF T O)) = L.filter (fun r => lfS r == a) := by
    apply List.filter_congr
    intro r hr
    obtain ⟨g1, g2⟩ := hL r hr
    have hl : lfS r ∈ T ∨ lfS r ∈ O := g2 _ (getD_mem g1)
    rw [Bool.eq_iff_iff, beq_iff_eq]
    show (((vaF (nuF T O) (r.getD 0 [])).toNat : Nat) : Int) == (((vaF (nuF T O) a).toNat : Nat) : Int) ↔ _
    rw [beq_iff_eq]
    constructor
    · intro h; exact num_inj hn hl ha (by have : ((vaF (nuF T O) (lfS r)).toNat : Int) = ((vaF (nuF T O) a).toNat : Int) := h
                                          omega)
    · intro h; rw [← h]; rfl
  rw [hf]
  apply List.map_congr_left
  intro r hr
  show ((r.drop 1).map (vaF (nuF T O))).map _ = r.drop 1
  rw [List.map_map]
  refine (List.map_congr_left fun x hx => ?_).trans (List.map_id _)
  exact at_name hn ((hL r (List.mem_filter.1 hr).1).2 x (List.mem_of_mem_drop hx))
theorem alt_ne {L : List (List Tx)} {r : List Tx} (hr : r ∈ L) : altS L (lfS r) ≠ [] := by
  unfold altS
  intro h
  exact gr_ne ((ds_mem L _).2 ⟨r, hr, rfl⟩) (List.map_eq_nil_iff.1 h)
theorem li_line {T O : List Tx} (hn : Nam T O) {L : List (List Tx)} (hL : InL T O L) {r : List Tx} (hr : r ∈ L) :
    liS (allN T O) (L.map (rnF (nuF T O))) (vaF (nuF T O) (lfS r)).toNat (ofTo (L.map (rnF (nuF T O))) (((vaF (nuF T O) (lfS r)).toNat : Nat) : Int) (L.map (rnF (nuF T O))).length) = lineS L (lfS r) ++ [10] := by
  have ha : lfS r ∈ T ∨ lfS r ∈ O := (hL r hr).2 _ (getD_mem (hL r hr).1)
  unfold liS lineS
  rw [ar_flat _ _ _ _ (Nat.le_refl _), List.take_length, of_alts hn hL ha, at_name hn ha, wl_arV _ (alt_ne hr)]
  rfl
theorem ins_new {out : List Tx} {x : Tx} (h : x ∉ out) : insL out x = out ++ [x] := by unfold insL; rw [if_neg (fun hc => h (List.contains_iff_mem.1 hc))]
theorem cat_more (ls : List Tx) (l : Tx) : catL (ls ++ [l]) = catL ls ++ (l ++ [10]) := by unfold catL; simp
theorem tx_txt_to {T O : List Tx} (hn : Nam T O) {L : List (List Tx)} (hL : InL T O L) : ∀ k, k ≤ L.length → txTo (allN T O) (L.map (rnF (nuF T O))) k = catL ((((leftsS L).take k).foldl insL []).map (lineS L))
  | 0, _ => by simp [txTo, catL]
  | k + 1, hk => by
    have ih := tx_txt_to hn hL k (by omega)
    have hl : k < L.length := by omega
    have hll : (leftsS L).length = L.length := by unfold leftsS; rw [List.length_map]
    have hm : L.getD k [] ∈ L := getD_memL hl
    have hleft : ∀ j, j < L.length → (leftsS L).getD j [] = lfS (L.getD j []) := fun j hj => by
      unfold leftsS
      rw [List.getD_eq_getElem?_getD, List.getElem?_map, List.getElem?_eq_getElem hj, List.getD_eq_getElem?_getD (l := L), List.getElem?_eq_getElem hj]; rfl
    have hR : ∀ j, j < L.length → ((L.map (rnF (nuF T O))).getD j (0, [])).1 = (vaF (nuF T O) (lfS (L.getD j []))).toNat := fun j hj => by
      rw [List.getD_eq_getElem?_getD, List.getElem?_map, List.getElem?_eq_getElem hj, List.getD_eq_getElem?_getD (l := L), List.getElem?_eq_getElem hj]; rfl
    have hin : ∀ j, j < L.length → lfS (L.getD j []) ∈ T ∨ lfS (L.getD j []) ∈ O := fun j hj => (hL _ (getD_memL hj)).2 _ (getD_mem (hL _ (getD_memL hj)).1)
    rw [txTo, getD_take (by rw [hll]; exact hl), List.foldl_append, ih, hleft k hl]
    show _ = catL ((insL _ (lfS (L.getD k []))).map (lineS L))
    have hfi : fiB (L.map (rnF (nuF T O))) k k = true ↔ lfS (L.getD k []) ∉ ((leftsS L).take k).foldl insL [] := by
      rw [fi_iff, fold_mem]
      constructor
      · intro h hc
        rcases hc with hc | hc
        · cases hc
        · rw [List.mem_take_iff_getElem] at hc
          obtain ⟨j, hj, e⟩ := hc
          have hj2 : j < k ∧ j < L.length := by rw [hll] at hj; omega
          have e2 : (leftsS L).getD j [] = lfS (L.getD k []) := by rw [← e, List.getD_eq_getElem?_getD, List.getElem?_eq_getElem (by rw [hll]; exact hj2.2)]; rfl
          rw [hleft j hj2.2] at e2
          exact h j hj2.1 (by rw [hR j hj2.2, hR k hl, e2])
      · intro h j hj e
        rw [hR j (by omega), hR k hl] at e
        have e2 := num_inj hn (hin j (by omega)) (hin k hl) e
        refine h (.inr ?_)
        rw [List.mem_take_iff_getElem]
        refine ⟨j, by rw [hll]; omega, ?_⟩
        have := hleft j (by omega)
        rw [List.getD_eq_getElem?_getD, List.getElem?_eq_getElem (by rw [hll]; omega)] at this
        rw [← e2]; exact this
    by_cases hf : lfS (L.getD k []) ∈ ((leftsS L).take k).foldl insL []
    · rw [if_neg (fun h => hfi.1 h hf), ins_old hf]
    · rw [if_pos (hfi.2 hf), ins_new hf, List.map_append, List.map_singleton, cat_more]
      congr 1
      have := li_line hn hL hm
      unfold leS
      rw [hR k hl]
      exact this
theorem tx_txt {T O : List Tx} (hn : Nam T O) {L : List (List Tx)} (hL : InL T O L) : txTo (allN T O) (L.map (rnF (nuF T O))) (L.map (rnF (nuF T O))).length = txtS L := by
  rw [List.length_map, tx_txt_to hn hL _ (Nat.le_refl _)]
  unfold txtS linesL dsS
  rw [List.take_of_length_le (by unfold leftsS; rw [List.length_map]; exact Nat.le_refl _)]
end Go.Proofs.YtgmbkelmgolkpabDoor
/- Plain: what is of no use does not hang on the order of the rules, nor on the numbers of the names. -/
namespace Go.Proofs.YtgmbkelmgolkpabDoor
set_option linter.unusedVariables false

theorem gp_base (R : Ru) (M : Nat) {i : Nat} (hi : M.testBit i = true) : ∀ k, (gpTo R M k).testBit i = true
  | 0 => hi
  | k + 1 => by
    rw [gpTo]; split
    · rw [Nat.testBit_or, gp_base R M hi k, Bool.true_or]
    · exact gp_base R M hi k
theorem gpIt_base (R : Ru) (M : Nat) {i : Nat} (hi : M.testBit i = true) : ∀ j, (gpIt R M j).testBit i = true
  | 0 => hi
  | j + 1 => gp_base R _ (gpIt_base R M hi j) _
theorem gr_base {R : Ru} {M E : Nat} (h : GrIs R M E) {i : Nat} (hi : M.testBit i = true) : E.testBit i = true := by
  obtain ⟨j, rfl, _⟩ := h
  exact gpIt_base R M hi j
/-- What is grown is the least that there is. -/
theorem gp_least (R : Ru) (P : Nat → Prop) (hc : ∀ k, k < R.length → (∀ x ∈ (R.getD k (0, [])).2, P x.toNat) → P (R.getD k (0, [])).1) {M : Nat} (hM : ∀ i, M.testBit i = true → P i) : ∀ k, k ≤ R.length → ∀ i, (gpTo R M k).testBit i = true → P i
  | 0, _, i, hi => hM i hi
  | k + 1, hk, i, hi => by
    have ih := gp_least R P hc hM k (by omega)
    rw [gpTo] at hi
    split at hi
    · rename_i ha
      rw [Nat.testBit_or, Bool.or_eq_true] at hi
      rcases hi with hi | hi
      · exact ih i hi
      · rw [Nat.testBit_two_pow, decide_eq_true_eq] at hi
        rw [← hi]
        rw [List.all_eq_true] at ha
        exact hc k (by omega) fun x hx => ih _ (ha x hx)
    · exact ih i hi
theorem gpIt_least (R : Ru) (P : Nat → Prop) (hc : ∀ k, k < R.length → (∀ x ∈ (R.getD k (0, [])).2, P x.toNat) → P (R.getD k (0, [])).1) {M : Nat} (hM : ∀ i, M.testBit i = true → P i) : ∀ j i, (gpIt R M j).testBit i = true → P i
  | 0, i, hi => hM i hi
  | j + 1, i, hi => gp_least R P hc (gpIt_least R P hc hM j) _ (Nat.le_refl _) i hi
theorem gr_least {R : Ru} {M E : Nat} (h : GrIs R M E) (P : Nat → Prop) (hc : ∀ k, k < R.length → (∀ x ∈ (R.getD k (0, [])).2, P x.toNat) → P (R.getD k (0, [])).1) (hM : ∀ i, M.testBit i = true → P i) {i : Nat} (hi : E.testBit i = true) : P i := by
  obtain ⟨j, rfl, _⟩ := h
  exact gpIt_least R P hc hM j i hi
theorem ri_bit (l : List Int) : ∀ q, q ≤ l.length → ∀ i, (riTo l q).testBit i = true ↔ ∃ x ∈ l.take q, x.toNat = i
  | 0, _, i => by simp [riTo]
  | q + 1, hq, i => by
    have ih := ri_bit l q (by omega) i
    have hl : q < l.length := by omega
    have hg : l.getD q 0 = l[q] := by rw [List.getD_eq_getElem?_getD, List.getElem?_eq_getElem hl]; rfl
    rw [riTo, Nat.testBit_or, Bool.or_eq_true, ih, Nat.testBit_two_pow, decide_eq_true_eq, List.take_succ_eq_append_getElem hl, hg]
    constructor
    · rintro (⟨x, h1, h2⟩ | h)
      · exact ⟨x, List.mem_append_left _ h1, h2⟩
      · exact ⟨l[q], List.mem_append_right _ (List.mem_singleton.2 rfl), h⟩
    · rintro ⟨x, h1, h2⟩
      rcases List.mem_append.1 h1 with h1 | h1
      · exact .inl ⟨x, h1, h2⟩
      · rw [List.mem_singleton.1 h1] at h2; exact .inr h2
theorem rp_least (R : Ru) (W : Nat) (P : Nat → Prop) (hc : ∀ k, k < R.length → P (R.getD k (0, [])).1 → (∀ x ∈ (R.getD k (0, [])).2, W.testBit x.toNat = true) → ∀ x ∈ (R.getD k (0, [])).2, P x.toNat) {M : Nat} (hM : ∀ i, M.testBit i = true → P i) : ∀ k, k ≤ R.length → ∀ i, (rpTo R W M k).testBit i = true → P i
  | 0, _, i, hi => hM i hi
  | k + 1, hk, i, hi => by
    have ih := rp_least R W P hc hM k (by omega)
    rw [rpTo] at hi
    split at hi
    · rename_i ha
      rw [Bool.and_eq_true, List.all_eq_true] at ha
      rw [Nat.testBit_or, Bool.or_eq_true] at hi
      rcases hi with hi | hi
      · exact ih i hi
      · obtain ⟨x, h1, h2⟩ := (ri_bit _ _ (Nat.le_refl _) i).1 hi
        rw [List.take_length] at h1
        rw [← h2]
        exact hc k (by omega) (ih _ ha.1) ha.2 x h1
    · exact ih i hi
theorem rpIt_least (R : Ru) (W : Nat) (P : Nat → Prop) (hc : ∀ k, k < R.length → P (R.getD k (0, [])).1 → (∀ x ∈ (R.getD k (0, [])).2, W.testBit x.toNat = true) → ∀ x ∈ (R.getD k (0, [])).2, P x.toNat) {M : Nat} (hM : ∀ i, M.testBit i = true → P i) : ∀ j i, (rpIt R W M j).testBit i = true → P i
  | 0, i, hi => hM i hi
  | j + 1, i, hi => rp_least R W P hc (rpIt_least R W P hc hM j) _ (Nat.le_refl _) i hi
theorem re_least {R : Ru} {W M X : Nat} (h : ReIs R W M X) (P : Nat → Prop) (hc : ∀ k, k < R.length → P (R.getD k (0, [])).1 → (∀ x ∈ (R.getD k (0, [])).2, W.testBit x.toNat = true) → ∀ x ∈ (R.getD k (0, [])).2, P x.toNat) (hM : ∀ i, M.testBit i = true → P i) {i : Nat} (hi : X.testBit i = true) : P i := by
  obtain ⟨j, rfl, _⟩ := h
  exact rpIt_least R W P hc hM j i hi
theorem re_base {R : Ru} {W M X : Nat} (h : ReIs R W M X) {i : Nat} (hi : M.testBit i = true) : X.testBit i = true := by
  obtain ⟨j, rfl, _⟩ := h
  exact rpIt_bits R W M hi j
theorem re_step {R : Ru} {W M X : Nat} (h : ReIs R W M X) {k : Nat} (hk : k < R.length) (hl : X.testBit (R.getD k (0, [])).1 = true) (ha : ∀ x ∈ (R.getD k (0, [])).2, W.testBit x.toNat = true) : ∀ x ∈ (R.getD k (0, [])).2, X.testBit x.toNat = true := by
  obtain ⟨j, _, hs⟩ := h
  intro x hx
  refine re_closed hs hk hl (List.all_eq_true.2 ha) _ ((ri_bit _ _ (Nat.le_refl _) _).2 ⟨x, by rw [List.take_length]; exact hx, rfl⟩)
/-- The number of a name. -/
def nmN (T O : List Tx) (x : Tx) : Nat := (vaF (nuF T O) x).toNat
theorem rn_get {T O : List Tx} {L : List (List Tx)} {k : Nat} (hk : k < L.length) : (L.map (rnF (nuF T O))).getD k (0, []) = (nmN T O (lfS (L.getD k [])), ((L.getD k []).drop 1).map (vaF (nuF T O))) := by
  rw [List.getD_eq_getElem?_getD, List.getElem?_map, List.getElem?_eq_getElem hk, List.getD_eq_getElem?_getD (l := L), List.getElem?_eq_getElem hk]; rfl
theorem mem_at {L : List (List Tx)} {r : List Tx} (h : r ∈ L) : ∃ k, k < L.length ∧ L.getD k [] = r := by
  obtain ⟨k, hk, e⟩ := List.getElem_of_mem h
  exact ⟨k, hk, by rw [List.getD_eq_getElem?_getD, List.getElem?_eq_getElem hk]; exact e⟩
/-- Two lists of the same rules, with names in two orders. -/
structure TwoL (T O : List Tx) (L : List (List Tx)) (T' O' : List Tx) (L' : List (List Tx)) : Prop where
  n1 : Nam T O
  n2 : Nam T' O'
  t : ∀ x, x ∈ T ↔ x ∈ T'
  o : ∀ x, x ∈ O ↔ x ∈ O'
  i1 : InL T O L
  i2 : InL T' O' L'
  m : ∀ r, r ∈ L ↔ r ∈ L'
theorem TwoL.symm {T O : List Tx} {L : List (List Tx)} {T' O' : List Tx} {L' : List (List Tx)} (h : TwoL T O L T' O' L') : TwoL T' O' L' T O L := ⟨h.n2, h.n1, fun x => (h.t x).symm, fun x => (h.o x).symm, h.i2, h.i1, fun r => (h.m r).symm⟩
theorem Nam.low {T O : List Tx} (h : Nam T O) {x : Tx} (hx : x ∈ T ∨ x ∈ O) : nmN T O x < T.length + 1 ↔ x ∈ T := by
  unfold nmN vaF
  constructor
  · intro hl
    by_cases hT : x ∈ T
    · exact hT
    · exfalso
      rw [h.inO (hx.resolve_left hT), Option.getD_some] at hl
      have := (at_iff O x).2 (hx.resolve_left hT)
      omega
  · intro hT
    rw [h.inT hT, Option.getD_some]
    obtain ⟨j, h1, h2, _⟩ := at_mem hT
    rw [h2, Int.toNat_natCast]; omega
theorem TwoL.grown {T O : List Tx} {L : List (List Tx)} {T' O' : List Tx} {L' : List (List Tx)} (h : TwoL T O L T' O' L') {E E' : Nat} (hE : GrIs (L.map (rnF (nuF T O))) (utS (T.length + 1)) E) (hE' : GrIs (L'.map (rnF (nuF T' O'))) (utS (T'.length + 1)) E') {x : Tx} (hx : x ∈ T ∨ x ∈ O) (hb : E.testBit (nmN T O x) = true) : E'.testBit (nmN T' O' x) = true := by
  have hx2 : ∀ y, y ∈ T ∨ y ∈ O → y ∈ T' ∨ y ∈ O' := fun y hy => hy.imp (h.t y).1 (h.o y).1
  refine gr_least hE (fun i => ∀ y, y ∈ T ∨ y ∈ O → nmN T O y = i → E'.testBit (nmN T' O' y) = true) ?_ ?_ hb x hx rfl
  · intro k hk hr y hy e
    rw [List.length_map] at hk
    rw [rn_get hk] at hr e
    have hm : L.getD k [] ∈ L := getD_memL hk
    obtain ⟨g1, g2⟩ := h.i1 _ hm
    have hyl : y = lfS (L.getD k []) := num_inj h.n1 hy (g2 _ (getD_mem g1)) e
    subst hyl
    obtain ⟨k', hk', e'⟩ := mem_at ((h.m _).1 hm)
    have hc := gr_closed hE' (k := k') (by rw [List.length_map]; exact hk')
    rw [rn_get hk', e'] at hc
    refine hc (List.all_eq_true.2 fun z hz => ?_)
    obtain ⟨u, hu, rfl⟩ := List.mem_map.1 hz
    exact hr (vaF (nuF T O) u) (List.mem_map.2 ⟨u, hu, rfl⟩) u (g2 u (List.mem_of_mem_drop hu)) rfl
  · intro i hi y hy e
    rw [ut_bit, decide_eq_true_eq] at hi
    have hT := (h.n1.low hy).1 (by rw [e]; exact hi)
    exact gr_base hE' (by rw [ut_bit, decide_eq_true_eq]; exact (h.n2.low (hx2 y hy)).2 ((h.t y).1 hT))
theorem TwoL.reached {T O : List Tx} {L : List (List Tx)} {T' O' : List Tx} {L' : List (List Tx)} (h : TwoL T O L T' O' L') {E E' X X' : Nat} {s : Tx} (hs : s ∈ T ∨ s ∈ O) (hE : GrIs (L.map (rnF (nuF T O))) (utS (T.length + 1)) E) (hE' : GrIs (L'.map (rnF (nuF T' O'))) (utS (T'.length + 1)) E') (hX : ReIs (L.map (rnF (nuF T O))) E (2 ^ nmN T O s) X) (hX' : ReIs (L'.map (rnF (nuF T' O'))) E' (2 ^ nmN T' O' s) X') {x : Tx} (hx : x ∈ T ∨ x ∈ O) (hb : X.testBit (nmN T O x) = true) : X'.testBit (nmN T' O' x) = true := by
  refine re_least hX (fun i => ∀ y, y ∈ T ∨ y ∈ O → nmN T O y = i → X'.testBit (nmN T' O' y) = true) ?_ ?_ hb x hx rfl
  · intro k hk hl hr z hz y hy e
    rw [List.length_map] at hk
    rw [rn_get hk] at hl hr hz
    have hm : L.getD k [] ∈ L := getD_memL hk
    obtain ⟨g1, g2⟩ := h.i1 _ hm
    obtain ⟨u, hu, rfl⟩ := List.mem_map.1 hz
    have hyu : y = u := num_inj h.n1 hy (g2 u (List.mem_of_mem_drop hu)) e
    subst hyu
    obtain ⟨k', hk', e'⟩ := mem_at ((h.m _).1 hm)
    have hc := re_step hX' (k := k') (by rw [List.length_map]; exact hk')
    rw [rn_get hk', e'] at hc
    refine hc (hl _ (g2 _ (getD_mem g1)) rfl) (fun v hv => ?_) (vaF (nuF T' O') y) (List.mem_map.2 ⟨y, hu, rfl⟩)
    obtain ⟨t, ht, rfl⟩ := List.mem_map.1 hv
    exact h.grown hE hE' (g2 t (List.mem_of_mem_drop ht)) (hr (vaF (nuF T O) t) (List.mem_map.2 ⟨t, ht, rfl⟩))
  · intro i hi y hy e
    rw [Nat.testBit_two_pow, decide_eq_true_eq] at hi
    have hys : y = s := num_inj h.n1 hy hs (e.trans hi.symm)
    subst hys
    exact re_base hX' (by rw [Nat.testBit_two_pow, decide_eq_true_eq])
theorem us_count (E X t : Nat) (O : List Tx) (num : Tx → Nat) (hnum : ∀ k, k < O.length → num (O.getD k []) = t + k) : ∀ k, k ≤ O.length → (usTo E X t k).length = ((O.take k).filter (fun x => !(E.testBit (num x) && X.testBit (num x)))).length
  | 0, _ => by simp [usTo]
  | k + 1, hk => by
    have ih := us_count E X t O num hnum k (by omega)
    have hl : k < O.length := by omega
    have hg : O[k] = O.getD k [] := by rw [List.getD_eq_getElem?_getD, List.getElem?_eq_getElem hl]; rfl
    rw [usTo, List.take_succ_eq_append_getElem hl, List.filter_append, List.length_append, ← ih, hg]
    by_cases hc : (E.testBit (t + k) && X.testBit (t + k)) = true
    · rw [if_pos hc, List.filter_cons_of_neg (by rw [hnum k hl, hc]; simp)]; rfl
    · rw [if_neg hc, List.filter_cons_of_pos (by rw [hnum k hl, Bool.eq_false_iff.2 hc]; rfl), List.length_append]; rfl
theorem TwoL.useless {T O : List Tx} {L : List (List Tx)} {T' O' : List Tx} {L' : List (List Tx)} (h : TwoL T O L T' O' L') {E E' X X' : Nat} {s : Tx} (hs : s ∈ T ∨ s ∈ O) (hE : GrIs (L.map (rnF (nuF T O))) (utS (T.length + 1)) E) (hE' : GrIs (L'.map (rnF (nuF T' O'))) (utS (T'.length + 1)) E') (hX : ReIs (L.map (rnF (nuF T O))) E (2 ^ nmN T O s) X) (hX' : ReIs (L'.map (rnF (nuF T' O'))) E' (2 ^ nmN T' O' s) X') : (usTo E X (T.length + 1) O.length).length = (usTo E' X' (T'.length + 1) O'.length).length := by
  have hnum : ∀ {T O : List Tx}, Nam T O → ∀ k, k < O.length → nmN T O (O.getD k []) = T.length + 1 + k := fun {T O} hn k hk => by
    unfold nmN vaF
    rw [hn.inO (getD_mem hk), Option.getD_some]
    obtain ⟨j, h1, h2, h3, _⟩ := at_mem (getD_mem hk)
    have := getD_inj hn.dupO h1 hk h3
    rw [h2, this]; omega
  rw [us_count E X _ O (nmN T O) (hnum h.n1) _ (Nat.le_refl _), us_count E' X' _ O' (nmN T' O') (hnum h.n2) _ (Nat.le_refl _), List.take_length, List.take_length]
  have hp : O.Perm O' := (List.perm_ext_iff_of_nodup h.n1.dupO h.n2.dupO).2 h.o
  have e : O.filter (fun x => !(E.testBit (nmN T O x) && X.testBit (nmN T O x))) = O.filter (fun x => !(E'.testBit (nmN T' O' x) && X'.testBit (nmN T' O' x))) := by
    apply List.filter_congr
    intro x hx
    have hs' : s ∈ T' ∨ s ∈ O' := hs.imp (h.t s).1 (h.o s).1
    have e1 : E.testBit (nmN T O x) = E'.testBit (nmN T' O' x) := by
      rw [Bool.eq_iff_iff]
      exact ⟨h.grown hE hE' (.inr hx), h.symm.grown hE' hE (.inr ((h.o x).1 hx))⟩
    have e2 : X.testBit (nmN T O x) = X'.testBit (nmN T' O' x) := by
      rw [Bool.eq_iff_iff]
      exact ⟨h.reached hs hE hE' hX hX' (.inr hx), h.symm.reached hs' hE' hE hX' hX (.inr ((h.o x).1 hx))⟩
    rw [e1, e2]
  rw [e]
  exact (hp.filter _).length_eq
/-- The names of rules that are gathered are the same names. -/
theorem gp_two {L : List (List Tx)} (hL : NmL L) : TwoL (teS L) (otS L) L (teS (gpL L)) (otS (gpL L)) (gpL L) := by
  have hf : ∀ x, x ∈ (gpL L).flatten ↔ x ∈ L.flatten := fun x => by
    rw [List.mem_flatten, List.mem_flatten]
    exact ⟨fun ⟨r, h1, h2⟩ => ⟨r, (gp_mem L r).1 h1, h2⟩, fun ⟨r, h1, h2⟩ => ⟨r, (gp_mem L r).2 h1, h2⟩⟩
  have hl : ∀ x, x ∈ leftsS (gpL L) ↔ x ∈ leftsS L := fun x => by
    unfold leftsS
    rw [List.mem_map, List.mem_map]
    exact ⟨fun ⟨r, h1, h2⟩ => ⟨r, (gp_mem L r).1 h1, h2⟩, fun ⟨r, h1, h2⟩ => ⟨r, (gp_mem L r).2 h1, h2⟩⟩
  exact ⟨nam_of hL.nm, nam_of hL.gp.nm, fun x => by rw [te_mem, te_mem, hf, hl], fun x => by rw [ot_mem, ot_mem, hf, hl], fun r hr => ⟨(hL.nm r hr).1, fun x hx => in_names hr hx⟩, fun r hr => ⟨(hL.gp.nm r hr).1, fun x hx => in_names hr hx⟩, fun r => (gp_mem L r).symm⟩
theorem TwoL.lens {T O : List Tx} {L : List (List Tx)} {T' O' : List Tx} {L' : List (List Tx)} (h : TwoL T O L T' O' L') : T.length = T'.length ∧ O.length = O'.length :=
  ⟨((List.perm_ext_iff_of_nodup h.n1.dupT h.n2.dupT).2 h.t).length_eq, ((List.perm_ext_iff_of_nodup h.n1.dupO h.n2.dupO).2 h.o).length_eq⟩
end Go.Proofs.YtgmbkelmgolkpabDoor
