/- A region that draws its order, all of whose operations but the last only read (or call what makes new memory alone), the last waiting for all the others: one walk, in the order of the text; the last one by the plain walk. -/
import Derived.Test.YtjnfnihhihncmaaQuietB
import Derived.Deep.Quiet
namespace Go.Proofs.Ytjnfnihhihncmaa
open Go.RowKit
set_option linter.unusedVariables false

/-- An operation that does nothing, in the place of this one. -/
def mute (o : Oper) : Oper := { o with op := .move (.const undef) }
theorem mute_at (l : List Oper) (o : Oper) (j : Nat) : (l ++ [mute o])[j]? = if j = l.length then some (mute o) else (l ++ [o])[j]? := by
  by_cases h : j < l.length
  · rw [if_neg (by omega), List.getElem?_append_left h, List.getElem?_append_left h]
  · by_cases h2 : j = l.length
    · subst h2; rw [if_pos rfl, List.getElem?_append_right (Nat.le_refl _)]; simp
    · rw [if_neg h2, List.getElem?_eq_none (by simp; omega), List.getElem?_eq_none (by simp; omega)]
theorem last_at (l : List Oper) (o : Oper) : (l ++ [o])[l.length]? = some o := by rw [List.getElem?_append_right (Nat.le_refl _)]; simp
theorem yielded_mute (l : List Oper) (o : Oper) : yielded (l ++ [mute o]).toArray = yielded (l ++ [o]).toArray := by
  funext t j
  unfold yielded
  rw [List.getElem?_toArray, List.getElem?_toArray, mute_at]
  by_cases h : j = l.length
  · subst h; rw [if_pos rfl, last_at]; rfl
  · rw [if_neg h]
theorem ready_mute (md : Region.Mode) (l : List Oper) (o : Oper) (listed : Array Bool) : Region.ready md (l ++ [mute o]).toArray listed = Region.ready md (l ++ [o]).toArray listed := by
  unfold Region.ready
  rw [show (l ++ [mute o]).toArray.size = (l ++ [o]).toArray.size by simp]
  congr 1
  funext i
  rw [List.getElem?_toArray, List.getElem?_toArray, mute_at]
  by_cases h : i = l.length
  · subst h; rw [if_pos rfl, last_at]; rfl
  · rw [if_neg h]
/-- The last one waits for all the others. -/
def lastB (n : Nat) (o : Oper) : Bool := (List.range n).all fun j => o.after.any fun e => Region.binds .any e && e.on == j
/-- None waits for a later one. -/
def topB (l : List Oper) : Bool := (List.range l.length).all fun i => ((l[i]?).map fun o => o.after.all fun e => !Region.binds .any e || Nat.blt e.on i).getD true
theorem ready_last {l : List Oper} {o : Oper} (hl : lastB l.length o = true) {listed : Array Bool} (h : l.length ∈ Region.ready .any (l ++ [o]).toArray listed) : Region.ready .any (l ++ [o]).toArray (listed.setIfInBounds l.length true) = [] := by
  obtain ⟨h1, o', ho', hall⟩ := mem_ready.1 h
  rw [List.getElem?_toArray, last_at] at ho'
  cases ho'
  apply List.eq_nil_iff_forall_not_mem.2
  intro i hi
  obtain ⟨h2, o2, ho2, _⟩ := mem_ready.1 hi
  rw [List.getElem?_toArray] at ho2
  have hil : i < (l ++ [o]).length := by
    have := List.getElem?_eq_some_iff.1 ho2; exact this.1
  rw [List.length_append, List.length_singleton] at hil
  by_cases he : i = l.length
  · subst he
    rcases Nat.lt_or_ge l.length listed.size with h' | h'
    · simp [h'] at h2
    · simp [Array.getElem?_eq_none h'] at h1
  · have hlt : i < l.length := by omega
    have := List.all_eq_true.1 hl i (by simpa using hlt)
    rw [Array.any_eq_true'] at this
    obtain ⟨e, hem, he2⟩ := this
    obtain ⟨hb, hon⟩ := Bool.and_eq_true_iff.1 he2
    have hon := eq_of_beq hon
    have h3 := hall e hem hb
    rw [hon] at h3
    rcases Nat.lt_or_ge i listed.size with h' | h'
    · have h4 : listed[i] = true := by simpa [h'] using h3
      rw [Array.getD_eq_getD_getElem?, Array.getElem?_setIfInBounds, if_neg (Ne.symm he)] at h2
      simp [h', h4] at h2
    · simp [Array.getElem?_eq_none h'] at h3
theorem ready_some {l : List Oper} (ht : topB l = true) {listed : Array Bool} (hs : listed.size = l.length) {n : Nat} (hn : n < l.length) (h : listed.getD n true = false) : Region.ready .any l.toArray listed ≠ [] := by
  induction n using Nat.strongRecOn with
  | _ n ih =>
    by_cases hall : ∀ j, j < n → listed.getD j true = true
    · intro he
      have : n ∈ Region.ready .any l.toArray listed := by
        refine mem_ready.2 ⟨h, l[n], by rw [List.getElem?_toArray, List.getElem?_eq_getElem hn], fun e hem hb => ?_⟩
        have h1 := List.all_eq_true.1 ht n (by simpa using hn)
        rw [List.getElem?_eq_getElem hn] at h1
        have h2 := Array.all_eq_true'.1 (show (l[n].after.all fun e => !Region.binds .any e || Nat.blt e.on n) = true from h1) e hem
        rw [hb, Bool.not_true, Bool.false_or] at h2
        have h3 : e.on < n := by simpa using h2
        have h4 := hall e.on h3
        have h5 : e.on < listed.size := by omega
        simpa [h5] using h4
      rw [he] at this; cases this
    · have : ∃ j, j < n ∧ listed.getD j true = false := by
        refine Classical.byContradiction fun hc => hall fun j hj => ?_
        cases hv : listed.getD j true with
        | true => rfl
        | false => exact absurd ⟨j, hj, hv⟩ hc
      obtain ⟨j, hj, hv⟩ := this
      exact ih j hj (by omega) hv
theorem wpAny_of_mute {P : Program} {C : World → Prop} {l : List Oper} {o : Oper} {Q : Exit → Act → World → Prop} {Qp : Act → Prop} (hd : o.dst = none) (hl : lastB l.length o = true) (ht : topB (l ++ [o]) = true)
    (hfin : ∀ a w, C w → Qp a → wpList P (l ++ [o]).toArray Q [o] a w) : ∀ (fuel : Nat) (listed : Array Bool) (a : Act) (w : World), listed.size = (l ++ [o]).length → listed.getD l.length true = false → C w →
      wpAnyQ P .any (l ++ [mute o]).toArray C Qp fuel listed a → wpAny P .any (l ++ [o]).toArray Q fuel listed a w
  | 0, listed, a, w, hs, hn, hC, h => by
    have := h.1
    rw [ready_mute] at this
    exact absurd this (ready_some ht hs (by simp) hn)
  | fuel + 1, listed, a, w, hs, hn, hC, h => by
    refine ⟨fun h0 => absurd h0 (ready_some ht hs (by simp) hn), fun i hi => ?_⟩
    have h2 := h.2 i (by rw [ready_mute]; exact hi)
    by_cases hin : i = l.length
    · subst hin
      have hQp : Qp a := by
        have hr := ready_last hl hi
        have key : ∀ a', wpAnyQ P .any (l ++ [mute o]).toArray C Qp fuel (listed.setIfInBounds l.length true) a' → Qp a' := fun a' hh => by
          cases fuel with
          | zero => exact hh.2
          | succ f => exact hh.1 (by rw [ready_mute]; exact hr)
        unfold qOp at h2
        rw [List.getElem?_toArray, mute_at, if_pos rfl] at h2
        have hp : ∀ v, a.put (mute o).dst v = a := fun v => by rw [show (mute o).dst = o.dst from rfl, hd]; rfl
        simp only at h2
        split at h2
        · obtain ⟨v, _, hv⟩ := h2
          rw [hp] at hv; exact key _ hv
        · rw [hp] at h2; exact key _ h2
      have hL := hfin a w hC hQp
      have hr := ready_last hl hi
      have hK : ∀ a' w', wpList P (l ++ [o]).toArray Q [] a' w' → wpAny P .any (l ++ [o]).toArray Q fuel (listed.setIfInBounds l.length true) a' w' := fun a' w' hh => by
        cases fuel with
        | zero => exact ⟨hr, hh⟩
        | succ f => exact ⟨fun _ => hh, fun i hi => by rw [hr] at hi; cases hi⟩
      unfold wpOp
      rw [List.getElem?_toArray, last_at]
      simp only
      unfold wpList at hL
      split at hL
      · rename_i hw
        rw [if_pos hw]
        rcases hL with hL | hL
        · exact .inl (Oper.wp_mono hK hL)
        · exact .inr hL
      · rename_i hw
        rw [if_neg hw]
        exact hK _ _ hL
    · have h3 : qOp P (l ++ [o]).toArray C i (wpAnyQ P .any (l ++ [mute o]).toArray C Qp fuel (listed.setIfInBounds i true)) a := by
        unfold qOp at *
        rw [List.getElem?_toArray, mute_at, if_neg hin, yielded_mute] at h2
        rw [List.getElem?_toArray]
        exact h2
      refine wpOp_of_qOp hC (fun a' w' hC' hK => wpAny_of_mute hd hl ht hfin fuel _ a' w' ?_ ?_ hC' hK) h3
      · simpa using hs
      · rw [Array.getD_eq_getD_getElem?, Array.getElem?_setIfInBounds, if_neg hin, ← Array.getD_eq_getD_getElem?]; exact hn
theorem wpQuiet_cons {P : Program} {ops : Array Oper} {C : World → Prop} {Q : Act → Prop} {o : Oper} {rest : List Oper} {a : Act} : wpQuiet P ops C Q (o :: rest) a = if Region.wanted o (yielded ops a.tmps) then o.quiet P a C (wpQuiet P ops C Q rest) else wpQuiet P ops C Q rest (a.put o.dst undef) := rfl
theorem wp_region_last {P : Program} {id : Nat} {C : World → Prop} {Q : Exit → Act → World → Prop} {a : Act} {w : World} {l : List Oper} {o : Oper} (hm : P.follows .mixedOrders = true) (hd : o.dst = none) (hB : Region.lexB .any (l ++ [mute o]).toArray = true)
    (hl : lastB l.length o = true) (ht : topB (l ++ [o]) = true) (hC : C { w with drawn := w.drawn + 1 })
    (h : wpQuiet P (l ++ [mute o]).toArray C (fun a' => ∀ w', C w' → wpList P (l ++ [o]).toArray Q [o] a' w') l a) : (Code.region id (l ++ [o]).toArray true).wp P Q a w := by
  simp only [Region.lexB, Bool.and_eq_true] at hB
  refine wp_region_any hm ?_
  have hq : wpQuiet P (l ++ [mute o]).toArray C (fun a' => ∀ w', C w' → wpList P (l ++ [o]).toArray Q [o] a' w') (l ++ [mute o]) a := by
    have go : ∀ (m : List Oper) a, wpQuiet P (l ++ [mute o]).toArray C (fun a' => ∀ w', C w' → wpList P (l ++ [o]).toArray Q [o] a' w') m a → wpQuiet P (l ++ [mute o]).toArray C (fun a' => ∀ w', C w' → wpList P (l ++ [o]).toArray Q [o] a' w') (m ++ [mute o]) a := by
      intro m
      induction m with
      | nil =>
        intro a h
        have hp : a.put (mute o).dst undef = a := by rw [show (mute o).dst = o.dst from rfl, hd]; rfl
        rw [List.nil_append, wpQuiet_cons]
        split
        · refine ⟨undef, fun w' _ => ?_, by rw [hp]; exact h⟩
          exact ⟨rfl, rfl⟩
        · rw [hp]; exact h
      | cons x m ih =>
        intro a h
        rw [List.cons_append, wpQuiet_cons]
        rw [wpQuiet_cons] at h
        split
        · rename_i hw
          rw [if_pos hw] at h
          exact Oper.quiet_mono (fun a' h' => ih a' h') h
        · rename_i hw
          rw [if_neg hw] at h
          exact ih _ h
    exact go l a h
  have := wpAnyQ_lex (C := C) (md := .any) hB.1 (l ++ [mute o]) 0 (Array.replicate (l ++ [mute o]).toArray.size false) a (by simp) (by simpa using hB.2) hq
  refine wpAny_of_mute (Qp := fun a' => ∀ w', C w' → wpList P (l ++ [o]).toArray Q [o] a' w') hd hl ht (fun a w hC hQ => hQ w hC) _ _ a _ (by simp) (by simp) hC ?_
  simpa using this
/-- The same for a region that is written out, at the class of worlds in which all blocks of w stand as they did. -/
theorem wp_region_put {P : Program} {id : Nat} {Q : Exit → Act → World → Prop} {a : Act} {w : World} {L : List Oper} (hne : L ≠ []) (hm : P.follows .mixedOrders = true) (hd : (L.getLast hne).dst = none) (hB : Region.lexB .any (L.dropLast ++ [mute (L.getLast hne)]).toArray = true)
    (hl : lastB L.dropLast.length (L.getLast hne) = true) (ht : topB L = true)
    (h : wpQuiet P (L.dropLast ++ [mute (L.getLast hne)]).toArray (fun w' => ∃ i : BW w, w' = i.v) (fun a' => ∀ i : BW w, wpList P L.toArray Q [L.getLast hne] a' i.v) L.dropLast a) : (Code.region id L.toArray true).wp P Q a w := by
  have e : L.dropLast ++ [L.getLast hne] = L := List.dropLast_concat_getLast hne
  rw [show (Code.region id L.toArray true) = Code.region id (L.dropLast ++ [L.getLast hne]).toArray true by rw [e]]
  refine wp_region_last (C := fun w' => ∃ i : BW w, w' = i.v) hm hd hB hl (by rw [e]; exact ht) ⟨⟨{ w with drawn := w.drawn + 1 }, ⟨rfl, rfl, rfl, Nat.le_refl _, fun _ _ => rfl⟩⟩, rfl⟩ ?_
  have e2 : (fun a' => ∀ w', (∃ i : BW w, w' = i.v) → wpList P (L.dropLast ++ [L.getLast hne]).toArray Q [L.getLast hne] a' w') = (fun a' => ∀ i : BW w, wpList P L.toArray Q [L.getLast hne] a' i.v) := by
    funext a'
    rw [e]
    refine propext ⟨fun h i => h _ ⟨i, rfl⟩, fun h w' hw => ?_⟩
    obtain ⟨i, rfl⟩ := hw
    exact h i
  rw [e2]
  exact h
end Go.Proofs.Ytjnfnihhihncmaa
