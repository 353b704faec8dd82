/- Texts of one proof, one behind the other. -/
import Derived.BigQuiet
import Derived.Below
import Derived.Deep.Quiet
import Derived.OrdersHeld
/- A region that draws its order, whose operations only read and whose calls make new memory alone: one walk, in the order of the text, in whatever world that has the old blocks as they were. -/
namespace Go.Proofs.YtgmbkelmgolkpaaDoor
open Go.RowKit
set_option linter.unusedVariables false

/-- A world in which all blocks of w stand as they did. -/
structure BW (w : World) where
  v : World
  below : Below w.heap.size w v

instance BW.some (w : World) : Nonempty (BW w) := ⟨⟨w, Below.refl _ _⟩⟩

theorem BW.cell {w : World} (i : BW w) {b o : Nat} (hb : b < w.heap.size) : i.v.cell? ⟨b, o, none⟩ = w.cell? ⟨b, o, none⟩ := i.below.cell (p := ⟨b, o, none⟩) hb

theorem wp_region_below {P : Program} {id : Nat} {Q : Exit → Act → World → Prop} {a : Act} {w : World} {l : List Oper} (hm : P.follows .mixedOrders = true) (hB : Region.lexB .any l.toArray = true)
    (h : wpQuiet P l.toArray (fun w' => ∃ i : BW w, w' = i.v) (fun a' => ∀ i : BW w, Q .normal a' i.v) l a) : (Code.region id l.toArray true).wp P Q a w := by
  refine wp_region_quiet (C := fun w' => ∃ i : BW w, w' = i.v) hm hB ⟨⟨{ w with drawn := w.drawn + 1 }, ⟨rfl, rfl, rfl, Nat.le_refl _, fun _ _ => rfl⟩⟩, rfl⟩ ?_
  have e : (fun a' => ∀ w', (∃ i : BW w, w' = i.v) → Q .normal a' w') = (fun a' => ∀ i : BW w, Q .normal a' i.v) := by
    funext a'
    refine propext ⟨fun h i => h _ ⟨i, rfl⟩, fun h w' hw => ?_⟩
    obtain ⟨i, rfl⟩ := hw
    exact h i
  rw [e]
  simpa using h

/-- A callee's contract, met in such a world. -/
theorem Calls.below_of {P : Program} {f : FuncId} {args : Array Value} {w : World} {i : BW w} {v : Value}
    (h : Calls P f args i.v fun e w' => e = .returned v ∧ Below i.v.heap.size i.v w') : Calls P f args i.v fun e w'' => e = .returned v ∧ ∃ j : BW w, w'' = j.v :=
  h.mono fun _ w'' ⟨he, hb⟩ => ⟨he, ⟨w'', i.below.trans (hb.mono i.below.size)⟩, rfl⟩
end Go.Proofs.YtgmbkelmgolkpaaDoor
/- A region that draws its order, all of whose operations but the last only read (or call what makes new memory alone), the last waiting for all the others: one walk, in the order of the text; the last one by the plain walk. -/
namespace Go.Proofs.YtgmbkelmgolkpaaDoor
open Go.RowKit
set_option linter.unusedVariables false

/-- An operation that does nothing, in the place of this one. -/
def mute (o : Oper) : Oper := { o with op := .move (.const undef) }
theorem mute_at (l : List Oper) (o : Oper) (j : Nat) : (l ++ [mute o])[j]? = if j = l.length then some (mute o) else (l ++ [o])[j]? := by
  by_cases h : j < l.length
  · rw [if_neg (by omega), List.getElem?_append_left h, List.getElem?_append_left h]
  · by_cases h2 : j = l.length
    · subst h2; rw [if_pos rfl, List.getElem?_append_right (Nat.le_refl _)]; simp
    · rw [if_neg h2, List.getElem?_eq_none (by simp; omega), List.getElem?_eq_none (by simp; omega)]
theorem last_at (l : List Oper) (o : Oper) : (l ++ [o])[l.length]? = some o := by rw [List.getElem?_append_right (Nat.le_refl _)]; simp
theorem yielded_mute (l : List Oper) (o : Oper) : yielded (l ++ [mute o]).toArray = yielded (l ++ [o]).toArray := by
  funext t j
  unfold yielded
  rw [List.getElem?_toArray, List.getElem?_toArray, mute_at]
  by_cases h : j = l.length
  · subst h; rw [if_pos rfl, last_at]; rfl
  · rw [if_neg h]
theorem ready_mute (md : Region.Mode) (l : List Oper) (o : Oper) (listed : Array Bool) : Region.ready md (l ++ [mute o]).toArray listed = Region.ready md (l ++ [o]).toArray listed := by
  unfold Region.ready
  rw [show (l ++ [mute o]).toArray.size = (l ++ [o]).toArray.size by simp]
  congr 1
  funext i
  rw [List.getElem?_toArray, List.getElem?_toArray, mute_at]
  by_cases h : i = l.length
  · subst h; rw [if_pos rfl, last_at]; rfl
  · rw [if_neg h]
/-- The last one waits for all the others. -/
def lastB (n : Nat) (o : Oper) : Bool := (List.range n).all fun j => o.after.any fun e => Region.binds .any e && e.on == j
/-- None waits for a later one. -/
def topB (l : List Oper) : Bool := (List.range l.length).all fun i => ((l[i]?).map fun o => o.after.all fun e => !Region.binds .any e || Nat.blt e.on i).getD true
theorem ready_last {l : List Oper} {o : Oper} (hl : lastB l.length o = true) {listed : Array Bool} (h : l.length ∈ Region.ready .any (l ++ [o]).toArray listed) : Region.ready .any (l ++ [o]).toArray (listed.setIfInBounds l.length true) = [] := by
  obtain ⟨h1, o', ho', hall⟩ := mem_ready.1 h
  rw [List.getElem?_toArray, last_at] at ho'
  cases ho'
  apply List.eq_nil_iff_forall_not_mem.2
  intro i hi
  obtain ⟨h2, o2, ho2, _⟩ := mem_ready.1 hi
  rw [List.getElem?_toArray] at ho2
  have hil : i < (l ++ [o]).length := by
    have := List.getElem?_eq_some_iff.1 ho2; exact this.1
  rw [List.length_append, List.length_singleton] at hil
  by_cases he : i = l.length
  · subst he
    rcases Nat.lt_or_ge l.length listed.size with h' | h'
    · simp [h'] at h2
    · simp [Array.getElem?_eq_none h'] at h1
  · have hlt : i < l.length := by omega
    have := List.all_eq_true.1 hl i (by simpa using hlt)
    rw [Array.any_eq_true'] at this
    obtain ⟨e, hem, he2⟩ := this
    obtain ⟨hb, hon⟩ := Bool.and_eq_true_iff.1 he2
    have hon := eq_of_beq hon
    have h3 := hall e hem hb
    rw [hon] at h3
    rcases Nat.lt_or_ge i listed.size with h' | h'
    · have h4 : listed[i] = true := by simpa [h'] using h3
      rw [Array.getD_eq_getD_getElem?, Array.getElem?_setIfInBounds, if_neg (Ne.symm he)] at h2
      simp [h', h4] at h2
    · simp [Array.getElem?_eq_none h'] at h3
theorem ready_some {l : List Oper} (ht : topB l = true) {listed : Array Bool} (hs : listed.size = l.length) {n : Nat} (hn : n < l.length) (h : listed.getD n true = false) : Region.ready .any l.toArray listed ≠ [] := by
  induction n using Nat.strongRecOn with
  | _ n ih =>
    by_cases hall : ∀ j, j < n → listed.getD j true = true
    · intro he
      have : n ∈ Region.ready .any l.toArray listed := by
        refine mem_ready.2 ⟨h, l[n], by rw [List.getElem?_toArray, List.getElem?_eq_getElem hn], fun e hem hb => ?_⟩
        have h1 := List.all_eq_true.1 ht n (by simpa using hn)
        rw [List.getElem?_eq_getElem hn] at h1
        have h2 := Array.all_eq_true'.1 (show (l[n].after.all fun e => !Region.binds .any e || Nat.blt e.on n) = true from h1) e hem
        rw [hb, Bool.not_true, Bool.false_or] at h2
        have h3 : e.on < n := by simpa using h2
        have h4 := hall e.on h3
        have h5 : e.on < listed.size := by omega
        simpa [h5] using h4
      rw [he] at this; cases this
    · have : ∃ j, j < n ∧ listed.getD j true = false := by
        refine Classical.byContradiction fun hc => hall fun j hj => ?_
        cases hv : listed.getD j true with
        | true => rfl
        | false => exact absurd ⟨j, hj, hv⟩ hc
      obtain ⟨j, hj, hv⟩ := this
      exact ih j hj (by omega) hv
theorem wpAny_of_mute {P : Program} {C : World → Prop} {l : List Oper} {o : Oper} {Q : Exit → Act → World → Prop} {Qp : Act → Prop} (hd : o.dst = none) (hl : lastB l.length o = true) (ht : topB (l ++ [o]) = true)
    (hfin : ∀ a w, C w → Qp a → wpList P (l ++ [o]).toArray Q [o] a w) : ∀ (fuel : Nat) (listed : Array Bool) (a : Act) (w : World), listed.size = (l ++ [o]).length → listed.getD l.length true = false → C w →
      wpAnyQ P .any (l ++ [mute o]).toArray C Qp fuel listed a → wpAny P .any (l ++ [o]).toArray Q fuel listed a w
  | 0, listed, a, w, hs, hn, hC, h => by
    have := h.1
    rw [ready_mute] at this
    exact absurd this (ready_some ht hs (by simp) hn)
  | fuel + 1, listed, a, w, hs, hn, hC, h => by
    refine ⟨fun h0 => absurd h0 (ready_some ht hs (by simp) hn), fun i hi => ?_⟩
    have h2 := h.2 i (by rw [ready_mute]; exact hi)
    by_cases hin : i = l.length
    · subst hin
      have hQp : Qp a := by
        have hr := ready_last hl hi
        have key : ∀ a', wpAnyQ P .any (l ++ [mute o]).toArray C Qp fuel (listed.setIfInBounds l.length true) a' → Qp a' := fun a' hh => by
          cases fuel with
          | zero => exact hh.2
          | succ f => exact hh.1 (by rw [ready_mute]; exact hr)
        unfold qOp at h2
        rw [List.getElem?_toArray, mute_at, if_pos rfl] at h2
        have hp : ∀ v, a.put (mute o).dst v = a := fun v => by rw [show (mute o).dst = o.dst from rfl, hd]; rfl
        simp only at h2
        split at h2
        · obtain ⟨v, _, hv⟩ := h2
          rw [hp] at hv; exact key _ hv
        · rw [hp] at h2; exact key _ h2
      have hL := hfin a w hC hQp
      have hr := ready_last hl hi
      have hK : ∀ a' w', wpList P (l ++ [o]).toArray Q [] a' w' → wpAny P .any (l ++ [o]).toArray Q fuel (listed.setIfInBounds l.length true) a' w' := fun a' w' hh => by
        cases fuel with
        | zero => exact ⟨hr, hh⟩
        | succ f => exact ⟨fun _ => hh, fun i hi => by rw [hr] at hi; cases hi⟩
      unfold wpOp
      rw [List.getElem?_toArray, last_at]
      simp only
      unfold wpList at hL
      split at hL
      · rename_i hw
        rw [if_pos hw]
        rcases hL with hL | hL
        · exact .inl (Oper.wp_mono hK hL)
        · exact .inr hL
      · rename_i hw
        rw [if_neg hw]
        exact hK _ _ hL
    · have h3 : qOp P (l ++ [o]).toArray C i (wpAnyQ P .any (l ++ [mute o]).toArray C Qp fuel (listed.setIfInBounds i true)) a := by
        unfold qOp at *
        rw [List.getElem?_toArray, mute_at, if_neg hin, yielded_mute] at h2
        rw [List.getElem?_toArray]
        exact h2
      refine wpOp_of_qOp hC (fun a' w' hC' hK => wpAny_of_mute hd hl ht hfin fuel _ a' w' ?_ ?_ hC' hK) h3
      · simpa using hs
      · rw [Array.getD_eq_getD_getElem?, Array.getElem?_setIfInBounds, if_neg hin, ← Array.getD_eq_getD_getElem?]; exact hn
theorem wpQuiet_cons {P : Program} {ops : Array Oper} {C : World → Prop} {Q : Act → Prop} {o : Oper} {rest : List Oper} {a : Act} : wpQuiet P ops C Q (o :: rest) a = if Region.wanted o (yielded ops a.tmps) then o.quiet P a C (wpQuiet P ops C Q rest) else wpQuiet P ops C Q rest (a.put o.dst undef) := rfl
theorem wp_region_last {P : Program} {id : Nat} {C : World → Prop} {Q : Exit → Act → World → Prop} {a : Act} {w : World} {l : List Oper} {o : Oper} (hm : P.follows .mixedOrders = true) (hd : o.dst = none) (hB : Region.lexB .any (l ++ [mute o]).toArray = true)
    (hl : lastB l.length o = true) (ht : topB (l ++ [o]) = true) (hC : C { w with drawn := w.drawn + 1 })
    (h : wpQuiet P (l ++ [mute o]).toArray C (fun a' => ∀ w', C w' → wpList P (l ++ [o]).toArray Q [o] a' w') l a) : (Code.region id (l ++ [o]).toArray true).wp P Q a w := by
  simp only [Region.lexB, Bool.and_eq_true] at hB
  refine wp_region_any hm ?_
  have hq : wpQuiet P (l ++ [mute o]).toArray C (fun a' => ∀ w', C w' → wpList P (l ++ [o]).toArray Q [o] a' w') (l ++ [mute o]) a := by
    have go : ∀ (m : List Oper) a, wpQuiet P (l ++ [mute o]).toArray C (fun a' => ∀ w', C w' → wpList P (l ++ [o]).toArray Q [o] a' w') m a → wpQuiet P (l ++ [mute o]).toArray C (fun a' => ∀ w', C w' → wpList P (l ++ [o]).toArray Q [o] a' w') (m ++ [mute o]) a := by
      intro m
      induction m with
      | nil =>
        intro a h
        have hp : a.put (mute o).dst undef = a := by rw [show (mute o).dst = o.dst from rfl, hd]; rfl
        rw [List.nil_append, wpQuiet_cons]
        split
        · refine ⟨undef, fun w' _ => ?_, by rw [hp]; exact h⟩
          exact ⟨rfl, rfl⟩
        · rw [hp]; exact h
      | cons x m ih =>
        intro a h
        rw [List.cons_append, wpQuiet_cons]
        rw [wpQuiet_cons] at h
        split
        · rename_i hw
          rw [if_pos hw] at h
          exact Oper.quiet_mono (fun a' h' => ih a' h') h
        · rename_i hw
          rw [if_neg hw] at h
          exact ih _ h
    exact go l a h
  have := wpAnyQ_lex (C := C) (md := .any) hB.1 (l ++ [mute o]) 0 (Array.replicate (l ++ [mute o]).toArray.size false) a (by simp) (by simpa using hB.2) hq
  refine wpAny_of_mute (Qp := fun a' => ∀ w', C w' → wpList P (l ++ [o]).toArray Q [o] a' w') hd hl ht (fun a w hC hQ => hQ w hC) _ _ a _ (by simp) (by simp) hC ?_
  simpa using this
/-- The same for a region that is written out, at the class of worlds in which all blocks of w stand as they did. -/
theorem wp_region_put {P : Program} {id : Nat} {Q : Exit → Act → World → Prop} {a : Act} {w : World} {L : List Oper} (hne : L ≠ []) (hm : P.follows .mixedOrders = true) (hd : (L.getLast hne).dst = none) (hB : Region.lexB .any (L.dropLast ++ [mute (L.getLast hne)]).toArray = true)
    (hl : lastB L.dropLast.length (L.getLast hne) = true) (ht : topB L = true)
    (h : wpQuiet P (L.dropLast ++ [mute (L.getLast hne)]).toArray (fun w' => ∃ i : BW w, w' = i.v) (fun a' => ∀ i : BW w, wpList P L.toArray Q [L.getLast hne] a' i.v) L.dropLast a) : (Code.region id L.toArray true).wp P Q a w := by
  have e : L.dropLast ++ [L.getLast hne] = L := List.dropLast_concat_getLast hne
  rw [show (Code.region id L.toArray true) = Code.region id (L.dropLast ++ [L.getLast hne]).toArray true by rw [e]]
  refine wp_region_last (C := fun w' => ∃ i : BW w, w' = i.v) hm hd hB hl (by rw [e]; exact ht) ⟨⟨{ w with drawn := w.drawn + 1 }, ⟨rfl, rfl, rfl, Nat.le_refl _, fun _ _ => rfl⟩⟩, rfl⟩ ?_
  have e2 : (fun a' => ∀ w', (∃ i : BW w, w' = i.v) → wpList P (L.dropLast ++ [L.getLast hne]).toArray Q [L.getLast hne] a' w') = (fun a' => ∀ i : BW w, wpList P L.toArray Q [L.getLast hne] a' i.v) := by
    funext a'
    rw [e]
    refine propext ⟨fun h i => h _ ⟨i, rfl⟩, fun h w' hw => ?_⟩
    obtain ⟨i, rfl⟩ := hw
    exact h i
  rw [e2]
  exact h
end Go.Proofs.YtgmbkelmgolkpaaDoor
/- A region that draws its order, by an invariant: what holds of the listed operations, whatever the order. -/
namespace Go.Proofs.YtgmbkelmgolkpaaDoor
open Go.RowKit
set_option linter.unusedVariables false

/-- how many are not listed yet -/
def unl (listed : Array Bool) : Nat → Nat
  | 0 => 0
  | n + 1 => unl listed n + (!listed.getD n true).toNat
theorem unl_set {listed : Array Bool} {i : Nat} (h : listed.getD i true = false) : ∀ {n : Nat}, i < n → unl (listed.setIfInBounds i true) n + 1 = unl listed n
  | n + 1, hi => by
    have hs : i < listed.size := by
      refine Nat.lt_of_not_le fun hle => ?_
      simp [Array.getElem?_eq_none hle] at h
    have ho : ∀ j, j ≠ i → (listed.setIfInBounds i true).getD j true = listed.getD j true := fun j hj => by
      rw [Array.getD_eq_getD_getElem?, Array.getElem?_setIfInBounds, if_neg (Ne.symm hj), ← Array.getD_eq_getD_getElem?]
    have hsame : ∀ m, m ≤ i → unl (listed.setIfInBounds i true) m = unl listed m := fun m => by
      induction m with
      | zero => intro _; rfl
      | succ m ih => intro hm; rw [unl, unl, ih (by omega), ho m (by omega)]
    rw [unl, unl]
    by_cases he : n = i
    · subst he
      rw [hsame n (Nat.le_refl _), h, show (listed.setIfInBounds n true).getD n true = true by simp [hs]]; rfl
    · rw [ho n he]
      have := unl_set h (n := n) (by omega)
      omega
theorem unl_pos {listed : Array Bool} {i n : Nat} (h : listed.getD i true = false) (hi : i < n) : 0 < unl listed n := by have := unl_set h hi; omega
theorem unl_le (listed : Array Bool) : ∀ n, unl listed n ≤ n
  | 0 => Nat.le_refl _
  | n + 1 => by rw [unl]; have := unl_le listed n; have := Bool.toNat_le (!listed.getD n true); omega
theorem wpOp_mono' {P : Program} {ops : Array Oper} {Q : Exit → Act → World → Prop} {i : Nat} {K K' : Act → World → Prop} {a : Act} {w : World} (h : ∀ a w, K a w → K' a w) (hh : wpOp P ops Q i K a w) : wpOp P ops Q i K' a w := by
  unfold wpOp at *
  split
  · rename_i ho; simp only [ho] at hh; exact h _ _ hh
  · rename_i o ho
    simp only [ho] at hh
    split
    · rename_i hw
      rw [if_pos hw] at hh
      exact hh.imp (Oper.wp_mono h) id
    · rename_i hw
      rw [if_neg hw] at hh
      exact h _ _ hh
theorem wpAny_inv {P : Program} {L : List Oper} {Q : Exit → Act → World → Prop} (ht : topB L = true) (I : (Nat → Bool) → Act → World → Prop)
    (hstep : ∀ (f : Nat → Bool) a w i o, I f a w → L[i]? = some o → f i = false → (∀ e ∈ o.after, Region.binds .any e = true → f e.on = true) → wpOp P L.toArray Q i (fun a' w' => I (fun j => if j = i then true else f j) a' w') a w)
    (hend : ∀ (f : Nat → Bool) a w, I f a w → (∀ i, i < L.length → f i = true) → Q .normal a w) :
    ∀ (fuel : Nat) (listed : Array Bool) (f : Nat → Bool) a w, listed.size = L.length → (∀ i, i < L.length → listed.getD i true = f i) → unl listed L.length ≤ fuel → I f a w → wpAny P .any L.toArray Q fuel listed a w := by
  have hall : ∀ (listed : Array Bool) (f : Nat → Bool), listed.size = L.length → (∀ i, i < L.length → listed.getD i true = f i) → Region.ready .any L.toArray listed = [] → ∀ i, i < L.length → f i = true := fun listed f hs hf hr i hi => by
    cases hb : f i with
    | true => rfl
    | false => exact absurd hr (ready_some ht hs hi (by rw [hf i hi, hb]))
  intro fuel
  induction fuel with
  | zero =>
    intro listed f a w hs hf hu hI
    have hr : Region.ready .any L.toArray listed = [] := by
      apply List.eq_nil_iff_forall_not_mem.2
      intro i hi
      obtain ⟨h1, o, ho, _⟩ := mem_ready.1 hi
      rw [List.getElem?_toArray] at ho
      have := unl_pos h1 (List.getElem?_eq_some_iff.1 ho).1
      omega
    exact ⟨hr, hend f a w hI (hall listed f hs hf hr)⟩
  | succ fuel ih =>
    intro listed f a w hs hf hu hI
    refine ⟨fun hr => hend f a w hI (hall listed f hs hf hr), fun i hi => ?_⟩
    obtain ⟨h1, o, ho, hafter⟩ := mem_ready.1 hi
    rw [List.getElem?_toArray] at ho
    have hil := (List.getElem?_eq_some_iff.1 ho).1
    refine wpOp_mono' (fun a' w' hI' => ih _ _ a' w' (by simpa using hs) ?_ ?_ hI') (hstep f a w i o hI ho (by rw [← hf i hil]; exact h1) fun e he hb => ?_)
    · intro j hj
      by_cases hji : j = i
      · subst hji; simp [show j < listed.size by omega]
      · rw [Array.getD_eq_getD_getElem?, Array.getElem?_setIfInBounds, if_neg (Ne.symm hji), ← Array.getD_eq_getD_getElem?, hf j hj, if_neg hji]
    · have := unl_set h1 hil; omega
    · have h2 := hafter e he hb
      by_cases hel : e.on < L.length
      · rw [← hf e.on hel]
        have h3 : e.on < listed.size := by omega
        simpa [h3] using h2
      · rw [Array.getD_eq_getD_getElem?, Array.getElem?_eq_none (by omega)] at h2; simp at h2
/-- A drawn region, by an invariant. -/
theorem wp_region_inv {P : Program} {id : Nat} {L : List Oper} {Q : Exit → Act → World → Prop} {a : Act} {w : World} (hm : P.follows .mixedOrders = true) (ht : topB L = true) (I : (Nat → Bool) → Act → World → Prop) (h0 : I (fun _ => false) a { w with drawn := w.drawn + 1 })
    (hstep : ∀ (f : Nat → Bool) a w i o, I f a w → L[i]? = some o → f i = false → (∀ e ∈ o.after, Region.binds .any e = true → f e.on = true) → wpOp P L.toArray Q i (fun a' w' => I (fun j => if j = i then true else f j) a' w') a w)
    (hend : ∀ (f : Nat → Bool) a w, I f a w → (∀ i, i < L.length → f i = true) → Q .normal a w) : (Code.region id L.toArray true).wp P Q a w := by
  refine wp_region_any hm (wpAny_inv ht I hstep hend _ _ (fun _ => false) a _ (by simp) (fun i hi => by simp [hi]) ?_ h0)
  have := unl_le (Array.replicate L.toArray.size false) L.length
  simpa using this
/-- The same, the frame ahead of the region named. -/
theorem wp_region_inv' {P : Program} {id : Nat} {L : List Oper} {Q : Exit → Act → World → Prop} {a : Act} {w : World} (hm : P.follows .mixedOrders = true) (ht : topB L = true) (I : Act → (Nat → Bool) → Act → World → Prop) (h0 : I a (fun _ => false) a { w with drawn := w.drawn + 1 })
    (hstep : ∀ (f : Nat → Bool) a' w i o, I a f a' w → L[i]? = some o → f i = false → (∀ e ∈ o.after, Region.binds .any e = true → f e.on = true) → wpOp P L.toArray Q i (fun a2 w' => I a (fun j => if j = i then true else f j) a2 w') a' w)
    (hend : ∀ (f : Nat → Bool) a' w, I a f a' w → (∀ i, i < L.length → f i = true) → Q .normal a' w) : (Code.region id L.toArray true).wp P Q a w := wp_region_inv hm ht (I a) h0 hstep hend
theorem upon_swap {P : Program} {o : Oper} {a : Act} {K : Act → World → Prop} {Q2 Q : Exit → Act → World → Prop} (hQ : ∀ e a w, e ≠ .normal → Q2 e a w → Q e a w) {r : Result Next} (h : o.upon P a K Q2 r) : o.upon P a K Q r := by
  cases r with
  | halt x w' =>
    cases x <;> first | exact h | exact hQ _ _ _ (by simp) h | exact h.elim
  | ok n w' =>
    cases n <;> try exact h
    rename_i f args
    refine Calls.mono h ?_
    intro e w'' hh
    cases e
    · exact hh
    · exact hQ _ _ _ (by simp) hh
    · obtain ⟨a', w', hh⟩ := hh; exact ⟨a', w', hQ _ _ _ (by simp) hh⟩
/-- One operation of it, by the plain walk. -/
theorem wpOp_plain {P : Program} {L : List Oper} {Q : Exit → Act → World → Prop} {i : Nat} {o : Oper} {K : Act → World → Prop} {a : Act} {w : World} (hi : L[i]? = some o)
    (h : wpList P L.toArray (fun e a' w' => (e = .normal ∧ K a' w') ∨ (e ≠ .normal ∧ Q e a' w')) [o] a w) : wpOp P L.toArray Q i K a w := by
  have hQ : ∀ e a' w', e ≠ .normal → ((e = .normal ∧ K a' w') ∨ (e ≠ .normal ∧ Q e a' w')) → Q e a' w' := fun e a' w' hn h => h.elim (fun h => absurd h.1 hn) (fun h => h.2)
  have hK : ∀ a' w', wpList P L.toArray (fun e a' w' => (e = .normal ∧ K a' w') ∨ (e ≠ .normal ∧ Q e a' w')) [] a' w' → K a' w' := fun a' w' h => h.elim (fun h => h.2) (fun h => absurd rfl h.1)
  unfold wpOp
  rw [List.getElem?_toArray, hi]
  simp only
  unfold wpList at h
  split at h
  · rename_i hw
    rw [if_pos hw]
    rcases h with h | ⟨h1, a', w', h2⟩
    · exact .inl (Oper.wp_mono hK (upon_swap hQ h))
    · exact .inr ⟨h1, a', w', hQ _ _ _ (by simp) h2⟩
  · rename_i hw
    rw [if_neg hw]
    exact hK _ _ h
end Go.Proofs.YtgmbkelmgolkpaaDoor
/- A region that draws its order and whose last operation waits for all the others: the others in whatever way, then the last one. -/
namespace Go.Proofs.YtgmbkelmgolkpaaDoor
open Go.RowKit
set_option linter.unusedVariables false

theorem mute_asks {P : Program} {o : Oper} {a : Act} {w : World} : ¬ (mute o).asks P a w := by
  rintro ⟨h, _⟩
  have e : ((execOp a.eval (mute o)).runT P w #[]).2 = #[] := rfl
  rw [e] at h
  simp at h
theorem mute_wp {P : Program} {o : Oper} {a : Act} {w : World} {K : Act → World → Prop} {Q : Exit → Act → World → Prop} (hd : o.dst = none) (h : (mute o).wp P a w K Q) : K a w := by
  unfold Oper.wp at h
  have e : (execOp a.eval (mute o)).run P w = .ok (.value undef) w := rfl
  rw [e] at h
  have h2 : K (a.put (mute o).dst undef) w := h
  have hp : a.put (mute o).dst undef = a := by rw [show (mute o).dst = o.dst from rfl, hd]; rfl
  rwa [hp] at h2
/-- Each but the last is waited for by a later one. -/
def coverB (L : List Oper) : Bool := (List.range (L.length - 1)).all fun j => (List.range L.length).any fun k => Nat.blt j k && ((L[k]?).map fun o => o.after.any fun e => Region.binds .any e && e.on == j).getD false
/-- What is listed was ready. -/
def ClosedL (L : List Oper) (listed : Array Bool) : Prop := ∀ i o, L[i]? = some o → listed.getD i false = true → ∀ e ∈ o.after, Region.binds .any e = true → listed.getD e.on false = true
theorem getD_mono {listed : Array Bool} {i j : Nat} (h : listed.getD j false = true) : (listed.setIfInBounds i true).getD j false = true := by
  rw [Array.getD_eq_getD_getElem?] at h ⊢
  rw [Array.getElem?_setIfInBounds]
  by_cases hij : i = j
  · subst hij
    rw [if_pos rfl]
    by_cases hs : i < listed.size
    · rw [if_pos hs]; rfl
    · rw [Array.getElem?_eq_none (by omega)] at h; simp at h
  · rw [if_neg hij]; exact h
theorem ClosedL.step {L : List Oper} {listed : Array Bool} (h : ClosedL L listed) {i : Nat} (hi : i ∈ Region.ready .any L.toArray listed) : ClosedL L (listed.setIfInBounds i true) := fun j o ho hj e he hb => by
  obtain ⟨h1, o', ho', hall⟩ := mem_ready.1 hi
  by_cases hji : j = i
  · subst hji
    rw [List.getElem?_toArray, ho] at ho'
    cases ho'
    exact getD_mono (hall e he hb)
  · refine getD_mono (h j o ho ?_ e he hb)
    rw [Array.getD_eq_getD_getElem?, Array.getElem?_setIfInBounds, if_neg (Ne.symm hji), ← Array.getD_eq_getD_getElem?] at hj
    exact hj
theorem cover_all {L : List Oper} (hc : coverB L = true) {listed : Array Bool} (hcl : ClosedL L listed) {n : Nat} (hn : L.length = n + 1) (h : n ∈ Region.ready .any L.toArray listed) : ∀ m j, j + m = n → 0 < m → listed.getD j false = true := fun m => by
  induction m using Nat.strongRecOn with
  | _ m ih =>
    intro j hj hm
    have h1 := List.all_eq_true.1 hc j (by simp; omega)
    obtain ⟨k, hk, h2⟩ := List.any_eq_true.1 h1
    obtain ⟨hjk, h2⟩ := Bool.and_eq_true_iff.1 h2
    have hjk : j < k := by simpa using hjk
    have hkn : k < L.length := by simpa using hk
    rw [List.getElem?_eq_getElem hkn, Option.map_some, Option.getD_some, Array.any_eq_true'] at h2
    obtain ⟨e, he, h3⟩ := h2
    obtain ⟨hb, hon⟩ := Bool.and_eq_true_iff.1 h3
    have hon := eq_of_beq hon
    by_cases hkn2 : k = n
    · subst hkn2
      obtain ⟨_, o', ho', hall⟩ := mem_ready.1 h
      rw [List.getElem?_toArray, List.getElem?_eq_getElem hkn] at ho'
      cases ho'
      have := hall e he hb
      rw [hon] at this; exact this
    · have hl := ih (n - k) (by omega) k (by omega) (by omega)
      have := hcl k L[k] (List.getElem?_eq_getElem hkn) hl e he hb
      rw [hon] at this; exact this
theorem ready_cover {l : List Oper} {o : Oper} (hc : coverB (l ++ [o]) = true) {listed : Array Bool} (hcl : ClosedL (l ++ [o]) listed) (h : l.length ∈ Region.ready .any (l ++ [o]).toArray listed) : Region.ready .any (l ++ [o]).toArray (listed.setIfInBounds l.length true) = [] := by
  apply List.eq_nil_iff_forall_not_mem.2
  intro i hi
  have hall := cover_all hc hcl (n := l.length) (by simp) h
  obtain ⟨h1, _⟩ := mem_ready.1 h
  obtain ⟨h2, o2, ho2, _⟩ := mem_ready.1 hi
  rw [List.getElem?_toArray] at ho2
  have hil : i < (l ++ [o]).length := (List.getElem?_eq_some_iff.1 ho2).1
  rw [List.length_append, List.length_singleton] at hil
  by_cases he : i = l.length
  · subst he
    rcases Nat.lt_or_ge l.length listed.size with h' | h'
    · simp [h'] at h2
    · simp [Array.getElem?_eq_none h'] at h1
  · have h3 := hall (l.length - i) i (by omega) (by omega)
    rcases Nat.lt_or_ge i listed.size with h' | h'
    · have h4 : listed[i] = true := by simpa [h'] using h3
      rw [Array.getD_eq_getD_getElem?, Array.getElem?_setIfInBounds, if_neg (Ne.symm he)] at h2
      simp [h', h4] at h2
    · simp [Array.getElem?_eq_none h'] at h3
/-- What must hold behind the others. -/
def CutQ (P : Program) (l : List Oper) (o : Oper) (Q : Exit → Act → World → Prop) (e : Exit) (a : Act) (w : World) : Prop := (e = .normal ∧ wpList P (l ++ [o]).toArray Q [o] a w) ∨ (e ≠ .normal ∧ Q e a w)
theorem wpAny_cut {P : Program} {l : List Oper} {o : Oper} {Q : Exit → Act → World → Prop} (hd : o.dst = none) (hl : coverB (l ++ [o]) = true) (ht : topB (l ++ [o]) = true) : ∀ (fuel : Nat) (listed : Array Bool) (a : Act) (w : World), listed.size = (l ++ [o]).length → listed.getD l.length true = false → ClosedL (l ++ [o]) listed →
      wpAny P .any (l ++ [mute o]).toArray (CutQ P l o Q) fuel listed a w → wpAny P .any (l ++ [o]).toArray Q fuel listed a w
  | 0, listed, a, w, hs, hn, hcl, h => by
    have := h.1
    rw [ready_mute] at this
    exact absurd this (ready_some ht hs (by simp) hn)
  | fuel + 1, listed, a, w, hs, hn, hcl, h => by
    have hQ : ∀ e a' w', e ≠ .normal → CutQ P l o Q e a' w' → Q e a' w' := fun e a' w' hne hh => hh.elim (fun h => absurd h.1 hne) (fun h => h.2)
    refine ⟨fun h0 => absurd h0 (ready_some ht hs (by simp) hn), fun i hi => ?_⟩
    have h2 := h.2 i (by rw [ready_mute]; exact hi)
    by_cases hin : i = l.length
    · subst hin
      have hr := ready_cover hl hcl hi
      have hL : wpList P (l ++ [o]).toArray Q [o] a w := by
        have key : wpAny P .any (l ++ [mute o]).toArray (CutQ P l o Q) fuel (listed.setIfInBounds l.length true) a w → wpList P (l ++ [o]).toArray Q [o] a w := fun hh => by
          have hq : CutQ P l o Q .normal a w := by
            cases fuel with
            | zero => exact hh.2
            | succ f => exact hh.1 (by rw [ready_mute]; exact hr)
          exact hq.elim (fun h => h.2) (fun h => absurd rfl h.1)
        unfold wpOp at h2
        rw [List.getElem?_toArray, mute_at, if_pos rfl] at h2
        have hp : a.put (mute o).dst undef = a := by rw [show (mute o).dst = o.dst from rfl, hd]; rfl
        simp only at h2
        split at h2
        · rcases h2 with h2 | h2
          · exact key (mute_wp hd h2)
          · exact absurd h2.1 mute_asks
        · rw [hp] at h2; exact key h2
      have hK : ∀ a' w', wpList P (l ++ [o]).toArray Q [] a' w' → wpAny P .any (l ++ [o]).toArray Q fuel (listed.setIfInBounds l.length true) a' w' := fun a' w' hh => by
        cases fuel with
        | zero => exact ⟨hr, hh⟩
        | succ f => exact ⟨fun _ => hh, fun i hi => by rw [hr] at hi; cases hi⟩
      unfold wpOp
      rw [List.getElem?_toArray, last_at]
      simp only
      unfold wpList at hL
      split at hL
      · rename_i hw
        rw [if_pos hw]
        rcases hL with hL | hL
        · exact .inl (Oper.wp_mono hK hL)
        · exact .inr hL
      · rename_i hw
        rw [if_neg hw]
        exact hK _ _ hL
    · have ih : ∀ a' w', wpAny P .any (l ++ [mute o]).toArray (CutQ P l o Q) fuel (listed.setIfInBounds i true) a' w' → wpAny P .any (l ++ [o]).toArray Q fuel (listed.setIfInBounds i true) a' w' := fun a' w' hh => by
        refine wpAny_cut hd hl ht fuel _ a' w' (by simpa using hs) ?_ (hcl.step hi) hh
        rw [Array.getD_eq_getD_getElem?, Array.getElem?_setIfInBounds, if_neg hin, ← Array.getD_eq_getD_getElem?]; exact hn
      unfold wpOp at *
      rw [List.getElem?_toArray, mute_at, if_neg hin, yielded_mute] at h2
      rw [List.getElem?_toArray]
      cases hoi : (l ++ [o])[i]? with
      | none =>
        rw [hoi] at h2
        exact ih _ _ h2
      | some oi =>
        rw [hoi] at h2
        simp only at h2 ⊢
        split
        · rename_i hw
          rw [if_pos hw] at h2
          rcases h2 with h2 | ⟨h3, a', w', h4⟩
          · exact .inl (Oper.wp_mono ih (upon_swap hQ h2))
          · exact .inr ⟨h3, a', w', hQ _ _ _ (by simp) h4⟩
        · rename_i hw
          rw [if_neg hw] at h2
          exact ih _ _ h2
/-- Operations that yield a value and nothing else. -/
def plainB : Op → Bool
  | .move _ | .assign _ | .pick _ _ _ | .build _ _ | .load _ _ | .binOp _ _ _ _ _ | .unOp _ _ _ | .convert _ _ _ | .fieldAddr _ _ _ | .field _ _ _ | .indexAddr _ _ _ | .index _ _ _ | .extract _ _ | .slice _ _ _ _ _ | .nilCheck _ => true
  | _ => false
theorem bind_ok {P : Program} {α β : Type} {s : Sem α} {k : α → Sem β} {w w' : World} {n : β} (h : (s >>= k).run P w = .ok n w') : ∃ x w1, s.run P w = .ok x w1 ∧ (k x).run P w1 = .ok n w' := by
  rw [Sem.run_bind] at h
  cases hs : s.run P w with
  | ok x w1 => rw [hs] at h; exact ⟨x, w1, rfl, h⟩
  | halt x w1 => rw [hs] at h; cases h
theorem value_run {P : Program} {s : Sem Value} {w w' : World} {n : Next} (h : (do pure (Next.value (← s)) : Sem Next).run P w = .ok n w') : ∃ v, n = .value v := by
  rw [Sem.run_bind] at h
  cases hs : s.run P w with
  | ok x w1 => rw [hs] at h; cases h; exact ⟨x, rfl⟩
  | halt x w1 => rw [hs] at h; cases h
theorem plain_run {P : Program} {o : Oper} (hp : plainB o.op = true) {ρ : Operand → Value} {w w' : World} {n : Next} (h : (execOp ρ o).run P w = .ok n w') : ∃ v, n = .value v := by
  unfold execOp at h
  cases hop : o.op <;> rw [hop] at h hp <;> simp only [plainB, Bool.false_eq_true] at hp <;> simp only at h <;> first
    | exact value_run h
    | (cases h; exact ⟨_, rfl⟩)
    | skip
  · rename_i c a b
    rw [Sem.run_bind] at h
    cases hs : (asBool (ρ c)).run P w with
    | ok x w1 => rw [hs] at h; cases h; exact ⟨_, rfl⟩
    | halt x w1 => rw [hs] at h; cases h
  · rename_i x
    split at h
    · cases h
    · cases h
    · cases h
    · split at h
      · cases h
      · obtain ⟨x1, w1, _, h⟩ := bind_ok h
        obtain ⟨x2, w2, _, h⟩ := bind_ok h

        split at h
        · obtain ⟨x3, w3, h3, h⟩ := bind_ok h
          cases h; exact ⟨_, rfl⟩
        · cases h; exact ⟨_, rfl⟩
      · cases h; exact ⟨_, rfl⟩
    · cases h; exact ⟨_, rfl⟩

/- which are quiet: a mask over the others (the last one is none of them) -/
def qPick : List Oper → List Bool → List Oper
  | o :: l, true :: m => o :: qPick l m
  | _ :: l, false :: m => qPick l m
  | _, _ => []
def lPick : List Oper → List Bool → List Oper
  | _ :: l, true :: m => lPick l m
  | o :: l, false :: m => o :: lPick l m
  | _, _ => []
def qIdx : List Bool → Nat → List Nat
  | true :: m, k => k :: qIdx m (k + 1)
  | false :: m, k => qIdx m (k + 1)
  | [], _ => []
def lIdx : List Bool → Nat → List Nat
  | true :: m, k => lIdx m (k + 1)
  | false :: m, k => k :: lIdx m (k + 1)
  | [], _ => []
def setAll (listed : Array Bool) : List Nat → Array Bool
  | [] => listed
  | i :: rest => setAll (listed.setIfInBounds i true) rest
def quietsB (ops : Array Oper) : List Nat → Array Bool → Bool
  | [], _ => true
  | i :: rest, listed => Region.free .any ops listed i && (Region.ready .any ops listed).contains i && ((ops[i]?).map fun o => plainB o.op).getD false && quietsB ops rest (listed.setIfInBounds i true)
def chainB (ops : Array Oper) : List Nat → Array Bool → Bool
  | [], listed => (Region.ready .any ops listed).isEmpty
  | i :: rest, listed => Region.ready .any ops listed == [i] && chainB ops rest (listed.setIfInBounds i true)
section
variable {P : Program} {ops : Array Oper} {Q : Exit → Act → World → Prop} {S : World → Prop}
theorem quiet_yields {o : Oper} {a : Act} {K : Act → Prop} (hp : plainB o.op = true) (hw : Region.wanted o (yielded ops a.tmps) = true) {w : World} (hS : S w) (h : o.quiet P a S K) : ∃ v, YieldsIf P ops S o v a ∧ K (a.put o.dst v) := by
  obtain ⟨v, h1, h2⟩ := h
  refine ⟨v, .inl ⟨hw, fun w' hw' => ?_⟩, h2⟩
  have h3 := h1 w' hw'
  unfold Oper.quietAt at h3
  cases hr : (execOp a.eval o).run P w' with
  | halt x w1 => rw [hr] at h3; exact h3.elim
  | ok n w1 =>
    obtain ⟨u, rfl⟩ := plain_run hp hr
    rw [hr] at h3
    obtain ⟨rfl, rfl⟩ := h3
    rfl
theorem quiets_any (hs : Region.noSelect ops = true) (hQ : ∀ c d v a w, Q (.panic c) (a.put d v) w → Q (.panic c) a w) {K : Act → Prop} {w : World} (hS : S w) : ∀ (l : List Oper) (m : List Bool) (k fuel : Nat) (listed : Array Bool) (a : Act), (∀ j, j < m.length → l[j]? = ops[k + j]?) → quietsB ops (qIdx m k) listed = true →
      wpQuiet P ops S K (qPick l m) a → (∀ a', K a' → wpAnyH P .any ops Q S fuel (setAll listed (qIdx m k)) a' w) → wpAnyH P .any ops Q S (fuel + (qIdx m k).length) listed a w
  | _, [], k, fuel, listed, a, _, _, hq, hK => by
    have : qPick ‹_› [] = [] := by cases ‹List Oper› <;> rfl
    rw [this] at hq
    exact hK a hq
  | [], b :: m, k, fuel, listed, a, hl, hB, hq, hK => by
    cases b with
    | true =>
      have h0 := hl 0 (by simp)
      simp only [List.getElem?_nil, Nat.add_zero] at h0
      simp [qIdx, quietsB, ← h0] at hB
    | false =>
      refine quiets_any hs hQ hS [] m (k + 1) fuel listed a (fun j hj => ?_) hB hq hK
      have := hl (j + 1) (by simpa using hj)
      rw [show k + 1 + j = k + (j + 1) by omega, ← this]; simp
  | o :: l, true :: m, k, fuel, listed, a, hl, hB, hq, hK => by
    have h0 := hl 0 (by simp)
    simp only [List.getElem?_cons_zero, Nat.add_zero] at h0
    simp only [qIdx, quietsB, Bool.and_eq_true, ← h0, Option.map_some, Option.getD_some] at hB
    obtain ⟨⟨⟨hf, hr⟩, hp⟩, hB⟩ := hB
    have hl' : ∀ j, j < m.length → l[j]? = ops[k + 1 + j]? := fun j hj => by
      have := hl (j + 1) (by simpa using hj)
      rw [show k + 1 + j = k + (j + 1) by omega, ← this]; simp
    have hq' : wpQuiet P ops S K (o :: qPick l m) a := hq
    rw [wpQuiet_cons] at hq'
    show wpAnyH P .any ops Q S (fuel + (qIdx m (k + 1)).length + 1) listed a w
    split at hq'
    · rename_i hw
      obtain ⟨v, hy, hv⟩ := quiet_yields hp hw hS hq'
      exact wpAnyH_take h0.symm hs hf hr (fun c a w => hQ c _ _ a w) hy hS (quiets_any hs hQ hS l m (k + 1) fuel _ _ hl' hB hv hK)
    · rename_i hw
      have hw : Region.wanted o (yielded ops a.tmps) = false := by simpa using hw
      exact wpAnyH_take h0.symm hs hf hr (fun c a w => hQ c _ _ a w) (.inr ⟨hw, rfl⟩) hS (quiets_any hs hQ hS l m (k + 1) fuel _ _ hl' hB hq' hK)
  | o :: l, false :: m, k, fuel, listed, a, hl, hB, hq, hK => by
    refine quiets_any hs hQ hS l m (k + 1) fuel listed a (fun j hj => ?_) hB hq hK
    have := hl (j + 1) (by simpa using hj)
    rw [show k + 1 + j = k + (j + 1) by omega, ← this]; simp
end
theorem mute_wp_mk {P : Program} {o : Oper} {a : Act} {w : World} {K : Act → World → Prop} {Q : Exit → Act → World → Prop} (hd : o.dst = none) (h : K a w) : (mute o).wp P a w K Q := by
  unfold Oper.wp
  have e : (execOp a.eval (mute o)).run P w = .ok (.value undef) w := rfl
  rw [e]
  show K (a.put (mute o).dst undef) w
  have hp : a.put (mute o).dst undef = a := by rw [show (mute o).dst = o.dst from rfl, hd]; rfl
  rw [hp]; exact h
/-- The loud ones, one behind the other; behind each the class of worlds is met again; then F. -/
def LoudW (P : Program) (ops : Array Oper) (Q : Exit → Act → World → Prop) (S : World → Prop) (F : Act → World → Prop) : List Oper → Act → World → Prop
  | [], a, w => F a w
  | o :: rest, a, w => wpList P ops (fun e a' w' => (e = .normal ∧ S w' ∧ LoudW P ops Q S F rest a' w') ∨ (e ≠ .normal ∧ Q e a' w')) [o] a w
theorem loud_any {P : Program} {l0 : List Oper} {o : Oper} {Q : Exit → Act → World → Prop} {S : World → Prop} (hd : o.dst = none) (hg : o.guard = none) : ∀ (l : List Oper) (m : List Bool) (k : Nat) (listed : Array Bool) (a : Act) (w : World), (∀ j, j < m.length → l[j]? = (l0 ++ [mute o])[k + j]?) →
      chainB (l0 ++ [mute o]).toArray (lIdx m k ++ [l0.length]) listed = true → S w → LoudW P (l0 ++ [mute o]).toArray Q S (fun a w => wpList P (l0 ++ [o]).toArray Q [o] a w) (lPick l m) a w →
      wpAnyH P .any (l0 ++ [mute o]).toArray (CutQ P l0 o Q) S ((lIdx m k).length + 1) listed a w
  | l, [], k, listed, a, w, hl, hB, hS, h => by
    have hp : lPick l [] = [] := by cases l <;> rfl
    rw [hp] at h
    have hB : chainB (l0 ++ [mute o]).toArray [l0.length] listed = true := hB
    simp only [chainB, Bool.and_eq_true, beq_iff_eq, List.isEmpty_iff] at hB
    refine wpAnyH_all hB.1 (by simp) fun i hi => ?_
    have hi : i = l0.length := by simpa using hi
    subst hi
    unfold wpOp
    rw [List.getElem?_toArray, last_at]
    simp only
    rw [if_pos (show Region.wanted (mute o) (yielded (l0 ++ [mute o]).toArray a.tmps) = true by simp [Region.wanted, mute, hg])]
    exact .inl (mute_wp_mk hd ⟨hS, hB.2, .inl ⟨rfl, h⟩⟩)
  | [], b :: m, k, listed, a, w, hl, hB, hS, h => by
    have hl' : ∀ j, j < m.length → ([] : List Oper)[j]? = (l0 ++ [mute o])[k + 1 + j]? := fun j hj => by
      have := hl (j + 1) (by simpa using hj)
      rw [show k + 1 + j = k + (j + 1) by omega, ← this]; simp
    cases b with
    | true => exact loud_any hd hg [] m (k + 1) listed a w hl' hB hS h
    | false =>
      have h0 := hl 0 (by simp)
      simp only [List.getElem?_nil, Nat.add_zero] at h0
      simp only [lIdx, List.cons_append, chainB, Bool.and_eq_true, beq_iff_eq] at hB
      have h1 := mem_ready.1 (show k ∈ Region.ready .any (l0 ++ [mute o]).toArray listed by rw [hB.1]; simp)
      obtain ⟨_, o', ho', _⟩ := h1
      rw [List.getElem?_toArray, ← h0] at ho'
      cases ho'
  | x :: l, true :: m, k, listed, a, w, hl, hB, hS, h => by
    refine loud_any hd hg l m (k + 1) listed a w (fun j hj => ?_) hB hS h
    have := hl (j + 1) (by simpa using hj)
    rw [show k + 1 + j = k + (j + 1) by omega, ← this]; simp
  | x :: l, false :: m, k, listed, a, w, hl, hB, hS, h => by
    have hl' : ∀ j, j < m.length → l[j]? = (l0 ++ [mute o])[k + 1 + j]? := fun j hj => by
      have := hl (j + 1) (by simpa using hj)
      rw [show k + 1 + j = k + (j + 1) by omega, ← this]; simp
    have h0 := hl 0 (by simp)
    simp only [List.getElem?_cons_zero, Nat.add_zero] at h0
    simp only [lIdx, List.cons_append, chainB, Bool.and_eq_true, beq_iff_eq] at hB
    show wpAnyH P .any (l0 ++ [mute o]).toArray (CutQ P l0 o Q) S ((lIdx m (k + 1)).length + 1 + 1) listed a w
    refine wpAnyH_all hB.1 (by simp) fun i hi => ?_
    have hi : i = k := by simpa using hi
    subst hi
    have hstep : wpOp P (l0 ++ [mute o]).toArray (CutQ P l0 o Q) i (fun a' w' => S w' ∧ LoudW P (l0 ++ [mute o]).toArray Q S (fun a w => wpList P (l0 ++ [o]).toArray Q [o] a w) (lPick l m) a' w') a w := by
      have h' : wpList P (l0 ++ [mute o]).toArray (fun e a' w' => (e = .normal ∧ S w' ∧ LoudW P (l0 ++ [mute o]).toArray Q S (fun a w => wpList P (l0 ++ [o]).toArray Q [o] a w) (lPick l m) a' w') ∨ (e ≠ .normal ∧ Q e a' w')) [x] a w := h
      have hc : ∀ e a' w', ((e = .normal ∧ S w' ∧ LoudW P (l0 ++ [mute o]).toArray Q S (fun a w => wpList P (l0 ++ [o]).toArray Q [o] a w) (lPick l m) a' w') ∨ (e ≠ .normal ∧ Q e a' w')) = ((e = .normal ∧ S w' ∧ LoudW P (l0 ++ [mute o]).toArray Q S (fun a w => wpList P (l0 ++ [o]).toArray Q [o] a w) (lPick l m) a' w') ∨ (e ≠ .normal ∧ CutQ P l0 o Q e a' w')) := fun e a' w' => propext ⟨fun hh => hh.imp id fun hh => ⟨hh.1, .inr hh⟩, fun hh => hh.imp id fun hh => ⟨hh.1, hh.2.elim (fun h => absurd h.1 hh.1) (fun h => h.2)⟩⟩
      simp only [hc] at h'
      exact wpOp_plain (K := fun a' w' => S w' ∧ LoudW P (l0 ++ [mute o]).toArray Q S (fun a w => wpList P (l0 ++ [o]).toArray Q [o] a w) (lPick l m) a' w') h0.symm h'
    exact wpOp_mono' (fun a' w' hh => ⟨hh.1, loud_any hd hg l m (i + 1) _ a' w' hl' hB.2 hh.1 hh.2⟩) hstep
theorem idx_len : ∀ (m : List Bool) (k : Nat), (qIdx m k).length + (lIdx m k).length = m.length
  | [], _ => rfl
  | true :: m, k => by simp only [qIdx, lIdx, List.length_cons]; have := idx_len m (k + 1); omega
  | false :: m, k => by simp only [qIdx, lIdx, List.length_cons]; have := idx_len m (k + 1); omega
/-- A world in which these blocks of w stand as they did. -/
structure KB (w : World) (bs : List Nat) where
  v : World
  keep : ∀ b, b ∈ bs → v.heap[b]? = w.heap[b]?
instance KB.some (w : World) (bs : List Nat) : Nonempty (KB w bs) := ⟨⟨w, fun _ _ => rfl⟩⟩
theorem KB.cell {w : World} {bs : List Nat} (i : KB w bs) {b : Nat} (hb : b ∈ bs) (o : Nat) : i.v.cell? ⟨b, o, none⟩ = w.cell? ⟨b, o, none⟩ := World.cell?_of_block (i.keep b hb)
/-- A region that draws its order: the quiet ones (the mask) in the order of the text, then the loud ones, then the last one. -/
theorem wp_region_loud {P : Program} {id : Nat} {Q : Exit → Act → World → Prop} {a : Act} {w : World} {L : List Oper} (m : List Bool) (bs : List Nat) (hne : L ≠ []) (hm : P.follows .mixedOrders = true) (hd : (L.getLast hne).dst = none) (hg : (L.getLast hne).guard = none)
    (hl : coverB L = true) (ht : topB L = true) (hs : Region.noSelect (L.dropLast ++ [mute (L.getLast hne)]).toArray = true) (hml : m.length = L.dropLast.length)
    (hq : quietsB (L.dropLast ++ [mute (L.getLast hne)]).toArray (qIdx m 0) (Array.replicate L.length false) = true)
    (hc : chainB (L.dropLast ++ [mute (L.getLast hne)]).toArray (lIdx m 0 ++ [L.dropLast.length]) (setAll (Array.replicate L.length false) (qIdx m 0)) = true)
    (hQ : ∀ c (d : Nat) v a w, Q (.panic c) (a.put (some d) v) w → Q (.panic c) a w)
    (h : wpQuiet P (L.dropLast ++ [mute (L.getLast hne)]).toArray (fun w' => ∃ i : KB w bs, w' = i.v)
      (fun a' => LoudW P (L.dropLast ++ [mute (L.getLast hne)]).toArray Q (fun w' => ∃ i : KB w bs, w' = i.v) (fun a w => wpList P L.toArray Q [L.getLast hne] a w) (lPick L.dropLast m) a' w.drew) (qPick L.dropLast m) a) : (Code.region id L.toArray true).wp P Q a w := by
  have e : L.dropLast ++ [L.getLast hne] = L := List.dropLast_concat_getLast hne
  have hlen : L.dropLast.length + 1 = L.length := by
    have := congrArg List.length e
    simpa using this
  refine wp_region_any hm ?_
  have hS : (fun w' => ∃ i : KB w bs, w' = i.v) w.drew := ⟨⟨w.drew, fun _ _ => rfl⟩, rfl⟩
  have hpre : ∀ j, j < m.length → L.dropLast[j]? = (L.dropLast ++ [mute (L.getLast hne)])[0 + j]? := fun j hj => by
    rw [Nat.zero_add, List.getElem?_append_left (by omega)]
  have h1 : wpAnyH P .any (L.dropLast ++ [mute (L.getLast hne)]).toArray (CutQ P L.dropLast (L.getLast hne) Q) (fun w' => ∃ i : KB w bs, w' = i.v) ((lIdx m 0).length + 1 + (qIdx m 0).length) (Array.replicate L.length false) a w.drew := by
    refine quiets_any hs (fun c d v a w hh => hh.imp (fun h => ⟨h.1, absurd h.1 (by simp)⟩) (fun h => ⟨h.1, by cases d with | none => exact h.2 | some d => exact hQ c d v a w h.2⟩)) hS L.dropLast m 0 ((lIdx m 0).length + 1) _ a (fun j hj => by rw [hpre j hj, List.getElem?_toArray]) hq h fun a' ha' => ?_
    refine loud_any hd hg L.dropLast m 0 _ a' w.drew hpre hc hS ?_
    rw [e]; exact ha'
  have hfu : (lIdx m 0).length + 1 + (qIdx m 0).length = L.length := by have := idx_len m 0; omega
  rw [hfu] at h1
  have hgd : (Array.replicate L.length false).getD L.dropLast.length true = false := by
    rw [Array.getD_eq_getD_getElem?, Array.getElem?_replicate, if_pos (by omega)]; rfl
  have h2 := wpAny_cut (P := P) (Q := Q) hd (by rw [e]; exact hl) (by rw [e]; exact ht) L.length (Array.replicate L.length false) a w.drew (by rw [e]; simp) hgd (fun i o _ hi => absurd hi (by rw [Array.getD_eq_getD_getElem?, Array.getElem?_replicate]; split <;> simp)) (wpAny_of_held _ _ _ _ h1)
  rw [e] at h2
  simpa using h2
theorem loud_any0 {P : Program} {L : List Oper} {Q : Exit → Act → World → Prop} {S : World → Prop} : ∀ (l : List Oper) (m : List Bool) (k : Nat) (listed : Array Bool) (a : Act) (w : World), (∀ j, j < m.length → l[j]? = L[k + j]?) →
      chainB L.toArray (lIdx m k) listed = true → S w → LoudW P L.toArray Q S (fun a w => Q .normal a w) (lPick l m) a w →
      wpAnyH P .any L.toArray Q S (lIdx m k).length listed a w
  | l, [], k, listed, a, w, hl, hB, hS, h => by
    have hp : lPick l [] = [] := by cases l <;> rfl
    rw [hp] at h
    have hB : chainB L.toArray [] listed = true := hB
    simp only [chainB, List.isEmpty_iff] at hB
    exact wpAnyH_done hB h _
  | [], b :: m, k, listed, a, w, hl, hB, hS, h => by
    have hl' : ∀ j, j < m.length → ([] : List Oper)[j]? = L[k + 1 + j]? := fun j hj => by
      have := hl (j + 1) (by simpa using hj)
      rw [show k + 1 + j = k + (j + 1) by omega, ← this]; simp
    cases b with
    | true => exact loud_any0 [] m (k + 1) listed a w hl' hB hS h
    | false =>
      have h0 := hl 0 (by simp)
      simp only [List.getElem?_nil, Nat.add_zero] at h0
      simp only [lIdx, chainB, Bool.and_eq_true, beq_iff_eq] at hB
      have h1 := mem_ready.1 (show k ∈ Region.ready .any L.toArray listed by rw [hB.1]; simp)
      obtain ⟨_, o', ho', _⟩ := h1
      rw [List.getElem?_toArray, ← h0] at ho'
      cases ho'
  | x :: l, true :: m, k, listed, a, w, hl, hB, hS, h => by
    refine loud_any0 l m (k + 1) listed a w (fun j hj => ?_) hB hS h
    have := hl (j + 1) (by simpa using hj)
    rw [show k + 1 + j = k + (j + 1) by omega, ← this]; simp
  | x :: l, false :: m, k, listed, a, w, hl, hB, hS, h => by
    have hl' : ∀ j, j < m.length → l[j]? = L[k + 1 + j]? := fun j hj => by
      have := hl (j + 1) (by simpa using hj)
      rw [show k + 1 + j = k + (j + 1) by omega, ← this]; simp
    have h0 := hl 0 (by simp)
    simp only [List.getElem?_cons_zero, Nat.add_zero] at h0
    simp only [lIdx, chainB, Bool.and_eq_true, beq_iff_eq] at hB
    show wpAnyH P .any L.toArray Q S ((lIdx m (k + 1)).length + 1) listed a w
    refine wpAnyH_all hB.1 (by simp) fun i hi => ?_
    have hi : i = k := by simpa using hi
    subst hi
    have hstep := wpOp_plain (P := P) (L := L) (Q := Q) (K := fun a' w' => S w' ∧ LoudW P L.toArray Q S (fun a w => Q .normal a w) (lPick l m) a' w') h0.symm h
    exact wpOp_mono' (fun a' w' hh => ⟨hh.1, loud_any0 l m (i + 1) _ a' w' hl' hB.2 hh.1 hh.2⟩) hstep
/-- The same, where the last one is one of the loud ones that keep the class. -/
theorem wp_region_loud0 {P : Program} {id : Nat} {Q : Exit → Act → World → Prop} {a : Act} {w : World} {L : List Oper} (m : List Bool) (bs : List Nat) (hm : P.follows .mixedOrders = true) (hs : Region.noSelect L.toArray = true) (hml : m.length = L.length)
    (hq : quietsB L.toArray (qIdx m 0) (Array.replicate L.length false) = true)
    (hc : chainB L.toArray (lIdx m 0) (setAll (Array.replicate L.length false) (qIdx m 0)) = true)
    (hQ : ∀ c (d : Nat) v a w, Q (.panic c) (a.put (some d) v) w → Q (.panic c) a w)
    (h : wpQuiet P L.toArray (fun w' => ∃ i : KB w bs, w' = i.v)
      (fun a' => LoudW P L.toArray Q (fun w' => ∃ i : KB w bs, w' = i.v) (fun a w => Q .normal a w) (lPick L m) a' w.drew) (qPick L m) a) : (Code.region id L.toArray true).wp P Q a w := by
  refine wp_region_any hm ?_
  have hS : (fun w' => ∃ i : KB w bs, w' = i.v) w.drew := ⟨⟨w.drew, fun _ _ => rfl⟩, rfl⟩
  have hpre : ∀ j, j < m.length → L[j]? = L[0 + j]? := fun j hj => by rw [Nat.zero_add]
  have h1 : wpAnyH P .any L.toArray Q (fun w' => ∃ i : KB w bs, w' = i.v) ((lIdx m 0).length + (qIdx m 0).length) (Array.replicate L.length false) a w.drew := by
    refine quiets_any hs (fun c d v a w hh => by cases d with | none => exact hh | some d => exact hQ c d v a w hh) hS L m 0 (lIdx m 0).length _ a (fun j hj => by rw [hpre j hj, List.getElem?_toArray]) hq h fun a' ha' => ?_
    exact loud_any0 L m 0 _ a' w.drew hpre hc hS ha'
  have hfu : (lIdx m 0).length + (qIdx m 0).length = L.length := by have := idx_len m 0; omega
  rw [hfu] at h1
  have h2 := wpAny_of_held _ _ _ _ h1
  simpa using h2
end Go.Proofs.YtgmbkelmgolkpaaDoor
/- Regions with loud operations, where lengths are asked for among the quiet ones. -/
namespace Go.Proofs.YtgmbkelmgolkpaaDoor
open Go.RowKit
set_option linter.unusedVariables false

def lenB : Op → Bool
  | .call ⟨.builtin .len, _, _⟩ => true
  | .lookup .. => true
  | _ => false
def plainBL (op : Op) : Bool := plainB op || lenB op
theorem plain_runL {P : Program} {o : Oper} (hp : plainBL o.op = true) {ρ : Operand → Value} {w w' : World} {n : Next} (h : (execOp ρ o).run P w = .ok n w') : ∃ v, n = .value v := by
  unfold plainBL at hp
  rcases Bool.or_eq_true _ _ ▸ hp with h1 | h1
  · exact plain_run h1 h
  · unfold execOp at h
    cases hop : o.op with
    | call c =>
      rw [hop] at h h1
      obtain ⟨cl, args, tys⟩ := c
      cases cl with
      | builtin b =>
        cases b <;> first | (simp [lenB] at h1; done) | skip
        simp only [resolve, Sem.run_bind, Sem.run_pure, Result.andThen_ok, invoke] at h
        exact value_run h
      | invoke r nm => simp [lenB] at h1
      | value f => simp [lenB] at h1
    | lookup t m k ok =>
      rw [hop] at h
      simp only at h
      exact value_run h
    | _ => rw [hop] at h1; simp [lenB] at h1
/- which are quiet: a mask over the others (the last one is none of them) -/
def quietsBL (ops : Array Oper) : List Nat → Array Bool → Bool
  | [], _ => true
  | i :: rest, listed => Region.free .any ops listed i && (Region.ready .any ops listed).contains i && ((ops[i]?).map fun o => plainBL o.op).getD false && quietsBL ops rest (listed.setIfInBounds i true)
section
variable {P : Program} {ops : Array Oper} {Q : Exit → Act → World → Prop} {S : World → Prop}
theorem quiet_yieldsL {o : Oper} {a : Act} {K : Act → Prop} (hp : plainBL o.op = true) (hw : Region.wanted o (yielded ops a.tmps) = true) {w : World} (hS : S w) (h : o.quiet P a S K) : ∃ v, YieldsIf P ops S o v a ∧ K (a.put o.dst v) := by
  obtain ⟨v, h1, h2⟩ := h
  refine ⟨v, .inl ⟨hw, fun w' hw' => ?_⟩, h2⟩
  have h3 := h1 w' hw'
  unfold Oper.quietAt at h3
  cases hr : (execOp a.eval o).run P w' with
  | halt x w1 => rw [hr] at h3; exact h3.elim
  | ok n w1 =>
    obtain ⟨u, rfl⟩ := plain_runL hp hr
    rw [hr] at h3
    obtain ⟨rfl, rfl⟩ := h3
    rfl
theorem quiets_anyL (hs : Region.noSelect ops = true) (hQ : ∀ c d v a w, Q (.panic c) (a.put d v) w → Q (.panic c) a w) {K : Act → Prop} {w : World} (hS : S w) : ∀ (l : List Oper) (m : List Bool) (k fuel : Nat) (listed : Array Bool) (a : Act), (∀ j, j < m.length → l[j]? = ops[k + j]?) → quietsBL ops (qIdx m k) listed = true →
      wpQuiet P ops S K (qPick l m) a → (∀ a', K a' → wpAnyH P .any ops Q S fuel (setAll listed (qIdx m k)) a' w) → wpAnyH P .any ops Q S (fuel + (qIdx m k).length) listed a w
  | _, [], k, fuel, listed, a, _, _, hq, hK => by
    have : qPick ‹_› [] = [] := by cases ‹List Oper› <;> rfl
    rw [this] at hq
    exact hK a hq
  | [], b :: m, k, fuel, listed, a, hl, hB, hq, hK => by
    cases b with
    | true =>
      have h0 := hl 0 (by simp)
      simp only [List.getElem?_nil, Nat.add_zero] at h0
      simp [qIdx, quietsBL, ← h0] at hB
    | false =>
      refine quiets_anyL hs hQ hS [] m (k + 1) fuel listed a (fun j hj => ?_) hB hq hK
      have := hl (j + 1) (by simpa using hj)
      rw [show k + 1 + j = k + (j + 1) by omega, ← this]; simp
  | o :: l, true :: m, k, fuel, listed, a, hl, hB, hq, hK => by
    have h0 := hl 0 (by simp)
    simp only [List.getElem?_cons_zero, Nat.add_zero] at h0
    simp only [qIdx, quietsBL, Bool.and_eq_true, ← h0, Option.map_some, Option.getD_some] at hB
    obtain ⟨⟨⟨hf, hr⟩, hp⟩, hB⟩ := hB
    have hl' : ∀ j, j < m.length → l[j]? = ops[k + 1 + j]? := fun j hj => by
      have := hl (j + 1) (by simpa using hj)
      rw [show k + 1 + j = k + (j + 1) by omega, ← this]; simp
    have hq' : wpQuiet P ops S K (o :: qPick l m) a := hq
    rw [wpQuiet_cons] at hq'
    show wpAnyH P .any ops Q S (fuel + (qIdx m (k + 1)).length + 1) listed a w
    split at hq'
    · rename_i hw
      obtain ⟨v, hy, hv⟩ := quiet_yieldsL hp hw hS hq'
      exact wpAnyH_take h0.symm hs hf hr (fun c a w => hQ c _ _ a w) hy hS (quiets_anyL hs hQ hS l m (k + 1) fuel _ _ hl' hB hv hK)
    · rename_i hw
      have hw : Region.wanted o (yielded ops a.tmps) = false := by simpa using hw
      exact wpAnyH_take h0.symm hs hf hr (fun c a w => hQ c _ _ a w) (.inr ⟨hw, rfl⟩) hS (quiets_anyL hs hQ hS l m (k + 1) fuel _ _ hl' hB hq' hK)
  | o :: l, false :: m, k, fuel, listed, a, hl, hB, hq, hK => by
    refine quiets_anyL hs hQ hS l m (k + 1) fuel listed a (fun j hj => ?_) hB hq hK
    have := hl (j + 1) (by simpa using hj)
    rw [show k + 1 + j = k + (j + 1) by omega, ← this]; simp
end
theorem wp_region_loud0L {P : Program} {id : Nat} {Q : Exit → Act → World → Prop} {a : Act} {w : World} {L : List Oper} (m : List Bool) (bs : List Nat) (hm : P.follows .mixedOrders = true) (hs : Region.noSelect L.toArray = true) (hml : m.length = L.length)
    (hq : quietsBL L.toArray (qIdx m 0) (Array.replicate L.length false) = true)
    (hc : chainB L.toArray (lIdx m 0) (setAll (Array.replicate L.length false) (qIdx m 0)) = true)
    (hQ : ∀ c (d : Nat) v a w, Q (.panic c) (a.put (some d) v) w → Q (.panic c) a w)
    (h : wpQuiet P L.toArray (fun w' => ∃ i : KB w bs, w' = i.v)
      (fun a' => LoudW P L.toArray Q (fun w' => ∃ i : KB w bs, w' = i.v) (fun a w => Q .normal a w) (lPick L m) a' w.drew) (qPick L m) a) : (Code.region id L.toArray true).wp P Q a w := by
  refine wp_region_any hm ?_
  have hS : (fun w' => ∃ i : KB w bs, w' = i.v) w.drew := ⟨⟨w.drew, fun _ _ => rfl⟩, rfl⟩
  have hpre : ∀ j, j < m.length → L[j]? = L[0 + j]? := fun j hj => by rw [Nat.zero_add]
  have h1 : wpAnyH P .any L.toArray Q (fun w' => ∃ i : KB w bs, w' = i.v) ((lIdx m 0).length + (qIdx m 0).length) (Array.replicate L.length false) a w.drew := by
    refine quiets_anyL hs (fun c d v a w hh => by cases d with | none => exact hh | some d => exact hQ c d v a w hh) hS L m 0 (lIdx m 0).length _ a (fun j hj => by rw [hpre j hj, List.getElem?_toArray]) hq h fun a' ha' => ?_
    exact loud_any0 L m 0 _ a' w.drew hpre hc hS ha'
  have hfu : (lIdx m 0).length + (qIdx m 0).length = L.length := by have := idx_len m 0; omega
  rw [hfu] at h1
  have h2 := wpAny_of_held _ _ _ _ h1
  simpa using h2
end Go.Proofs.YtgmbkelmgolkpaaDoor
/- Regions that draw their order, by segments: quiet ones, then a loud one, and so on; behind the last of them a tail that keeps no class of worlds. -/
namespace Go.Proofs.YtgmbkelmgolkpaaDoor
open Go.RowKit
set_option linter.unusedVariables false

/-- Whatever order is picked from here on; the class holds behind each operation as long as n0 has not come up. -/
def wpAnyT (P : Program) (ops : Array Oper) (Q : Exit → Act → World → Prop) (S : World → Prop) (n0 : Nat) : Nat → Array Bool → Act → World → Prop
  | 0, listed, a, w => Region.ready .any ops listed = [] ∧ Q .normal a w
  | fuel + 1, listed, a, w =>
    (Region.ready .any ops listed = [] → Q .normal a w) ∧
    ∀ i ∈ Region.ready .any ops listed, wpOp P ops Q i (fun a' w' => ((listed.setIfInBounds i true).getD n0 false = false → S w') ∧ wpAnyT P ops Q S n0 fuel (listed.setIfInBounds i true) a' w') a w
section
variable {P : Program} {Q : Exit → Act → World → Prop} {S : World → Prop} {n0 : Nat}
theorem wpAny_of_T {ops : Array Oper} : ∀ (fuel : Nat) (listed : Array Bool) (a : Act) (w : World), wpAnyT P ops Q S n0 fuel listed a w → wpAny P .any ops Q fuel listed a w
  | 0, _, _, _, h => h
  | fuel + 1, _, _, _, h => ⟨h.1, fun i hi => wpOp_mono (fun a' w' h' => wpAny_of_T fuel _ a' w' h'.2) (h.2 i hi)⟩
theorem getF_ready {L : List Oper} {listed : Array Bool} {i : Nat} (h : i ∈ Region.ready .any L.toArray listed) : ¬ listed.getD i false = true := fun h1 => by
  have h0 := (mem_ready.1 h).1
  rcases Nat.lt_or_ge i listed.size with h' | h'
  · simp [h'] at h0 h1; rw [h0] at h1; cases h1
  · simp [Array.getElem?_eq_none h'] at h1
theorem getF_set {listed : Array Bool} {i j : Nat} (h : i ≠ j) : (listed.setIfInBounds i true).getD j false = listed.getD j false := by
  rw [Array.getD_eq_getD_getElem?, Array.getElem?_setIfInBounds, if_neg h, ← Array.getD_eq_getD_getElem?]
/-- n0 waits, by steps, for i. -/
def Waits (L : List Oper) (n0 i : Nat) : Prop := i ≠ n0 ∧ ∀ listed, listed.size = L.length → ClosedL L listed → (n0 ∈ Region.ready .any L.toArray listed ∨ listed.getD n0 false = true) → listed.getD i false = true
theorem wpAnyT_first {L : List Oper} {i : Nat} {oi : Oper} {v : Value} (hi : L.toArray[i]? = some oi) (hsel : ∀ (j : Nat) (o : Oper) cs b, L.toArray[j]? = some o → o.op ≠ .select cs b)
    (hQ : ∀ c a w, Q (.panic c) (a.put oi.dst v) w → Q (.panic c) a w) (hw : Waits L n0 i) :
    ∀ (fuel : Nat) (listed : Array Bool) (a : Act) (w : World), listed.size = L.length → ClosedL L listed →
      (∀ j oj, L.toArray[j]? = some oj → j ≠ i → listed.getD j true = false → (∀ e ∈ oj.after, Region.binds .any e = true → e.on ≠ i) → oi.apart L.toArray oj = true) →
      i ∈ Region.ready .any L.toArray listed → YieldsIf P L.toArray S oi v a → S w →
      wpAnyT P L.toArray Q S n0 fuel (listed.setIfInBounds i true) (a.put oi.dst v) w → wpAnyT P L.toArray Q S n0 (fuel + 1) listed a w := by
  intro fuel
  induction fuel with
  | zero =>
    intro listed a w _ _ _ hr hy hS H
    refine ⟨fun h => (by rw [h] at hr; cases hr), fun j hj => ?_⟩
    by_cases hji : j = i
    · subst hji; exact hy.wpOp hi hS ⟨fun _ => hS, H⟩
    · have := ready_mono hj hji
      rw [H.1] at this
      cases this
  | succ fuel ih =>
    intro listed a w hsz hcl hfree hr hy hS H
    refine ⟨fun h => (by rw [h] at hr; cases hr), fun j hj => ?_⟩
    by_cases hji : j = i
    · subst hji; exact hy.wpOp hi hS ⟨fun _ => hS, H⟩
    · have h1 := H.2 j (ready_mono hj hji)
      obtain ⟨hjun, oj, hoj, hall⟩ := mem_ready.1 hj
      have hnot : ∀ e ∈ oj.after, Region.binds .any e = true → e.on ≠ i := fun e he hb heq => by
        have h1 := hall e he hb
        rw [heq] at h1
        exact getF_ready hr h1
      have h2 := wpOp_putIf hoj (hfree j oj hoj hji hjun hnot) (fun cs b => hsel i oi cs b hi) (fun cs b => hsel j oj cs b hoj) hQ hy h1
      have hfree' : ∀ k ok, L.toArray[k]? = some ok → k ≠ i → (listed.setIfInBounds j true).getD k true = false →
          (∀ e ∈ ok.after, Region.binds .any e = true → e.on ≠ i) → oi.apart L.toArray ok = true := fun k ok hk hki hun hno => by
        refine hfree k ok hk hki ?_ hno
        by_cases hjk : j = k
        · subst hjk; exact hjun
        · rw [getD_set_ne true hjk] at hun; exact hun
      have hn1 : listed.getD n0 false = false := by
        cases hh : listed.getD n0 false with
        | false => rfl
        | true => exact absurd (hw.2 listed hsz hcl (.inr hh)) (getF_ready hr)
      have hn2 : j ≠ n0 := fun hh => absurd (hw.2 listed hsz hcl (.inl (hh ▸ hj))) (getF_ready hr)
      have hn3 : ((listed.setIfInBounds i true).setIfInBounds j true).getD n0 false = false := by rw [getF_set hn2, getF_set hw.1]; exact hn1
      refine wpOp_mono (fun a' w' h3 => ⟨fun _ => h3.2.1 hn3, ih (listed.setIfInBounds j true) a' w' (by simpa using hsz) (hcl.step hj) hfree' (ready_mono hr (Ne.symm hji)) h3.1 (h3.2.1 hn3) ?_⟩) h2
      rw [Array.setIfInBounds_comm _ _ hji]
      exact h3.2.2
theorem wpAnyT_take {L : List Oper} {i : Nat} {oi : Oper} {v : Value} {fuel : Nat} {listed : Array Bool} {a : Act} {w : World} (hi : L.toArray[i]? = some oi)
    (hs : Region.noSelect L.toArray = true) (hf : Region.free .any L.toArray listed i = true) (hr : (Region.ready .any L.toArray listed).contains i = true)
    (hQ : ∀ c a w, Q (.panic c) (a.put oi.dst v) w → Q (.panic c) a w) (hw : Waits L n0 i) (hsz : listed.size = L.length) (hcl : ClosedL L listed) (hy : YieldsIf P L.toArray S oi v a) (hS : S w)
    (h : wpAnyT P L.toArray Q S n0 fuel (listed.setIfInBounds i true) (a.put oi.dst v) w) : wpAnyT P L.toArray Q S n0 (fuel + 1) listed a w :=
  wpAnyT_first hi (Region.noSelect_spec hs) hQ hw fuel listed a w hsz hcl (Region.free_spec hi hf) (by simpa using hr) hy hS h
theorem wpAnyT_one {ops : Array Oper} {r : Nat} {fuel : Nat} {listed : Array Bool} {a : Act} {w : World} (hr : Region.ready .any ops listed = [r])
    (h : wpOp P ops Q r (fun a' w' => ((listed.setIfInBounds r true).getD n0 false = false → S w') ∧ wpAnyT P ops Q S n0 fuel (listed.setIfInBounds r true) a' w') a w) : wpAnyT P ops Q S n0 (fuel + 1) listed a w :=
  ⟨fun h0 => (by rw [hr] at h0; cases h0), fun i hi => by rw [hr] at hi; rw [show i = r by simpa using hi]; exact h⟩
/- picks by numbers -/
def pk (k : Nat) : List Oper → List Nat → List Oper
  | o :: l, m :: ms => bif m == k then o :: pk k l ms else pk k l ms
  | _, _ => []
def ix (k : Nat) : List Nat → Nat → List Nat
  | m :: ms, j => bif m == k then j :: ix k ms (j + 1) else ix k ms (j + 1)
  | [], _ => []
inductive Picks (L : List Oper) : List Nat → List Oper → Prop
  | nil : Picks L [] []
  | cons {i : Nat} {o : Oper} {is : List Nat} {os : List Oper} (h : L[i]? = some o) (t : Picks L is os) : Picks L (i :: is) (o :: os)
theorem picks_ix (L : List Oper) (k : Nat) : ∀ (l : List Oper) (m : List Nat) (j : Nat), m.length = l.length → (∀ q, q < l.length → l[q]? = L[j + q]?) → Picks L (ix k m j) (pk k l m)
  | [], [], j, _, _ => .nil
  | [], _ :: _, j, h, _ => by simp at h
  | _ :: _, [], j, h, _ => by simp at h
  | o :: l, m :: ms, j, hl, h => by
    have h0 := h 0 (by simp)
    simp only [List.getElem?_cons_zero, Nat.add_zero] at h0
    have ih := picks_ix L k l ms (j + 1) (by simpa using hl) (fun q hq => by
      have := h (q + 1) (by simpa using hq)
      rw [show j + 1 + q = j + (q + 1) by omega, ← this]; simp)
    unfold ix pk
    cases hm : m == k with
    | true => exact .cons h0.symm ih
    | false => exact ih
theorem quiets_T {L : List Oper} (hs : Region.noSelect L.toArray = true) (hQ : ∀ c d v a w, Q (.panic c) (a.put d v) w → Q (.panic c) a w) {K : Act → Prop} {w : World} (hS : S w) {is : List Nat} {os : List Oper} (hp : Picks L is os) : (∀ i ∈ is, Waits L n0 i) → ∀ (fuel : Nat) (listed : Array Bool) (a : Act), listed.size = L.length → ClosedL L listed → quietsBL L.toArray is listed = true →
      wpQuiet P L.toArray S K os a → (∀ a', K a' → ClosedL L (setAll listed is) → wpAnyT P L.toArray Q S n0 fuel (setAll listed is) a' w) → wpAnyT P L.toArray Q S n0 (fuel + is.length) listed a w := by
  induction hp with
  | nil => intro _ fuel listed a _ hcl _ hq hK; exact hK a hq hcl
  | cons h0 t ih =>
    rename_i i o is os
    intro hw fuel listed a hsz hcl hB hq hK
    have hsz' : (listed.setIfInBounds i true).size = L.length := by simpa using hsz
    have h0' : L.toArray[i]? = some o := by rw [List.getElem?_toArray]; exact h0
    simp only [quietsBL, Bool.and_eq_true, h0', Option.map_some, Option.getD_some] at hB
    obtain ⟨⟨⟨hf, hr⟩, hpl⟩, hB⟩ := hB
    have hcl' := hcl.step (i := i) (by simpa using hr)
    rw [wpQuiet_cons] at hq
    show wpAnyT P L.toArray Q S n0 (fuel + is.length + 1) listed a w
    split at hq
    · rename_i hwt
      obtain ⟨v, hy, hv⟩ := quiet_yieldsL hpl hwt hS hq
      exact wpAnyT_take h0' hs hf hr (fun c a w => hQ c _ _ a w) (hw i (by simp)) hsz hcl hy hS (ih (fun j hj => hw j (by simp [hj])) fuel _ _ hsz' hcl' hB hv hK)
    · rename_i hwt
      have hwt : Region.wanted o (yielded L.toArray a.tmps) = false := by simpa using hwt
      exact wpAnyT_take h0' hs hf hr (fun c a w => hQ c _ _ a w) (hw i (by simp)) hsz hcl (.inr ⟨hwt, rfl⟩) hS (ih (fun j hj => hw j (by simp [hj])) fuel _ _ hsz' hcl' hB hq hK)
/-- The tail, one behind the other. -/
theorem tail_T {L : List Oper} {is : List Nat} {os : List Oper} (hp : Picks L is os) : ∀ (listed : Array Bool) (a : Act) (w : World), (∀ i, is.head? = some i → i = n0 ∨ listed.getD n0 false = true) → listed.size = L.length → chainB L.toArray is listed = true → wpList P L.toArray Q os a w → wpAnyT P L.toArray Q S n0 is.length listed a w := by
  induction hp with
  | nil =>
    intro listed a w _ _ hB h
    simp only [chainB, List.isEmpty_iff] at hB
    exact ⟨hB, h⟩
  | cons h0 t ih =>
    rename_i i o is os
    intro listed a w hn hsz hB h
    simp only [chainB, Bool.and_eq_true, beq_iff_eq] at hB
    have h0' : L.toArray[i]? = some o := by rw [List.getElem?_toArray]; exact h0
    have hiL : i < L.length := (List.getElem?_eq_some_iff.1 h0).1
    have hn' : (listed.setIfInBounds i true).getD n0 false = true := by
      rcases hn i rfl with he | he
      · subst he
        rw [Array.getD_eq_getD_getElem?, Array.getElem?_setIfInBounds, if_pos rfl, if_pos (by omega)]; rfl
      · exact getD_mono he
    refine wpAnyT_one hB.1 ?_
    have hK : ∀ a' w', wpList P L.toArray Q os a' w' → ((listed.setIfInBounds i true).getD n0 false = false → S w') ∧ wpAnyT P L.toArray Q S n0 is.length (listed.setIfInBounds i true) a' w' := fun a' w' hh =>
      ⟨fun h1 => (by rw [hn'] at h1; cases h1), ih _ a' w' (fun j hj => .inr hn') (by simpa using hsz) hB.2 hh⟩
    unfold wpOp
    rw [h0']
    simp only
    unfold wpList at h
    split at h
    · rename_i hw
      rw [if_pos hw]
      rcases h with h | h
      · exact .inl (Oper.wp_mono hK h)
      · exact .inr h
    · rename_i hw
      rw [if_neg hw]
      exact hK _ _ h
/-- Segments: the quiet ones number 2k, the loud one 2k + 1; the tail's number is 99. -/
def SegW (P : Program) (ops : Array Oper) (Q : Exit → Act → World → Prop) (S : World → Prop) (F : Act → World → Prop) (L : List Oper) (m : List Nat) : Nat → Nat → Act → World → Prop
  | 0, k, a, w => wpQuiet P ops S (fun a' => F a' w) (pk (2 * k) L m) a
  | c + 1, k, a, w => wpQuiet P ops S (fun a' => wpList P ops (fun e a'' w' => (e = .normal ∧ S w' ∧ SegW P ops Q S F L m c (k + 1) a'' w') ∨ (e ≠ .normal ∧ Q e a'' w')) (pk (2 * k + 1) L m) a' w) (pk (2 * k) L m) a
def schedB (ops : Array Oper) (m : List Nat) : Nat → Nat → Array Bool → Bool
  | 0, k, listed => quietsBL ops (ix (2 * k) m 0) listed && chainB ops (ix 99 m 0) (setAll listed (ix (2 * k) m 0))
  | c + 1, k, listed => quietsBL ops (ix (2 * k) m 0) listed && (match ix (2 * k + 1) m 0 with
    | [i] => Region.ready .any ops (setAll listed (ix (2 * k) m 0)) == [i] && schedB ops m c (k + 1) ((setAll listed (ix (2 * k) m 0)).setIfInBounds i true)
    | _ => false)
def lenS (m : List Nat) : Nat → Nat → Nat
  | 0, k => (ix 99 m 0).length + (ix (2 * k) m 0).length
  | c + 1, k => lenS m c (k + 1) + 1 + (ix (2 * k) m 0).length
theorem setAll_size : ∀ (is : List Nat) (listed : Array Bool), (setAll listed is).size = listed.size
  | [], _ => rfl
  | i :: is, listed => by rw [setAll, setAll_size is]; simp
/-- Each below n0 is waited for by one up to n0. -/
def coverN (L : List Oper) (n0 : Nat) : Bool := Nat.ble L.length n0 || (List.range n0).all fun j => (List.range (n0 + 1)).any fun k => Nat.blt j k && ((L[k]?).map fun o => o.after.any fun e => Region.binds .any e && e.on == j).getD false
theorem cover_waits {L : List Oper} {n0 : Nat} (hc : coverN L n0 = true) {i : Nat} (hi : i < n0) : Waits L n0 i := by
  refine ⟨by omega, fun listed hsz hcl hor => ?_⟩
  unfold coverN at hc
  rcases Bool.or_eq_true _ _ ▸ hc with h1 | h1
  · have h1 : L.length ≤ n0 := by simpa using h1
    rcases hor with h | h
    · obtain ⟨_, o, ho, _⟩ := mem_ready.1 h
      rw [List.getElem?_toArray, List.getElem?_eq_none h1] at ho; cases ho
    · rw [Array.getD_eq_getD_getElem?, Array.getElem?_eq_none (by omega)] at h; cases h
  · have key : ∀ m j, j + m = n0 → 0 < m → listed.getD j false = true := fun m => by
      induction m using Nat.strongRecOn with
      | _ m ih =>
        intro j hj hm
        have h2 := List.all_eq_true.1 h1 j (by simp; omega)
        obtain ⟨k, hk, h2⟩ := List.any_eq_true.1 h2
        obtain ⟨hjk, h2⟩ := Bool.and_eq_true_iff.1 h2
        have hjk : j < k := by simpa using hjk
        have hkn : k < n0 + 1 := by simpa using hk
        cases hLk : L[k]? with
        | none => rw [hLk] at h2; cases h2
        | some o =>
          rw [hLk, Option.map_some, Option.getD_some, Array.any_eq_true'] at h2
          obtain ⟨e, he, h3⟩ := h2
          obtain ⟨hb, hon⟩ := Bool.and_eq_true_iff.1 h3
          have hon := eq_of_beq hon
          by_cases hkn2 : k = n0
          · subst hkn2
            rcases hor with h | h
            · obtain ⟨_, o', ho', hall⟩ := mem_ready.1 h
              rw [List.getElem?_toArray, hLk] at ho'
              cases ho'
              have := hall e he hb
              rw [hon] at this; exact this
            · have := hcl k o hLk h e he hb
              rw [hon] at this; exact this
          · have hl := ih (n0 - k) (by omega) k (by omega) (by omega)
            have := hcl k o hLk hl e he hb
            rw [hon] at this; exact this
    exact key (n0 - i) i (by omega) (by omega)
/-- The indexes of quiet ones lie below n0. -/
def belowB (m : List Nat) (n0 c : Nat) : Bool := (List.range (c + 1)).all fun k => (ix (2 * k) m 0).all fun i => Nat.blt i n0
def headB (m : List Nat) (n0 : Nat) : Bool := match ix 99 m 0 with
  | i :: _ => i == n0
  | [] => true
theorem below_waits {L : List Oper} {m : List Nat} {n0 c0 k : Nat} (hcn : coverN L n0 = true) (hb : belowB m n0 c0 = true) (hk : k ≤ c0) : ∀ i ∈ ix (2 * k) m 0, Waits L n0 i := fun i hi => by
  have h1 := List.all_eq_true.1 hb k (by simp; omega)
  have h2 := List.all_eq_true.1 h1 i hi
  exact cover_waits hcn (by simpa using h2)
theorem segs_T {L : List Oper} {m : List Nat} (hml : m.length = L.length) (hs : Region.noSelect L.toArray = true) (hQ : ∀ c d v a w, Q (.panic c) (a.put d v) w → Q (.panic c) a w) {c0 : Nat} (hcn : coverN L n0 = true) (hb : belowB m n0 c0 = true) (htl : ∀ i, (ix 99 m 0).head? = some i → i = n0) : ∀ (c k : Nat) (hck : c + k = c0) (listed : Array Bool) (a : Act) (w : World), S w → ClosedL L listed → listed.size = L.length → schedB L.toArray m c k listed = true →
      SegW P L.toArray Q S (fun a w => wpList P L.toArray Q (pk 99 L m) a w) L m c k a w → wpAnyT P L.toArray Q S n0 (lenS m c k) listed a w
  | 0, k, hck, listed, a, w, hS, hcl, hsz, hB, h => by
    have hcov := below_waits hcn hb (k := k) (by omega)
    simp only [schedB, Bool.and_eq_true] at hB
    have hpk := fun k => picks_ix L k L m 0 hml (fun q _ => by rw [Nat.zero_add])
    exact quiets_T hs hQ hS (hpk (2 * k)) hcov _ listed a hsz hcl hB.1 h fun a' ha' _ => tail_T (hpk 99) _ a' w (fun i hi => .inl (htl i hi)) (by rw [setAll_size]; exact hsz) hB.2 ha'
  | c + 1, k, hck, listed, a, w, hS, hcl, hsz, hB, h => by
    have hcov := below_waits hcn hb (k := k) (by omega)
    simp only [schedB, Bool.and_eq_true] at hB
    obtain ⟨hB1, hB2⟩ := hB
    have hpk := fun k => picks_ix L k L m 0 hml (fun q _ => by rw [Nat.zero_add])
    have hp1 := hpk (2 * k + 1)
    refine quiets_T hs hQ hS (hpk (2 * k)) hcov (lenS m c (k + 1) + 1) listed a hsz hcl hB1 h fun a' ha' hcl' => ?_
    generalize hix : ix (2 * k + 1) m 0 = I at hB2 hp1
    generalize hpx : pk (2 * k + 1) L m = O at hp1 ha'
    cases hp1 with
    | nil => simp at hB2
    | cons h0 t =>
      rename_i i o is os
      cases t with
      | cons => simp at hB2
      | nil =>
        simp only [Bool.and_eq_true, beq_iff_eq] at hB2
        refine wpAnyT_one hB2.1 ?_
        have hstep := wpOp_plain (P := P) (L := L) (Q := Q) (K := fun a' w' => S w' ∧ SegW P L.toArray Q S (fun a w => wpList P L.toArray Q (pk 99 L m) a w) L m c (k + 1) a' w') h0 ha'
        exact wpOp_mono' (fun a'' w'' hh => ⟨fun _ => hh.1, segs_T hml hs hQ hcn hb htl c (k + 1) (by omega) _ a'' w'' hh.1 (hcl'.step (by rw [hB2.1]; simp)) (by simpa [setAll_size] using hsz) hB2.2 hh.2⟩) hstep
end
/-- A region that draws its order, by segments. -/
theorem wp_region_seg {P : Program} {id : Nat} {Q : Exit → Act → World → Prop} {a : Act} {w : World} {L : List Oper} (m : List Nat) (c n0 : Nat) (bs : List Nat) (hm : P.follows .mixedOrders = true) (hs : Region.noSelect L.toArray = true) (hml : m.length = L.length)
    (hcn : coverN L n0 = true) (hb : belowB m n0 c = true) (hh : headB m n0 = true) (hle : lenS m c 0 = L.length)
    (hq : schedB L.toArray m c 0 (Array.replicate L.length false) = true)
    (hQ : ∀ c (d : Nat) v a w, Q (.panic c) (a.put (some d) v) w → Q (.panic c) a w)
    (h : SegW P L.toArray Q (fun w' => ∃ i : KB w bs, w' = i.v) (fun a w => wpList P L.toArray Q (pk 99 L m) a w) L m c 0 a w.drew) : (Code.region id L.toArray true).wp P Q a w := by
  refine wp_region_any hm ?_
  have hS : (fun w' => ∃ i : KB w bs, w' = i.v) w.drew := ⟨⟨w.drew, fun _ _ => rfl⟩, rfl⟩
  have h1 := segs_T (n0 := n0) hml hs (fun c d v a w hh => by cases d with | none => exact hh | some d => exact hQ c d v a w hh) hcn hb (fun i hi => by
      unfold headB at hh
      cases hx : ix 99 m 0 with
      | nil => rw [hx] at hi; cases hi
      | cons j js => rw [hx] at hi hh; cases hi; simpa using hh) c 0 (by omega) (Array.replicate L.length false) a w.drew hS (fun i o _ hi => absurd hi (by rw [Array.getD_eq_getD_getElem?, Array.getElem?_replicate]; split <;> simp)) (by simp) hq h
  rw [hle] at h1
  have h2 := wpAny_of_T _ _ _ _ h1
  simpa using h2
end Go.Proofs.YtgmbkelmgolkpaaDoor
