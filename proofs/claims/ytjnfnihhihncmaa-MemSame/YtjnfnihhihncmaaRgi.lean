/- A region that draws its order, by an invariant: what holds of the listed operations, whatever the order. -/
import Derived.Test.YtjnfnihhihncmaaQuietL
namespace Go.Proofs.Ytjnfnihhihncmaa
open Go.RowKit
set_option linter.unusedVariables false

/-- how many are not listed yet -/
def unl (listed : Array Bool) : Nat → Nat
  | 0 => 0
  | n + 1 => unl listed n + (!listed.getD n true).toNat
theorem unl_set {listed : Array Bool} {i : Nat} (h : listed.getD i true = false) : ∀ {n : Nat}, i < n → unl (listed.setIfInBounds i true) n + 1 = unl listed n
  | n + 1, hi => by
    have hs : i < listed.size := by
      refine Nat.lt_of_not_le fun hle => ?_
      simp [Array.getElem?_eq_none hle] at h
    have ho : ∀ j, j ≠ i → (listed.setIfInBounds i true).getD j true = listed.getD j true := fun j hj => by
      rw [Array.getD_eq_getD_getElem?, Array.getElem?_setIfInBounds, if_neg (Ne.symm hj), ← Array.getD_eq_getD_getElem?]
    have hsame : ∀ m, m ≤ i → unl (listed.setIfInBounds i true) m = unl listed m := fun m => by
      induction m with
      | zero => intro _; rfl
      | succ m ih => intro hm; rw [unl, unl, ih (by omega), ho m (by omega)]
    rw [unl, unl]
    by_cases he : n = i
    · subst he
      rw [hsame n (Nat.le_refl _), h, show (listed.setIfInBounds n true).getD n true = true by simp [hs]]; rfl
    · rw [ho n he]
      have := unl_set h (n := n) (by omega)
      omega
theorem unl_pos {listed : Array Bool} {i n : Nat} (h : listed.getD i true = false) (hi : i < n) : 0 < unl listed n := by have := unl_set h hi; omega
theorem unl_le (listed : Array Bool) : ∀ n, unl listed n ≤ n
  | 0 => Nat.le_refl _
  | n + 1 => by rw [unl]; have := unl_le listed n; have := Bool.toNat_le (!listed.getD n true); omega
theorem wpOp_mono' {P : Program} {ops : Array Oper} {Q : Exit → Act → World → Prop} {i : Nat} {K K' : Act → World → Prop} {a : Act} {w : World} (h : ∀ a w, K a w → K' a w) (hh : wpOp P ops Q i K a w) : wpOp P ops Q i K' a w := by
  unfold wpOp at *
  split
  · rename_i ho; simp only [ho] at hh; exact h _ _ hh
  · rename_i o ho
    simp only [ho] at hh
    split
    · rename_i hw
      rw [if_pos hw] at hh
      exact hh.imp (Oper.wp_mono h) id
    · rename_i hw
      rw [if_neg hw] at hh
      exact h _ _ hh
theorem wpAny_inv {P : Program} {L : List Oper} {Q : Exit → Act → World → Prop} (ht : topB L = true) (I : (Nat → Bool) → Act → World → Prop)
    (hstep : ∀ (f : Nat → Bool) a w i o, I f a w → L[i]? = some o → f i = false → (∀ e ∈ o.after, Region.binds .any e = true → f e.on = true) → wpOp P L.toArray Q i (fun a' w' => I (fun j => if j = i then true else f j) a' w') a w)
    (hend : ∀ (f : Nat → Bool) a w, I f a w → (∀ i, i < L.length → f i = true) → Q .normal a w) :
    ∀ (fuel : Nat) (listed : Array Bool) (f : Nat → Bool) a w, listed.size = L.length → (∀ i, i < L.length → listed.getD i true = f i) → unl listed L.length ≤ fuel → I f a w → wpAny P .any L.toArray Q fuel listed a w := by
  have hall : ∀ (listed : Array Bool) (f : Nat → Bool), listed.size = L.length → (∀ i, i < L.length → listed.getD i true = f i) → Region.ready .any L.toArray listed = [] → ∀ i, i < L.length → f i = true := fun listed f hs hf hr i hi => by
    cases hb : f i with
    | true => rfl
    | false => exact absurd hr (ready_some ht hs hi (by rw [hf i hi, hb]))
  intro fuel
  induction fuel with
  | zero =>
    intro listed f a w hs hf hu hI
    have hr : Region.ready .any L.toArray listed = [] := by
      apply List.eq_nil_iff_forall_not_mem.2
      intro i hi
      obtain ⟨h1, o, ho, _⟩ := mem_ready.1 hi
      rw [List.getElem?_toArray] at ho
      have := unl_pos h1 (List.getElem?_eq_some_iff.1 ho).1
      omega
    exact ⟨hr, hend f a w hI (hall listed f hs hf hr)⟩
  | succ fuel ih =>
    intro listed f a w hs hf hu hI
    refine ⟨fun hr => hend f a w hI (hall listed f hs hf hr), fun i hi => ?_⟩
    obtain ⟨h1, o, ho, hafter⟩ := mem_ready.1 hi
    rw [List.getElem?_toArray] at ho
    have hil := (List.getElem?_eq_some_iff.1 ho).1
    refine wpOp_mono' (fun a' w' hI' => ih _ _ a' w' (by simpa using hs) ?_ ?_ hI') (hstep f a w i o hI ho (by rw [← hf i hil]; exact h1) fun e he hb => ?_)
    · intro j hj
      by_cases hji : j = i
      · subst hji; simp [show j < listed.size by omega]
      · rw [Array.getD_eq_getD_getElem?, Array.getElem?_setIfInBounds, if_neg (Ne.symm hji), ← Array.getD_eq_getD_getElem?, hf j hj, if_neg hji]
    · have := unl_set h1 hil; omega
    · have h2 := hafter e he hb
      by_cases hel : e.on < L.length
      · rw [← hf e.on hel]
        have h3 : e.on < listed.size := by omega
        simpa [h3] using h2
      · rw [Array.getD_eq_getD_getElem?, Array.getElem?_eq_none (by omega)] at h2; simp at h2
/-- A drawn region, by an invariant. -/
theorem wp_region_inv {P : Program} {id : Nat} {L : List Oper} {Q : Exit → Act → World → Prop} {a : Act} {w : World} (hm : P.follows .mixedOrders = true) (ht : topB L = true) (I : (Nat → Bool) → Act → World → Prop) (h0 : I (fun _ => false) a { w with drawn := w.drawn + 1 })
    (hstep : ∀ (f : Nat → Bool) a w i o, I f a w → L[i]? = some o → f i = false → (∀ e ∈ o.after, Region.binds .any e = true → f e.on = true) → wpOp P L.toArray Q i (fun a' w' => I (fun j => if j = i then true else f j) a' w') a w)
    (hend : ∀ (f : Nat → Bool) a w, I f a w → (∀ i, i < L.length → f i = true) → Q .normal a w) : (Code.region id L.toArray true).wp P Q a w := by
  refine wp_region_any hm (wpAny_inv ht I hstep hend _ _ (fun _ => false) a _ (by simp) (fun i hi => by simp [hi]) ?_ h0)
  have := unl_le (Array.replicate L.toArray.size false) L.length
  simpa using this
/-- The same, the frame ahead of the region named. -/
theorem wp_region_inv' {P : Program} {id : Nat} {L : List Oper} {Q : Exit → Act → World → Prop} {a : Act} {w : World} (hm : P.follows .mixedOrders = true) (ht : topB L = true) (I : Act → (Nat → Bool) → Act → World → Prop) (h0 : I a (fun _ => false) a { w with drawn := w.drawn + 1 })
    (hstep : ∀ (f : Nat → Bool) a' w i o, I a f a' w → L[i]? = some o → f i = false → (∀ e ∈ o.after, Region.binds .any e = true → f e.on = true) → wpOp P L.toArray Q i (fun a2 w' => I a (fun j => if j = i then true else f j) a2 w') a' w)
    (hend : ∀ (f : Nat → Bool) a' w, I a f a' w → (∀ i, i < L.length → f i = true) → Q .normal a' w) : (Code.region id L.toArray true).wp P Q a w := wp_region_inv hm ht (I a) h0 hstep hend
theorem upon_swap {P : Program} {o : Oper} {a : Act} {K : Act → World → Prop} {Q2 Q : Exit → Act → World → Prop} (hQ : ∀ e a w, e ≠ .normal → Q2 e a w → Q e a w) {r : Result Next} (h : o.upon P a K Q2 r) : o.upon P a K Q r := by
  cases r with
  | halt x w' =>
    cases x <;> first | exact h | exact hQ _ _ _ (by simp) h | exact h.elim
  | ok n w' =>
    cases n <;> try exact h
    rename_i f args
    refine Calls.mono h ?_
    intro e w'' hh
    cases e
    · exact hh
    · exact hQ _ _ _ (by simp) hh
    · obtain ⟨a', w', hh⟩ := hh; exact ⟨a', w', hQ _ _ _ (by simp) hh⟩
/-- One operation of it, by the plain walk. -/
theorem wpOp_plain {P : Program} {L : List Oper} {Q : Exit → Act → World → Prop} {i : Nat} {o : Oper} {K : Act → World → Prop} {a : Act} {w : World} (hi : L[i]? = some o)
    (h : wpList P L.toArray (fun e a' w' => (e = .normal ∧ K a' w') ∨ (e ≠ .normal ∧ Q e a' w')) [o] a w) : wpOp P L.toArray Q i K a w := by
  have hQ : ∀ e a' w', e ≠ .normal → ((e = .normal ∧ K a' w') ∨ (e ≠ .normal ∧ Q e a' w')) → Q e a' w' := fun e a' w' hn h => h.elim (fun h => absurd h.1 hn) (fun h => h.2)
  have hK : ∀ a' w', wpList P L.toArray (fun e a' w' => (e = .normal ∧ K a' w') ∨ (e ≠ .normal ∧ Q e a' w')) [] a' w' → K a' w' := fun a' w' h => h.elim (fun h => h.2) (fun h => absurd rfl h.1)
  unfold wpOp
  rw [List.getElem?_toArray, hi]
  simp only
  unfold wpList at h
  split at h
  · rename_i hw
    rw [if_pos hw]
    rcases h with h | ⟨h1, a', w', h2⟩
    · exact .inl (Oper.wp_mono hK (upon_swap hQ h))
    · exact .inr ⟨h1, a', w', hQ _ _ _ (by simp) h2⟩
  · rename_i hw
    rw [if_neg hw]
    exact hK _ _ h
end Go.Proofs.Ytjnfnihhihncmaa
