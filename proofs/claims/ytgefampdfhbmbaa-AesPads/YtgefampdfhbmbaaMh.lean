/- Texts of one proof, one behind the other. -/
import Derived.Test.YtgefampdfhbmbaaMe
import Derived.Test.YtgefampdfhbmbaaMd
import Derived.OrdersHeld
import Derived.Test.YtgefampdfhbmbaaMg
/- Bytes that are put to one's own row: where the row lies behind it. -/
namespace Go.Proofs.Ytgefampdfhbmbaa
open Go.RowKit
set_option linter.unusedVariables false

theorem wpList_append_byB {ops : Array Oper} {rest : List Oper} {o : Oper} {a : Act} {Q : Exit → Act → World → Prop} {w : World} (hgd : o.guard = none) (s x : Operand)
    (ho : o.op = .call { callee := .builtin .append, args := #[s, x], argTypes := #[22, 22] }) (base : Nat) (v : Value) (n : Nat) (xs : List Value)
    (hs : a.eval s = v) (hown : w.ownsRow base 5 1 v n xs) (sl : Value) (bs : List UInt8) (hx : a.eval x = sl) (hsrc : ByAt w sl bs) (hpos : 0 < bs.length) (hl : n + bs.length ≤ 140737488355328) (hbase : base ≤ w.heap.size)
    (h : ∀ v' w', w'.ownsRow base 5 1 v' (n + bs.length) (xs ++ bs.map encB) → w.grownBy w' v.ownBlock → (v'.ownBlock = v.ownBlock ∨ v'.ownBlock = some w.heap.size) → wpList Try.prog ops Q rest (a.put o.dst v') w') : wpList Try.prog ops Q (o :: rest) a w := by
  obtain ⟨i0, hi, hz0, hz1, hz2⟩ := info_parts Try.info5
  rcases hsrc with ⟨rfl, _⟩ | ⟨g, off, cap, rfl, hg, hc⟩
  · simp at hpos
  · have hnews : ∀ j u, (bs.map encB)[j]? = some u → w.cell? ((⟨g, off, none⟩ : Addr).add j) = some u := fun j u hu => by
      rw [List.getElem?_map] at hu
      cases hj : bs[j]? with
      | none => rw [hj] at hu; cases hu
      | some y =>
        rw [hj] at hu
        have hlt := (List.getElem?_eq_some_iff.1 hj).1
        rw [Go.WideShapes.add_plain, hc j hlt, List.getD_eq_getElem?_getD, hj]
        exact hu
    obtain ⟨v', w', hr, h2, h3, h4⟩ := run_append_own (P := Try.prog) w base 22 o.type 5 i0 (.int .u8 0) 1 1 Try.underlying22 hi hz0 hz1 hz2 rfl (by decide) v n xs hown ⟨g, off, none⟩ bs.length cap (bs.map encB) (by simp) hnews (bytes_oneCell bs) (by unfold maxLen; omega) (by omega) hbase
    have hblk : v'.ownBlock = v.ownBlock ∨ v'.ownBlock = some w.heap.size := by
      rcases hown.2 with ⟨rfl, rfl⟩ | ⟨g0, c0, cur, rfl, hbg, hg0, hnc, hcm, hcs, htake⟩
      · have hr2 := run_append_nil (P := Try.prog) w 22 o.type 5 i0 (.int .u8 0) Try.underlying22 hi hz0 ⟨g, off, none⟩ bs.length cap (bs.map encB) (by rw [hz1]; simp) hnews hpos (by omega) (by rw [hz2]; omega)
        rw [hr] at hr2
        cases hr2
        exact .inr rfl
      · by_cases hroom : n + bs.length ≤ c0
        · have hr2 := run_append_room (P := Try.prog) w 22 o.type 5 i0 Try.underlying22 hi g0 n c0 cur hg0 ⟨g, off, none⟩ bs.length cap (bs.map encB) (by rw [hz1]; simp) hnews (bytes_oneCell bs) hroom (by rw [hz1, hcs, List.length_map]; omega)
          rw [hr] at hr2
          cases hr2
          exact .inl rfl
        · have hr2 := run_append_grow (P := Try.prog) w 22 o.type 5 i0 (.int .u8 0) Try.underlying22 hi hz0 ⟨g0, 0, none⟩ n c0 xs (by rw [hz1]; exact hown.1) (hown.cells (g := g0) rfl) ⟨g, off, none⟩ bs.length cap (bs.map encB) (by rw [hz1]; simp) hnews (by omega) (by omega) (growslice_fits (by omega) (by rw [hz2]; omega))
          rw [hr] at hr2
          cases hr2
          exact .inr rfl
    refine wpList_plain hgd fun K hK => ?_
    unfold Oper.wp execOp
    simp only [ho, resolve, invoke, builtin, Sem.run_bind, Sem.run_pure, Result.andThen_ok, List.map_toArray, List.map_cons, List.map_nil, hs, hx, hr]
    exact hK _ _ (h v' w' (by simpa using h2) h3 hblk)
end Go.Proofs.Ytgefampdfhbmbaa
/- A region that draws its order, by an invariant: what holds of the listed operations, whatever the order. -/
namespace Go.Proofs.Ytgefampdfhbmbaa
open Go.RowKit
set_option linter.unusedVariables false

/-- how many are not listed yet -/
def unl (listed : Array Bool) : Nat → Nat
  | 0 => 0
  | n + 1 => unl listed n + (!listed.getD n true).toNat
theorem unl_set {listed : Array Bool} {i : Nat} (h : listed.getD i true = false) : ∀ {n : Nat}, i < n → unl (listed.setIfInBounds i true) n + 1 = unl listed n
  | n + 1, hi => by
    have hs : i < listed.size := by
      refine Nat.lt_of_not_le fun hle => ?_
      simp [Array.getElem?_eq_none hle] at h
    have ho : ∀ j, j ≠ i → (listed.setIfInBounds i true).getD j true = listed.getD j true := fun j hj => by
      rw [Array.getD_eq_getD_getElem?, Array.getElem?_setIfInBounds, if_neg (Ne.symm hj), ← Array.getD_eq_getD_getElem?]
    have hsame : ∀ m, m ≤ i → unl (listed.setIfInBounds i true) m = unl listed m := fun m => by
      induction m with
      | zero => intro _; rfl
      | succ m ih => intro hm; rw [unl, unl, ih (by omega), ho m (by omega)]
    rw [unl, unl]
    by_cases he : n = i
    · subst he
      rw [hsame n (Nat.le_refl _), h, show (listed.setIfInBounds n true).getD n true = true by simp [hs]]; rfl
    · rw [ho n he]
      have := unl_set h (n := n) (by omega)
      omega
theorem unl_pos {listed : Array Bool} {i n : Nat} (h : listed.getD i true = false) (hi : i < n) : 0 < unl listed n := by have := unl_set h hi; omega
theorem unl_le (listed : Array Bool) : ∀ n, unl listed n ≤ n
  | 0 => Nat.le_refl _
  | n + 1 => by rw [unl]; have := unl_le listed n; have := Bool.toNat_le (!listed.getD n true); omega
theorem wpOp_mono' {P : Program} {ops : Array Oper} {Q : Exit → Act → World → Prop} {i : Nat} {K K' : Act → World → Prop} {a : Act} {w : World} (h : ∀ a w, K a w → K' a w) (hh : wpOp P ops Q i K a w) : wpOp P ops Q i K' a w := by
  unfold wpOp at *
  split
  · rename_i ho; simp only [ho] at hh; exact h _ _ hh
  · rename_i o ho
    simp only [ho] at hh
    split
    · rename_i hw
      rw [if_pos hw] at hh
      exact hh.imp (Oper.wp_mono h) id
    · rename_i hw
      rw [if_neg hw] at hh
      exact h _ _ hh
theorem wpAny_inv {P : Program} {L : List Oper} {Q : Exit → Act → World → Prop} (ht : topB L = true) (I : (Nat → Bool) → Act → World → Prop)
    (hstep : ∀ (f : Nat → Bool) a w i o, I f a w → L[i]? = some o → f i = false → (∀ e ∈ o.after, Region.binds .any e = true → f e.on = true) → wpOp P L.toArray Q i (fun a' w' => I (fun j => if j = i then true else f j) a' w') a w)
    (hend : ∀ (f : Nat → Bool) a w, I f a w → (∀ i, i < L.length → f i = true) → Q .normal a w) :
    ∀ (fuel : Nat) (listed : Array Bool) (f : Nat → Bool) a w, listed.size = L.length → (∀ i, i < L.length → listed.getD i true = f i) → unl listed L.length ≤ fuel → I f a w → wpAny P .any L.toArray Q fuel listed a w := by
  have hall : ∀ (listed : Array Bool) (f : Nat → Bool), listed.size = L.length → (∀ i, i < L.length → listed.getD i true = f i) → Region.ready .any L.toArray listed = [] → ∀ i, i < L.length → f i = true := fun listed f hs hf hr i hi => by
    cases hb : f i with
    | true => rfl
    | false => exact absurd hr (ready_some ht hs hi (by rw [hf i hi, hb]))
  intro fuel
  induction fuel with
  | zero =>
    intro listed f a w hs hf hu hI
    have hr : Region.ready .any L.toArray listed = [] := by
      apply List.eq_nil_iff_forall_not_mem.2
      intro i hi
      obtain ⟨h1, o, ho, _⟩ := mem_ready.1 hi
      rw [List.getElem?_toArray] at ho
      have := unl_pos h1 (List.getElem?_eq_some_iff.1 ho).1
      omega
    exact ⟨hr, hend f a w hI (hall listed f hs hf hr)⟩
  | succ fuel ih =>
    intro listed f a w hs hf hu hI
    refine ⟨fun hr => hend f a w hI (hall listed f hs hf hr), fun i hi => ?_⟩
    obtain ⟨h1, o, ho, hafter⟩ := mem_ready.1 hi
    rw [List.getElem?_toArray] at ho
    have hil := (List.getElem?_eq_some_iff.1 ho).1
    refine wpOp_mono' (fun a' w' hI' => ih _ _ a' w' (by simpa using hs) ?_ ?_ hI') (hstep f a w i o hI ho (by rw [← hf i hil]; exact h1) fun e he hb => ?_)
    · intro j hj
      by_cases hji : j = i
      · subst hji; simp [show j < listed.size by omega]
      · rw [Array.getD_eq_getD_getElem?, Array.getElem?_setIfInBounds, if_neg (Ne.symm hji), ← Array.getD_eq_getD_getElem?, hf j hj, if_neg hji]
    · have := unl_set h1 hil; omega
    · have h2 := hafter e he hb
      by_cases hel : e.on < L.length
      · rw [← hf e.on hel]
        have h3 : e.on < listed.size := by omega
        simpa [h3] using h2
      · rw [Array.getD_eq_getD_getElem?, Array.getElem?_eq_none (by omega)] at h2; simp at h2
/-- A drawn region, by an invariant. -/
theorem wp_region_inv {P : Program} {id : Nat} {L : List Oper} {Q : Exit → Act → World → Prop} {a : Act} {w : World} (hm : P.follows .mixedOrders = true) (ht : topB L = true) (I : (Nat → Bool) → Act → World → Prop) (h0 : I (fun _ => false) a { w with drawn := w.drawn + 1 })
    (hstep : ∀ (f : Nat → Bool) a w i o, I f a w → L[i]? = some o → f i = false → (∀ e ∈ o.after, Region.binds .any e = true → f e.on = true) → wpOp P L.toArray Q i (fun a' w' => I (fun j => if j = i then true else f j) a' w') a w)
    (hend : ∀ (f : Nat → Bool) a w, I f a w → (∀ i, i < L.length → f i = true) → Q .normal a w) : (Code.region id L.toArray true).wp P Q a w := by
  refine wp_region_any hm (wpAny_inv ht I hstep hend _ _ (fun _ => false) a _ (by simp) (fun i hi => by simp [hi]) ?_ h0)
  have := unl_le (Array.replicate L.toArray.size false) L.length
  simpa using this
/-- The same, the frame ahead of the region named. -/
theorem wp_region_inv' {P : Program} {id : Nat} {L : List Oper} {Q : Exit → Act → World → Prop} {a : Act} {w : World} (hm : P.follows .mixedOrders = true) (ht : topB L = true) (I : Act → (Nat → Bool) → Act → World → Prop) (h0 : I a (fun _ => false) a { w with drawn := w.drawn + 1 })
    (hstep : ∀ (f : Nat → Bool) a' w i o, I a f a' w → L[i]? = some o → f i = false → (∀ e ∈ o.after, Region.binds .any e = true → f e.on = true) → wpOp P L.toArray Q i (fun a2 w' => I a (fun j => if j = i then true else f j) a2 w') a' w)
    (hend : ∀ (f : Nat → Bool) a' w, I a f a' w → (∀ i, i < L.length → f i = true) → Q .normal a' w) : (Code.region id L.toArray true).wp P Q a w := wp_region_inv hm ht (I a) h0 hstep hend
theorem upon_swap {P : Program} {o : Oper} {a : Act} {K : Act → World → Prop} {Q2 Q : Exit → Act → World → Prop} (hQ : ∀ e a w, e ≠ .normal → Q2 e a w → Q e a w) {r : Result Next} (h : o.upon P a K Q2 r) : o.upon P a K Q r := by
  cases r with
  | halt x w' =>
    cases x <;> first | exact h | exact hQ _ _ _ (by simp) h | exact h.elim
  | ok n w' =>
    cases n <;> try exact h
    rename_i f args
    refine Calls.mono h ?_
    intro e w'' hh
    cases e
    · exact hh
    · exact hQ _ _ _ (by simp) hh
    · obtain ⟨a', w', hh⟩ := hh; exact ⟨a', w', hQ _ _ _ (by simp) hh⟩
/-- One operation of it, by the plain walk. -/
theorem wpOp_plain {P : Program} {L : List Oper} {Q : Exit → Act → World → Prop} {i : Nat} {o : Oper} {K : Act → World → Prop} {a : Act} {w : World} (hi : L[i]? = some o)
    (h : wpList P L.toArray (fun e a' w' => (e = .normal ∧ K a' w') ∨ (e ≠ .normal ∧ Q e a' w')) [o] a w) : wpOp P L.toArray Q i K a w := by
  have hQ : ∀ e a' w', e ≠ .normal → ((e = .normal ∧ K a' w') ∨ (e ≠ .normal ∧ Q e a' w')) → Q e a' w' := fun e a' w' hn h => h.elim (fun h => absurd h.1 hn) (fun h => h.2)
  have hK : ∀ a' w', wpList P L.toArray (fun e a' w' => (e = .normal ∧ K a' w') ∨ (e ≠ .normal ∧ Q e a' w')) [] a' w' → K a' w' := fun a' w' h => h.elim (fun h => h.2) (fun h => absurd rfl h.1)
  unfold wpOp
  rw [List.getElem?_toArray, hi]
  simp only
  unfold wpList at h
  split at h
  · rename_i hw
    rw [if_pos hw]
    rcases h with h | ⟨h1, a', w', h2⟩
    · exact .inl (Oper.wp_mono hK (upon_swap hQ h))
    · exact .inr ⟨h1, a', w', hQ _ _ _ (by simp) h2⟩
  · rename_i hw
    rw [if_neg hw]
    exact hK _ _ h
end Go.Proofs.Ytgefampdfhbmbaa
/- A region that draws its order and whose last operation waits for all the others: the others in whatever way, then the last one. -/
namespace Go.Proofs.Ytgefampdfhbmbaa
open Go.RowKit
set_option linter.unusedVariables false

theorem mute_asks {P : Program} {o : Oper} {a : Act} {w : World} : ¬ (mute o).asks P a w := by
  rintro ⟨h, _⟩
  have e : ((execOp a.eval (mute o)).runT P w #[]).2 = #[] := rfl
  rw [e] at h
  simp at h
theorem mute_wp {P : Program} {o : Oper} {a : Act} {w : World} {K : Act → World → Prop} {Q : Exit → Act → World → Prop} (hd : o.dst = none) (h : (mute o).wp P a w K Q) : K a w := by
  unfold Oper.wp at h
  have e : (execOp a.eval (mute o)).run P w = .ok (.value undef) w := rfl
  rw [e] at h
  have h2 : K (a.put (mute o).dst undef) w := h
  have hp : a.put (mute o).dst undef = a := by rw [show (mute o).dst = o.dst from rfl, hd]; rfl
  rwa [hp] at h2
/-- Each but the last is waited for by a later one. -/
def coverB (L : List Oper) : Bool := (List.range (L.length - 1)).all fun j => (List.range L.length).any fun k => Nat.blt j k && ((L[k]?).map fun o => o.after.any fun e => Region.binds .any e && e.on == j).getD false
/-- What is listed was ready. -/
def ClosedL (L : List Oper) (listed : Array Bool) : Prop := ∀ i o, L[i]? = some o → listed.getD i false = true → ∀ e ∈ o.after, Region.binds .any e = true → listed.getD e.on false = true
theorem getD_mono {listed : Array Bool} {i j : Nat} (h : listed.getD j false = true) : (listed.setIfInBounds i true).getD j false = true := by
  rw [Array.getD_eq_getD_getElem?] at h ⊢
  rw [Array.getElem?_setIfInBounds]
  by_cases hij : i = j
  · subst hij
    rw [if_pos rfl]
    by_cases hs : i < listed.size
    · rw [if_pos hs]; rfl
    · rw [Array.getElem?_eq_none (by omega)] at h; simp at h
  · rw [if_neg hij]; exact h
theorem ClosedL.step {L : List Oper} {listed : Array Bool} (h : ClosedL L listed) {i : Nat} (hi : i ∈ Region.ready .any L.toArray listed) : ClosedL L (listed.setIfInBounds i true) := fun j o ho hj e he hb => by
  obtain ⟨h1, o', ho', hall⟩ := mem_ready.1 hi
  by_cases hji : j = i
  · subst hji
    rw [List.getElem?_toArray, ho] at ho'
    cases ho'
    exact getD_mono (hall e he hb)
  · refine getD_mono (h j o ho ?_ e he hb)
    rw [Array.getD_eq_getD_getElem?, Array.getElem?_setIfInBounds, if_neg (Ne.symm hji), ← Array.getD_eq_getD_getElem?] at hj
    exact hj
theorem cover_all {L : List Oper} (hc : coverB L = true) {listed : Array Bool} (hcl : ClosedL L listed) {n : Nat} (hn : L.length = n + 1) (h : n ∈ Region.ready .any L.toArray listed) : ∀ m j, j + m = n → 0 < m → listed.getD j false = true := fun m => by
  induction m using Nat.strongRecOn with
  | _ m ih =>
    intro j hj hm
    have h1 := List.all_eq_true.1 hc j (by simp; omega)
    obtain ⟨k, hk, h2⟩ := List.any_eq_true.1 h1
    obtain ⟨hjk, h2⟩ := Bool.and_eq_true_iff.1 h2
    have hjk : j < k := by simpa using hjk
    have hkn : k < L.length := by simpa using hk
    rw [List.getElem?_eq_getElem hkn, Option.map_some, Option.getD_some, Array.any_eq_true'] at h2
    obtain ⟨e, he, h3⟩ := h2
    obtain ⟨hb, hon⟩ := Bool.and_eq_true_iff.1 h3
    have hon := eq_of_beq hon
    by_cases hkn2 : k = n
    · subst hkn2
      obtain ⟨_, o', ho', hall⟩ := mem_ready.1 h
      rw [List.getElem?_toArray, List.getElem?_eq_getElem hkn] at ho'
      cases ho'
      have := hall e he hb
      rw [hon] at this; exact this
    · have hl := ih (n - k) (by omega) k (by omega) (by omega)
      have := hcl k L[k] (List.getElem?_eq_getElem hkn) hl e he hb
      rw [hon] at this; exact this
theorem ready_cover {l : List Oper} {o : Oper} (hc : coverB (l ++ [o]) = true) {listed : Array Bool} (hcl : ClosedL (l ++ [o]) listed) (h : l.length ∈ Region.ready .any (l ++ [o]).toArray listed) : Region.ready .any (l ++ [o]).toArray (listed.setIfInBounds l.length true) = [] := by
  apply List.eq_nil_iff_forall_not_mem.2
  intro i hi
  have hall := cover_all hc hcl (n := l.length) (by simp) h
  obtain ⟨h1, _⟩ := mem_ready.1 h
  obtain ⟨h2, o2, ho2, _⟩ := mem_ready.1 hi
  rw [List.getElem?_toArray] at ho2
  have hil : i < (l ++ [o]).length := (List.getElem?_eq_some_iff.1 ho2).1
  rw [List.length_append, List.length_singleton] at hil
  by_cases he : i = l.length
  · subst he
    rcases Nat.lt_or_ge l.length listed.size with h' | h'
    · simp [h'] at h2
    · simp [Array.getElem?_eq_none h'] at h1
  · have h3 := hall (l.length - i) i (by omega) (by omega)
    rcases Nat.lt_or_ge i listed.size with h' | h'
    · have h4 : listed[i] = true := by simpa [h'] using h3
      rw [Array.getD_eq_getD_getElem?, Array.getElem?_setIfInBounds, if_neg (Ne.symm he)] at h2
      simp [h', h4] at h2
    · simp [Array.getElem?_eq_none h'] at h3
/-- What must hold behind the others. -/
def CutQ (P : Program) (l : List Oper) (o : Oper) (Q : Exit → Act → World → Prop) (e : Exit) (a : Act) (w : World) : Prop := (e = .normal ∧ wpList P (l ++ [o]).toArray Q [o] a w) ∨ (e ≠ .normal ∧ Q e a w)
theorem wpAny_cut {P : Program} {l : List Oper} {o : Oper} {Q : Exit → Act → World → Prop} (hd : o.dst = none) (hl : coverB (l ++ [o]) = true) (ht : topB (l ++ [o]) = true) : ∀ (fuel : Nat) (listed : Array Bool) (a : Act) (w : World), listed.size = (l ++ [o]).length → listed.getD l.length true = false → ClosedL (l ++ [o]) listed →
      wpAny P .any (l ++ [mute o]).toArray (CutQ P l o Q) fuel listed a w → wpAny P .any (l ++ [o]).toArray Q fuel listed a w
  | 0, listed, a, w, hs, hn, hcl, h => by
    have := h.1
    rw [ready_mute] at this
    exact absurd this (ready_some ht hs (by simp) hn)
  | fuel + 1, listed, a, w, hs, hn, hcl, h => by
    have hQ : ∀ e a' w', e ≠ .normal → CutQ P l o Q e a' w' → Q e a' w' := fun e a' w' hne hh => hh.elim (fun h => absurd h.1 hne) (fun h => h.2)
    refine ⟨fun h0 => absurd h0 (ready_some ht hs (by simp) hn), fun i hi => ?_⟩
    have h2 := h.2 i (by rw [ready_mute]; exact hi)
    by_cases hin : i = l.length
    · subst hin
      have hr := ready_cover hl hcl hi
      have hL : wpList P (l ++ [o]).toArray Q [o] a w := by
        have key : wpAny P .any (l ++ [mute o]).toArray (CutQ P l o Q) fuel (listed.setIfInBounds l.length true) a w → wpList P (l ++ [o]).toArray Q [o] a w := fun hh => by
          have hq : CutQ P l o Q .normal a w := by
            cases fuel with
            | zero => exact hh.2
            | succ f => exact hh.1 (by rw [ready_mute]; exact hr)
          exact hq.elim (fun h => h.2) (fun h => absurd rfl h.1)
        unfold wpOp at h2
        rw [List.getElem?_toArray, mute_at, if_pos rfl] at h2
        have hp : a.put (mute o).dst undef = a := by rw [show (mute o).dst = o.dst from rfl, hd]; rfl
        simp only at h2
        split at h2
        · rcases h2 with h2 | h2
          · exact key (mute_wp hd h2)
          · exact absurd h2.1 mute_asks
        · rw [hp] at h2; exact key h2
      have hK : ∀ a' w', wpList P (l ++ [o]).toArray Q [] a' w' → wpAny P .any (l ++ [o]).toArray Q fuel (listed.setIfInBounds l.length true) a' w' := fun a' w' hh => by
        cases fuel with
        | zero => exact ⟨hr, hh⟩
        | succ f => exact ⟨fun _ => hh, fun i hi => by rw [hr] at hi; cases hi⟩
      unfold wpOp
      rw [List.getElem?_toArray, last_at]
      simp only
      unfold wpList at hL
      split at hL
      · rename_i hw
        rw [if_pos hw]
        rcases hL with hL | hL
        · exact .inl (Oper.wp_mono hK hL)
        · exact .inr hL
      · rename_i hw
        rw [if_neg hw]
        exact hK _ _ hL
    · have ih : ∀ a' w', wpAny P .any (l ++ [mute o]).toArray (CutQ P l o Q) fuel (listed.setIfInBounds i true) a' w' → wpAny P .any (l ++ [o]).toArray Q fuel (listed.setIfInBounds i true) a' w' := fun a' w' hh => by
        refine wpAny_cut hd hl ht fuel _ a' w' (by simpa using hs) ?_ (hcl.step hi) hh
        rw [Array.getD_eq_getD_getElem?, Array.getElem?_setIfInBounds, if_neg hin, ← Array.getD_eq_getD_getElem?]; exact hn
      unfold wpOp at *
      rw [List.getElem?_toArray, mute_at, if_neg hin, yielded_mute] at h2
      rw [List.getElem?_toArray]
      cases hoi : (l ++ [o])[i]? with
      | none =>
        rw [hoi] at h2
        exact ih _ _ h2
      | some oi =>
        rw [hoi] at h2
        simp only at h2 ⊢
        split
        · rename_i hw
          rw [if_pos hw] at h2
          rcases h2 with h2 | ⟨h3, a', w', h4⟩
          · exact .inl (Oper.wp_mono ih (upon_swap hQ h2))
          · exact .inr ⟨h3, a', w', hQ _ _ _ (by simp) h4⟩
        · rename_i hw
          rw [if_neg hw] at h2
          exact ih _ _ h2
/-- Operations that yield a value and nothing else. -/
def plainB : Op → Bool
  | .move _ | .assign _ | .pick _ _ _ | .build _ _ | .load _ _ | .binOp _ _ _ _ _ | .unOp _ _ _ | .convert _ _ _ | .fieldAddr _ _ _ | .field _ _ _ | .indexAddr _ _ _ | .index _ _ _ | .extract _ _ | .slice _ _ _ _ _ | .nilCheck _ => true
  | _ => false
theorem bind_ok {P : Program} {α β : Type} {s : Sem α} {k : α → Sem β} {w w' : World} {n : β} (h : (s >>= k).run P w = .ok n w') : ∃ x w1, s.run P w = .ok x w1 ∧ (k x).run P w1 = .ok n w' := by
  rw [Sem.run_bind] at h
  cases hs : s.run P w with
  | ok x w1 => rw [hs] at h; exact ⟨x, w1, rfl, h⟩
  | halt x w1 => rw [hs] at h; cases h
theorem value_run {P : Program} {s : Sem Value} {w w' : World} {n : Next} (h : (do pure (Next.value (← s)) : Sem Next).run P w = .ok n w') : ∃ v, n = .value v := by
  rw [Sem.run_bind] at h
  cases hs : s.run P w with
  | ok x w1 => rw [hs] at h; cases h; exact ⟨x, rfl⟩
  | halt x w1 => rw [hs] at h; cases h
theorem plain_run {P : Program} {o : Oper} (hp : plainB o.op = true) {ρ : Operand → Value} {w w' : World} {n : Next} (h : (execOp ρ o).run P w = .ok n w') : ∃ v, n = .value v := by
  unfold execOp at h
  cases hop : o.op <;> rw [hop] at h hp <;> simp only [plainB, Bool.false_eq_true] at hp <;> simp only at h <;> first
    | exact value_run h
    | (cases h; exact ⟨_, rfl⟩)
    | skip
  · rename_i c a b
    rw [Sem.run_bind] at h
    cases hs : (asBool (ρ c)).run P w with
    | ok x w1 => rw [hs] at h; cases h; exact ⟨_, rfl⟩
    | halt x w1 => rw [hs] at h; cases h
  · rename_i x
    split at h
    · cases h
    · cases h
    · cases h
    · split at h
      · cases h
      · obtain ⟨x1, w1, _, h⟩ := bind_ok h
        obtain ⟨x2, w2, _, h⟩ := bind_ok h

        split at h
        · obtain ⟨x3, w3, h3, h⟩ := bind_ok h
          cases h; exact ⟨_, rfl⟩
        · cases h; exact ⟨_, rfl⟩
      · cases h; exact ⟨_, rfl⟩
    · cases h; exact ⟨_, rfl⟩

/- which are quiet: a mask over the others (the last one is none of them) -/
def qPick : List Oper → List Bool → List Oper
  | o :: l, true :: m => o :: qPick l m
  | _ :: l, false :: m => qPick l m
  | _, _ => []
def lPick : List Oper → List Bool → List Oper
  | _ :: l, true :: m => lPick l m
  | o :: l, false :: m => o :: lPick l m
  | _, _ => []
def qIdx : List Bool → Nat → List Nat
  | true :: m, k => k :: qIdx m (k + 1)
  | false :: m, k => qIdx m (k + 1)
  | [], _ => []
def lIdx : List Bool → Nat → List Nat
  | true :: m, k => lIdx m (k + 1)
  | false :: m, k => k :: lIdx m (k + 1)
  | [], _ => []
def setAll (listed : Array Bool) : List Nat → Array Bool
  | [] => listed
  | i :: rest => setAll (listed.setIfInBounds i true) rest
def quietsB (ops : Array Oper) : List Nat → Array Bool → Bool
  | [], _ => true
  | i :: rest, listed => Region.free .any ops listed i && (Region.ready .any ops listed).contains i && ((ops[i]?).map fun o => plainB o.op).getD false && quietsB ops rest (listed.setIfInBounds i true)
def chainB (ops : Array Oper) : List Nat → Array Bool → Bool
  | [], listed => (Region.ready .any ops listed).isEmpty
  | i :: rest, listed => Region.ready .any ops listed == [i] && chainB ops rest (listed.setIfInBounds i true)
section
variable {P : Program} {ops : Array Oper} {Q : Exit → Act → World → Prop} {S : World → Prop}
theorem quiet_yields {o : Oper} {a : Act} {K : Act → Prop} (hp : plainB o.op = true) (hw : Region.wanted o (yielded ops a.tmps) = true) {w : World} (hS : S w) (h : o.quiet P a S K) : ∃ v, YieldsIf P ops S o v a ∧ K (a.put o.dst v) := by
  obtain ⟨v, h1, h2⟩ := h
  refine ⟨v, .inl ⟨hw, fun w' hw' => ?_⟩, h2⟩
  have h3 := h1 w' hw'
  unfold Oper.quietAt at h3
  cases hr : (execOp a.eval o).run P w' with
  | halt x w1 => rw [hr] at h3; exact h3.elim
  | ok n w1 =>
    obtain ⟨u, rfl⟩ := plain_run hp hr
    rw [hr] at h3
    obtain ⟨rfl, rfl⟩ := h3
    rfl
theorem quiets_any (hs : Region.noSelect ops = true) (hQ : ∀ c d v a w, Q (.panic c) (a.put d v) w → Q (.panic c) a w) {K : Act → Prop} {w : World} (hS : S w) : ∀ (l : List Oper) (m : List Bool) (k fuel : Nat) (listed : Array Bool) (a : Act), (∀ j, j < m.length → l[j]? = ops[k + j]?) → quietsB ops (qIdx m k) listed = true →
      wpQuiet P ops S K (qPick l m) a → (∀ a', K a' → wpAnyH P .any ops Q S fuel (setAll listed (qIdx m k)) a' w) → wpAnyH P .any ops Q S (fuel + (qIdx m k).length) listed a w
  | _, [], k, fuel, listed, a, _, _, hq, hK => by
    have : qPick ‹_› [] = [] := by cases ‹List Oper› <;> rfl
    rw [this] at hq
    exact hK a hq
  | [], b :: m, k, fuel, listed, a, hl, hB, hq, hK => by
    cases b with
    | true =>
      have h0 := hl 0 (by simp)
      simp only [List.getElem?_nil, Nat.add_zero] at h0
      simp [qIdx, quietsB, ← h0] at hB
    | false =>
      refine quiets_any hs hQ hS [] m (k + 1) fuel listed a (fun j hj => ?_) hB hq hK
      have := hl (j + 1) (by simpa using hj)
      rw [show k + 1 + j = k + (j + 1) by omega, ← this]; simp
  | o :: l, true :: m, k, fuel, listed, a, hl, hB, hq, hK => by
    have h0 := hl 0 (by simp)
    simp only [List.getElem?_cons_zero, Nat.add_zero] at h0
    simp only [qIdx, quietsB, Bool.and_eq_true, ← h0, Option.map_some, Option.getD_some] at hB
    obtain ⟨⟨⟨hf, hr⟩, hp⟩, hB⟩ := hB
    have hl' : ∀ j, j < m.length → l[j]? = ops[k + 1 + j]? := fun j hj => by
      have := hl (j + 1) (by simpa using hj)
      rw [show k + 1 + j = k + (j + 1) by omega, ← this]; simp
    have hq' : wpQuiet P ops S K (o :: qPick l m) a := hq
    rw [wpQuiet_cons] at hq'
    show wpAnyH P .any ops Q S (fuel + (qIdx m (k + 1)).length + 1) listed a w
    split at hq'
    · rename_i hw
      obtain ⟨v, hy, hv⟩ := quiet_yields hp hw hS hq'
      exact wpAnyH_take h0.symm hs hf hr (fun c a w => hQ c _ _ a w) hy hS (quiets_any hs hQ hS l m (k + 1) fuel _ _ hl' hB hv hK)
    · rename_i hw
      have hw : Region.wanted o (yielded ops a.tmps) = false := by simpa using hw
      exact wpAnyH_take h0.symm hs hf hr (fun c a w => hQ c _ _ a w) (.inr ⟨hw, rfl⟩) hS (quiets_any hs hQ hS l m (k + 1) fuel _ _ hl' hB hq' hK)
  | o :: l, false :: m, k, fuel, listed, a, hl, hB, hq, hK => by
    refine quiets_any hs hQ hS l m (k + 1) fuel listed a (fun j hj => ?_) hB hq hK
    have := hl (j + 1) (by simpa using hj)
    rw [show k + 1 + j = k + (j + 1) by omega, ← this]; simp
end
theorem mute_wp_mk {P : Program} {o : Oper} {a : Act} {w : World} {K : Act → World → Prop} {Q : Exit → Act → World → Prop} (hd : o.dst = none) (h : K a w) : (mute o).wp P a w K Q := by
  unfold Oper.wp
  have e : (execOp a.eval (mute o)).run P w = .ok (.value undef) w := rfl
  rw [e]
  show K (a.put (mute o).dst undef) w
  have hp : a.put (mute o).dst undef = a := by rw [show (mute o).dst = o.dst from rfl, hd]; rfl
  rw [hp]; exact h
/-- The loud ones, one behind the other; behind each the class of worlds is met again; then F. -/
def LoudW (P : Program) (ops : Array Oper) (Q : Exit → Act → World → Prop) (S : World → Prop) (F : Act → World → Prop) : List Oper → Act → World → Prop
  | [], a, w => F a w
  | o :: rest, a, w => wpList P ops (fun e a' w' => (e = .normal ∧ S w' ∧ LoudW P ops Q S F rest a' w') ∨ (e ≠ .normal ∧ Q e a' w')) [o] a w
theorem loud_any {P : Program} {l0 : List Oper} {o : Oper} {Q : Exit → Act → World → Prop} {S : World → Prop} (hd : o.dst = none) (hg : o.guard = none) : ∀ (l : List Oper) (m : List Bool) (k : Nat) (listed : Array Bool) (a : Act) (w : World), (∀ j, j < m.length → l[j]? = (l0 ++ [mute o])[k + j]?) →
      chainB (l0 ++ [mute o]).toArray (lIdx m k ++ [l0.length]) listed = true → S w → LoudW P (l0 ++ [mute o]).toArray Q S (fun a w => wpList P (l0 ++ [o]).toArray Q [o] a w) (lPick l m) a w →
      wpAnyH P .any (l0 ++ [mute o]).toArray (CutQ P l0 o Q) S ((lIdx m k).length + 1) listed a w
  | l, [], k, listed, a, w, hl, hB, hS, h => by
    have hp : lPick l [] = [] := by cases l <;> rfl
    rw [hp] at h
    have hB : chainB (l0 ++ [mute o]).toArray [l0.length] listed = true := hB
    simp only [chainB, Bool.and_eq_true, beq_iff_eq, List.isEmpty_iff] at hB
    refine wpAnyH_all hB.1 (by simp) fun i hi => ?_
    have hi : i = l0.length := by simpa using hi
    subst hi
    unfold wpOp
    rw [List.getElem?_toArray, last_at]
    simp only
    rw [if_pos (show Region.wanted (mute o) (yielded (l0 ++ [mute o]).toArray a.tmps) = true by simp [Region.wanted, mute, hg])]
    exact .inl (mute_wp_mk hd ⟨hS, hB.2, .inl ⟨rfl, h⟩⟩)
  | [], b :: m, k, listed, a, w, hl, hB, hS, h => by
    have hl' : ∀ j, j < m.length → ([] : List Oper)[j]? = (l0 ++ [mute o])[k + 1 + j]? := fun j hj => by
      have := hl (j + 1) (by simpa using hj)
      rw [show k + 1 + j = k + (j + 1) by omega, ← this]; simp
    cases b with
    | true => exact loud_any hd hg [] m (k + 1) listed a w hl' hB hS h
    | false =>
      have h0 := hl 0 (by simp)
      simp only [List.getElem?_nil, Nat.add_zero] at h0
      simp only [lIdx, List.cons_append, chainB, Bool.and_eq_true, beq_iff_eq] at hB
      have h1 := mem_ready.1 (show k ∈ Region.ready .any (l0 ++ [mute o]).toArray listed by rw [hB.1]; simp)
      obtain ⟨_, o', ho', _⟩ := h1
      rw [List.getElem?_toArray, ← h0] at ho'
      cases ho'
  | x :: l, true :: m, k, listed, a, w, hl, hB, hS, h => by
    refine loud_any hd hg l m (k + 1) listed a w (fun j hj => ?_) hB hS h
    have := hl (j + 1) (by simpa using hj)
    rw [show k + 1 + j = k + (j + 1) by omega, ← this]; simp
  | x :: l, false :: m, k, listed, a, w, hl, hB, hS, h => by
    have hl' : ∀ j, j < m.length → l[j]? = (l0 ++ [mute o])[k + 1 + j]? := fun j hj => by
      have := hl (j + 1) (by simpa using hj)
      rw [show k + 1 + j = k + (j + 1) by omega, ← this]; simp
    have h0 := hl 0 (by simp)
    simp only [List.getElem?_cons_zero, Nat.add_zero] at h0
    simp only [lIdx, List.cons_append, chainB, Bool.and_eq_true, beq_iff_eq] at hB
    show wpAnyH P .any (l0 ++ [mute o]).toArray (CutQ P l0 o Q) S ((lIdx m (k + 1)).length + 1 + 1) listed a w
    refine wpAnyH_all hB.1 (by simp) fun i hi => ?_
    have hi : i = k := by simpa using hi
    subst hi
    have hstep : wpOp P (l0 ++ [mute o]).toArray (CutQ P l0 o Q) i (fun a' w' => S w' ∧ LoudW P (l0 ++ [mute o]).toArray Q S (fun a w => wpList P (l0 ++ [o]).toArray Q [o] a w) (lPick l m) a' w') a w := by
      have h' : wpList P (l0 ++ [mute o]).toArray (fun e a' w' => (e = .normal ∧ S w' ∧ LoudW P (l0 ++ [mute o]).toArray Q S (fun a w => wpList P (l0 ++ [o]).toArray Q [o] a w) (lPick l m) a' w') ∨ (e ≠ .normal ∧ Q e a' w')) [x] a w := h
      have hc : ∀ e a' w', ((e = .normal ∧ S w' ∧ LoudW P (l0 ++ [mute o]).toArray Q S (fun a w => wpList P (l0 ++ [o]).toArray Q [o] a w) (lPick l m) a' w') ∨ (e ≠ .normal ∧ Q e a' w')) = ((e = .normal ∧ S w' ∧ LoudW P (l0 ++ [mute o]).toArray Q S (fun a w => wpList P (l0 ++ [o]).toArray Q [o] a w) (lPick l m) a' w') ∨ (e ≠ .normal ∧ CutQ P l0 o Q e a' w')) := fun e a' w' => propext ⟨fun hh => hh.imp id fun hh => ⟨hh.1, .inr hh⟩, fun hh => hh.imp id fun hh => ⟨hh.1, hh.2.elim (fun h => absurd h.1 hh.1) (fun h => h.2)⟩⟩
      simp only [hc] at h'
      exact wpOp_plain (K := fun a' w' => S w' ∧ LoudW P (l0 ++ [mute o]).toArray Q S (fun a w => wpList P (l0 ++ [o]).toArray Q [o] a w) (lPick l m) a' w') h0.symm h'
    exact wpOp_mono' (fun a' w' hh => ⟨hh.1, loud_any hd hg l m (i + 1) _ a' w' hl' hB.2 hh.1 hh.2⟩) hstep
theorem idx_len : ∀ (m : List Bool) (k : Nat), (qIdx m k).length + (lIdx m k).length = m.length
  | [], _ => rfl
  | true :: m, k => by simp only [qIdx, lIdx, List.length_cons]; have := idx_len m (k + 1); omega
  | false :: m, k => by simp only [qIdx, lIdx, List.length_cons]; have := idx_len m (k + 1); omega
/-- A world in which these blocks of w stand as they did. -/
structure KB (w : World) (bs : List Nat) where
  v : World
  keep : ∀ b, b ∈ bs → v.heap[b]? = w.heap[b]?
instance KB.some (w : World) (bs : List Nat) : Nonempty (KB w bs) := ⟨⟨w, fun _ _ => rfl⟩⟩
theorem KB.cell {w : World} {bs : List Nat} (i : KB w bs) {b : Nat} (hb : b ∈ bs) (o : Nat) : i.v.cell? ⟨b, o, none⟩ = w.cell? ⟨b, o, none⟩ := World.cell?_of_block (i.keep b hb)
/-- A region that draws its order: the quiet ones (the mask) in the order of the text, then the loud ones, then the last one. -/
theorem wp_region_loud {P : Program} {id : Nat} {Q : Exit → Act → World → Prop} {a : Act} {w : World} {L : List Oper} (m : List Bool) (bs : List Nat) (hne : L ≠ []) (hm : P.follows .mixedOrders = true) (hd : (L.getLast hne).dst = none) (hg : (L.getLast hne).guard = none)
    (hl : coverB L = true) (ht : topB L = true) (hs : Region.noSelect (L.dropLast ++ [mute (L.getLast hne)]).toArray = true) (hml : m.length = L.dropLast.length)
    (hq : quietsB (L.dropLast ++ [mute (L.getLast hne)]).toArray (qIdx m 0) (Array.replicate L.length false) = true)
    (hc : chainB (L.dropLast ++ [mute (L.getLast hne)]).toArray (lIdx m 0 ++ [L.dropLast.length]) (setAll (Array.replicate L.length false) (qIdx m 0)) = true)
    (hQ : ∀ c (d : Nat) v a w, Q (.panic c) (a.put (some d) v) w → Q (.panic c) a w)
    (h : wpQuiet P (L.dropLast ++ [mute (L.getLast hne)]).toArray (fun w' => ∃ i : KB w bs, w' = i.v)
      (fun a' => LoudW P (L.dropLast ++ [mute (L.getLast hne)]).toArray Q (fun w' => ∃ i : KB w bs, w' = i.v) (fun a w => wpList P L.toArray Q [L.getLast hne] a w) (lPick L.dropLast m) a' w.drew) (qPick L.dropLast m) a) : (Code.region id L.toArray true).wp P Q a w := by
  have e : L.dropLast ++ [L.getLast hne] = L := List.dropLast_concat_getLast hne
  have hlen : L.dropLast.length + 1 = L.length := by
    have := congrArg List.length e
    simpa using this
  refine wp_region_any hm ?_
  have hS : (fun w' => ∃ i : KB w bs, w' = i.v) w.drew := ⟨⟨w.drew, fun _ _ => rfl⟩, rfl⟩
  have hpre : ∀ j, j < m.length → L.dropLast[j]? = (L.dropLast ++ [mute (L.getLast hne)])[0 + j]? := fun j hj => by
    rw [Nat.zero_add, List.getElem?_append_left (by omega)]
  have h1 : wpAnyH P .any (L.dropLast ++ [mute (L.getLast hne)]).toArray (CutQ P L.dropLast (L.getLast hne) Q) (fun w' => ∃ i : KB w bs, w' = i.v) ((lIdx m 0).length + 1 + (qIdx m 0).length) (Array.replicate L.length false) a w.drew := by
    refine quiets_any hs (fun c d v a w hh => hh.imp (fun h => ⟨h.1, absurd h.1 (by simp)⟩) (fun h => ⟨h.1, by cases d with | none => exact h.2 | some d => exact hQ c d v a w h.2⟩)) hS L.dropLast m 0 ((lIdx m 0).length + 1) _ a (fun j hj => by rw [hpre j hj, List.getElem?_toArray]) hq h fun a' ha' => ?_
    refine loud_any hd hg L.dropLast m 0 _ a' w.drew hpre hc hS ?_
    rw [e]; exact ha'
  have hfu : (lIdx m 0).length + 1 + (qIdx m 0).length = L.length := by have := idx_len m 0; omega
  rw [hfu] at h1
  have hgd : (Array.replicate L.length false).getD L.dropLast.length true = false := by
    rw [Array.getD_eq_getD_getElem?, Array.getElem?_replicate, if_pos (by omega)]; rfl
  have h2 := wpAny_cut (P := P) (Q := Q) hd (by rw [e]; exact hl) (by rw [e]; exact ht) L.length (Array.replicate L.length false) a w.drew (by rw [e]; simp) hgd (fun i o _ hi => absurd hi (by rw [Array.getD_eq_getD_getElem?, Array.getElem?_replicate]; split <;> simp)) (wpAny_of_held _ _ _ _ h1)
  rw [e] at h2
  simpa using h2
theorem loud_any0 {P : Program} {L : List Oper} {Q : Exit → Act → World → Prop} {S : World → Prop} : ∀ (l : List Oper) (m : List Bool) (k : Nat) (listed : Array Bool) (a : Act) (w : World), (∀ j, j < m.length → l[j]? = L[k + j]?) →
      chainB L.toArray (lIdx m k) listed = true → S w → LoudW P L.toArray Q S (fun a w => Q .normal a w) (lPick l m) a w →
      wpAnyH P .any L.toArray Q S (lIdx m k).length listed a w
  | l, [], k, listed, a, w, hl, hB, hS, h => by
    have hp : lPick l [] = [] := by cases l <;> rfl
    rw [hp] at h
    have hB : chainB L.toArray [] listed = true := hB
    simp only [chainB, List.isEmpty_iff] at hB
    exact wpAnyH_done hB h _
  | [], b :: m, k, listed, a, w, hl, hB, hS, h => by
    have hl' : ∀ j, j < m.length → ([] : List Oper)[j]? = L[k + 1 + j]? := fun j hj => by
      have := hl (j + 1) (by simpa using hj)
      rw [show k + 1 + j = k + (j + 1) by omega, ← this]; simp
    cases b with
    | true => exact loud_any0 [] m (k + 1) listed a w hl' hB hS h
    | false =>
      have h0 := hl 0 (by simp)
      simp only [List.getElem?_nil, Nat.add_zero] at h0
      simp only [lIdx, chainB, Bool.and_eq_true, beq_iff_eq] at hB
      have h1 := mem_ready.1 (show k ∈ Region.ready .any L.toArray listed by rw [hB.1]; simp)
      obtain ⟨_, o', ho', _⟩ := h1
      rw [List.getElem?_toArray, ← h0] at ho'
      cases ho'
  | x :: l, true :: m, k, listed, a, w, hl, hB, hS, h => by
    refine loud_any0 l m (k + 1) listed a w (fun j hj => ?_) hB hS h
    have := hl (j + 1) (by simpa using hj)
    rw [show k + 1 + j = k + (j + 1) by omega, ← this]; simp
  | x :: l, false :: m, k, listed, a, w, hl, hB, hS, h => by
    have hl' : ∀ j, j < m.length → l[j]? = L[k + 1 + j]? := fun j hj => by
      have := hl (j + 1) (by simpa using hj)
      rw [show k + 1 + j = k + (j + 1) by omega, ← this]; simp
    have h0 := hl 0 (by simp)
    simp only [List.getElem?_cons_zero, Nat.add_zero] at h0
    simp only [lIdx, chainB, Bool.and_eq_true, beq_iff_eq] at hB
    show wpAnyH P .any L.toArray Q S ((lIdx m (k + 1)).length + 1) listed a w
    refine wpAnyH_all hB.1 (by simp) fun i hi => ?_
    have hi : i = k := by simpa using hi
    subst hi
    have hstep := wpOp_plain (P := P) (L := L) (Q := Q) (K := fun a' w' => S w' ∧ LoudW P L.toArray Q S (fun a w => Q .normal a w) (lPick l m) a' w') h0.symm h
    exact wpOp_mono' (fun a' w' hh => ⟨hh.1, loud_any0 l m (i + 1) _ a' w' hl' hB.2 hh.1 hh.2⟩) hstep
/-- The same, where the last one is one of the loud ones that keep the class. -/
theorem wp_region_loud0 {P : Program} {id : Nat} {Q : Exit → Act → World → Prop} {a : Act} {w : World} {L : List Oper} (m : List Bool) (bs : List Nat) (hm : P.follows .mixedOrders = true) (hs : Region.noSelect L.toArray = true) (hml : m.length = L.length)
    (hq : quietsB L.toArray (qIdx m 0) (Array.replicate L.length false) = true)
    (hc : chainB L.toArray (lIdx m 0) (setAll (Array.replicate L.length false) (qIdx m 0)) = true)
    (hQ : ∀ c (d : Nat) v a w, Q (.panic c) (a.put (some d) v) w → Q (.panic c) a w)
    (h : wpQuiet P L.toArray (fun w' => ∃ i : KB w bs, w' = i.v)
      (fun a' => LoudW P L.toArray Q (fun w' => ∃ i : KB w bs, w' = i.v) (fun a w => Q .normal a w) (lPick L m) a' w.drew) (qPick L m) a) : (Code.region id L.toArray true).wp P Q a w := by
  refine wp_region_any hm ?_
  have hS : (fun w' => ∃ i : KB w bs, w' = i.v) w.drew := ⟨⟨w.drew, fun _ _ => rfl⟩, rfl⟩
  have hpre : ∀ j, j < m.length → L[j]? = L[0 + j]? := fun j hj => by rw [Nat.zero_add]
  have h1 : wpAnyH P .any L.toArray Q (fun w' => ∃ i : KB w bs, w' = i.v) ((lIdx m 0).length + (qIdx m 0).length) (Array.replicate L.length false) a w.drew := by
    refine quiets_any hs (fun c d v a w hh => by cases d with | none => exact hh | some d => exact hQ c d v a w hh) hS L m 0 (lIdx m 0).length _ a (fun j hj => by rw [hpre j hj, List.getElem?_toArray]) hq h fun a' ha' => ?_
    exact loud_any0 L m 0 _ a' w.drew hpre hc hS ha'
  have hfu : (lIdx m 0).length + (qIdx m 0).length = L.length := by have := idx_len m 0; omega
  rw [hfu] at h1
  have h2 := wpAny_of_held _ _ _ _ h1
  simpa using h2
end Go.Proofs.Ytgefampdfhbmbaa
/- What the document's Counter answers. -/
namespace Go.Proofs.Ytgefampdfhbmbaa
open Go.RowKit
set_option linter.unusedVariables false

theorem toL_put (c : Nat → UInt8) {j : Nat} (hj : j < 16) (v : UInt8) : ((toL c).map encB).set j (encB v) = (toL (putB c j v)).map encB := by
  rw [← List.map_set]
  congr 1
  apply List.ext_getElem?
  intro i
  rw [List.getElem?_set]
  unfold toL
  by_cases hi : i < 16
  · rw [List.getElem?_map, List.getElem?_map, List.getElem?_range hi]
    by_cases he : j = i
    · subst he
      rw [if_pos rfl, if_pos (by simp; exact hj)]
      show _ = some (putB c j v j)
      unfold putB; rw [if_pos rfl]
    · rw [if_neg he]
      show some (c i) = some (putB c j v i)
      unfold putB; rw [if_neg (Ne.symm he)]
  · rw [List.getElem?_map, List.getElem?_map, List.getElem?_eq_none (l := List.range 16) (by simp; omega)]
    rw [if_neg (by omega)]; rfl
theorem cnt_succ {E : (Nat → UInt8) → Nat → UInt8} {st : Nat → UInt8} {l : List UInt8} {q j : Nat} (hj : j < 16) (h : 16 * q + j < l.length) : (cntS E st l).take (16 * q + (j + 1)) = (cntS E st l).take (16 * q + j) ++ [l.getD (16 * q + j) 0 ^^^ E (ctrS st q) j] := by
  rw [show 16 * q + (j + 1) = (16 * q + j) + 1 by omega, List.take_add_one]
  congr 1
  unfold cntS
  rw [List.getElem?_map, List.getElem?_range h]
  show [l.getD (16 * q + j) 0 ^^^ E (ctrS st ((16 * q + j) / 16)) ((16 * q + j) % 16)] = _
  rw [show (16 * q + j) / 16 = q by omega, show (16 * q + j) % 16 = j by omega]
theorem cnt_tl (E : (Nat → UInt8) → Nat → UInt8) (st : Nat → UInt8) (l : List UInt8) (k : Nat) (h : k ≤ l.length) : ((cntS E st l).take k).length = k := by rw [List.length_take, cnt_len]; omega
/-- A row of one's own stays where another block is written. -/
theorem own_away {w : World} {B e sz n b o : Nat} {v u : Value} {xs : List Value} (h : w.ownsRow B e sz v n xs) (hb : b < B) : (w.setCell ⟨b, o, none⟩ u).ownsRow B e sz v n xs := own_keep h fun g C hg _ => heap_setCell_other w ⟨b, o, none⟩ g u (by show g ≠ b; omega)
theorem own_grown {w w' : World} {B e sz n : Nat} {v : Value} {xs : List Value} {row : Option Nat} (h : w.ownsRow B e sz v n xs) (hg : w.grownBy w' row) (hr : v.ownBlock ≠ row ∨ row = none) : w'.ownsRow B e sz v n xs := by
  refine ⟨h.1, ?_⟩
  rcases h.2 with h0 | ⟨g, cap, cur, rfl, hb, hgg, h3⟩
  · exact .inl h0
  · refine .inr ⟨g, cap, cur, rfl, hb, (hg.block g (row_lt hgg) ?_).trans hgg, h3⟩
    rcases hr with hr | hr
    · exact hr
    · rw [hr]; simp
theorem own_ge {w : World} {B e sz n b : Nat} {v : Value} {xs : List Value} (h : w.ownsRow B e sz v n xs) (hb : b < B) : some b ≠ v.ownBlock := by
  rcases h.2 with ⟨rfl, _⟩ | ⟨g, cap, cur, rfl, hbg, _⟩
  · simp [Value.ownBlock]
  · simp [Value.ownBlock]; omega
theorem own_lt {w : World} {B e sz n b : Nat} {v : Value} {xs : List Value} (h : w.ownsRow B e sz v n xs) (hb : w.heap.size ≤ b) : some b ≠ v.ownBlock := by
  rcases h.2 with ⟨rfl, _⟩ | ⟨g, cap, cur, rfl, hbg, hg, _⟩
  · simp [Value.ownBlock]
  · have := row_lt hg
    simp [Value.ownBlock]; omega
set_option maxRecDepth 100000 in
theorem refCounter_nil (v u : Value) (w : World) : Calls Try.prog 23 #[.pointer none, v, u] w fun e w' => e = .returned (.tuple #[.slice none 0 0, .int .i64 2]) ∧ w' = w := by
  go_enter Try.func23, Try.ntmps23
  go_wp2_with fail
  refine bodyPost_ret (v := .tuple #[.slice none 0 0, .int .i64 2]) (by simp [results, Try.results23, go_sem]) rfl ?_
  exact ⟨rfl, rfl⟩
set_option maxRecDepth 100000 in
theorem refCounter_no (l : List UInt8) (hl : l.length ≠ 16) (b : Nat) (v u : Value) (w : World) (hv : ByAt w v l) : Calls Try.prog 23 #[.pointer (some ⟨b, 0, none⟩), v, u] w fun e w' => e = .returned (.tuple #[.slice none 0 0, .int .i64 91]) ∧ w' = w := by
  obtain ⟨a', cap, rfl, hsh⟩ := hv.shape
  clear hsh hv
  have e1 : ((l.length : Int) != 16) = true := by
    have : ¬ ((l.length : Int) = 16) := by omega
    simpa using this
  clear hl
  generalize l.length = LL at *
  go_enter Try.func23, Try.ntmps23
  go_wp2_with fail
  refine bodyPost_ret (v := .tuple #[.slice none 0 0, .int .i64 91]) (by simp [results, Try.results23, go_sem]) rfl ?_
  exact ⟨rfl, rfl⟩
theorem enc_row {n : Nat} {key c : Nat → UInt8} : toL (enS (n + 6) (rkS n key) (blk (toL c))) = toL (enS (n + 6) (rkS n key) c) := toL_congr (en_same (blk_same c) (n + 6))
set_option maxRecDepth 100000 in
set_option maxHeartbeats 1600000 in
theorem refCounter_any (l d : List UInt8) (hl : l.length = 16) (hd : d.length ≤ 140737488355200) (n : Nat) (hn : n ≤ 8) (key : Nat → UInt8) (b : Nat) (v u : Value) (w : World) (h : RcAt w b n key) (hv : ByAt w v l) (hu : ByAt w u d) : Calls Try.prog 23 #[.pointer (some ⟨b, 0, none⟩), v, u] w fun e w' => ∃ vo, e = .returned (.tuple #[vo, .int .i64 0]) ∧ w'.ownsRow w.heap.size 5 1 vo d.length ((cntS (enS (n + 6) (rkS n key)) (blk l) d).map encB) ∧ Below w.heap.size w w' := by
  have HEN : Hid (∀ c wA vn, Below w.heap.size w wA → ByAt wA vn (toL c) → Calls Try.prog 17 #[.pointer (some ⟨b, 0, none⟩), vn] wA fun e w' => ∃ vo, e = .returned (.tuple #[vo, .int .i64 0]) ∧ w'.ownsRow wA.heap.size 5 1 vo 16 ((toL (enS (n + 6) (rkS n key) c)).map encB) ∧ Below wA.heap.size wA w') := fun c wA vn hb hvn => by
    have := refEncrypt_any (toL c) (toL_len c) n hn key b vn wA (h.next hb) hvn
    rw [enc_row] at this
    exact this
  have HV := hidD hv
  have HTL : Hid (toL (blk l) = l) := toL_blk hl
  obtain ⟨a1, c1, rfl, hsh1⟩ := hv.shape
  obtain ⟨a2, c2, rfl, hsh2⟩ := hu.shape
  have HSD : Hid (∀ k, k < d.length → ∃ g off, a2 = some ⟨g, off, none⟩ ∧ g < w.heap.size ∧ w.cell? ⟨g, off + k, none⟩ = some (.int .u8 ((d.getD k 0).toNat : Int))) := hsh2
  clear hsh1 hsh2 hv hu h
  rw [hl] at *
  clear hl
  have HL16 : Hid (l.length = 16) := by
    have h1 := toL_len (blk l)
    rw [HTL.out] at h1
    exact h1
  generalize enS (n + 6) (rkS n key) = E at *
  clear hn
  have HAL : Hid (∀ (w' : World) o, Below w'.heap.size w' (w'.alloc o)) := fun w' o => (Below.refl _ _).alloc (Nat.le_refl _) o
  have HCS := hidD (fun q j hj h => cnt_succ (E := E) (st := blk l) (l := d) (q := q) (j := j) hj h)
  have HCL := hidD (cnt_tl E (blk l) d)
  have HCA : Hid (∀ k, d.length ≤ k → (cntS E (blk l) d).take k = cntS E (blk l) d) := fun k hk => List.take_of_length_le (by rw [cnt_len]; exact hk)
  generalize cntS E (blk l) d = CT at *
  generalize hD : d.length = D at *
  have HDL := hidD hD
  clear hD
  go_enter Try.func23, Try.ntmps23
  go_wp2_with (at_builtin; refine wpList_append_by rfl _ _ rfl w.heap.size (.slice (some ⟨w.heap.size, 0, none⟩) 0 0) 0 [] rfl (empty_ownB w) (.slice a1 16 c1) l rfl (HV.out.next (HAL.out _ _)) (by rw [HL16.out]; omega) (by simp) ?_; intro v8 w8 hown8 hg8; rw [HL16.out, Nat.zero_add, List.nil_append] at hown8; obtain ⟨gn, cn, hvn, hgn, hgl, _⟩ := row_shapeC hown8 (by omega); subst hvn; have HO8 := hidD hown8; have HGN := hidD hgn; have HGL := hidD hgl; have HB8 : Hid (Below w.heap.size w w8) := row_grown (empty_ownB w) (HAL.out w _) hg8 (by simp); clear hown8 hg8 hgn hgl)
  go_loopw [9, 10] (fun o i wr => ∃ q : Nat, 16 * q ≤ D + 15 ∧ i = .int .i64 ((16 * q : Nat) : Int) ∧ wr.ownsRow (gn + 1) 5 1 o (CT.take (16 * q)).length ((CT.take (16 * q)).map encB) ∧ wr.ownsRow w.heap.size 5 1 (.slice (some ⟨gn, 0, none⟩) 16 cn) 16 ((toL (ctrS (blk l) q)).map encB) ∧ Below w.heap.size w wr) (fun _ i _ => D + 16 - (intOf i).toNat)
  case atStart => exact ⟨0, by omega, rfl, World.ownsRow_nil _ _ _ _, by show World.ownsRow _ _ _ _ _ _ ((toL (blk l)).map encB); rw [HTL.out]; exact HO8.out, HB8.out⟩
  case round =>
    obtain ⟨wo, hwo⟩ : ∃ wo, wo = wr := ⟨_, rfl⟩
    subst hwo
    obtain ⟨q, hq, rfl, hout, hnr, hbel⟩ := hrel
    have HOUT := hidD hout
    have HNR := hidD hnr
    have HBL := hidD hbel
    clear HO8 HB8
    by_cases hlt : 16 * q < D
    · have hlti : ((16 * q : Nat) : Int) < (D : Int) := by omega
      have HBY : Hid (ByAt wo (.slice (some ⟨gn, 0, none⟩) 16 cn) (toL (ctrS (blk l) q))) := by
        have h1 := hnr
        have h2 : wo.ownsRow w.heap.size 5 1 (.slice (some ⟨gn, 0, none⟩) 16 cn) (toL (ctrS (blk l) q)).length ((toL (ctrS (blk l) q)).map encB) := by rw [toL_len]; exact h1
        exact row_by h2
      have HGO : Hid (gn < wo.heap.size) := by
        obtain ⟨g, c, he, _, hl, _⟩ := row_shapeC hnr (by omega)
        cases he; exact hl
      have hq60 : 16 * q ≤ 140737488355216 := by omega
      have HQ := hidD hq
      clear hout hnr hbel
      generalize hI : 16 * q = I at *
      have HI := hidD hI
      clear hI
      go_wp2_with (go_at_call 17; refine (HEN.out _ _ _ HBL.out HBY.out).mono ?_; rintro e w1 ⟨vk, rfl, hok, hb1⟩; obtain ⟨gk, ck, hvk, hgk, hgkl, _⟩ := row_shapeC hok (by omega); subst hvk; have HOK := hidD hok; have HB1 := hidD hb1; have HGK := hidD hgk; have HGKL := hidD hgkl; clear hok hb1 hgk hgkl)
      /- the bytes of a block -/
      have HKB : Hid (∃ CK, w1.heap[gk]? = some (.cells CK (5 : TypeId) (0, 0)) ∧ ∀ j, j < 16 → CK[j]? = some (.int .u8 ((E (ctrS (blk l) q) j).toNat : Int))) := by
        rcases HOK.out.2 with ⟨h, _⟩ | ⟨g, cap', cur, he, _, hg, _, _, _, ht⟩
        · cases h
        · cases he
          refine ⟨cur, hg, fun j hj => ?_⟩
          have h1 : (cur.toList.take (16 * 1))[j]? = some (encB (E (ctrS (blk l) q) j)) := by
            rw [ht, List.getElem?_map]
            unfold toL
            rw [List.getElem?_map, List.getElem?_range hj]; rfl
          rw [List.getElem?_take, if_pos (by omega), Array.getElem?_toList] at h1
          exact h1
      obtain ⟨CK, hck1, hck2⟩ := HKB.out
      have HCK1 := hidD hck1
      have HCK2 := hidD hck2
      clear HKB hck1 hck2
      have HO1 : Hid (w1.ownsRow (gn + 1) 5 1 u9 (I + 0) ((CT.take (I + 0)).map encB)) := by
        have h1 := row_below HOUT.out HB1.out
        rw [HCL.out I (by omega)] at h1
        exact h1
      have HNE : Hid (some gk ≠ u9.ownBlock) := own_lt HOUT.out HGK.out
      have HN1 := hidD (row_below HNR.out HB1.out)
      have HBW1 : Hid (Below w.heap.size w w1) := Below.next HBL.out HB1.out
      clear HOUT HNR HBY HOK HB1
      go_loopw [9, 13] (fun o jv wr => ∃ j : Nat, j ≤ 16 ∧ I + j ≤ D ∧ jv = .int .i64 j ∧ wr.ownsRow (gn + 1) 5 1 o (I + j) ((CT.take (I + j)).map encB) ∧ some gk ≠ o.ownBlock ∧ wr.ownsRow w.heap.size 5 1 (.slice (some ⟨gn, 0, none⟩) 16 cn) 16 ((toL (ctrS (blk l) q)).map encB) ∧ wr.heap[gk]? = some (.cells CK (5 : TypeId) (0, 0)) ∧ Below w.heap.size w wr) (fun _ jv _ => 16 - (intOf jv).toNat)
      case atStart => exact ⟨0, by omega, by omega, rfl, HO1.out, HNE.out, HN1.out, HCK1.out, HBW1.out⟩
      case round =>
        clear HO1 HNE HN1 HCK1 HBW1
        obtain ⟨j, hj, hjD, rfl, hou, hne, hnr, hgk, hbe⟩ := hrel
        have HOU := hidD hou
        have HNE := hidD hne
        have HNR := hidD hnr
        have HGKB := hidD hgk
        have HBE := hidD hbe
        by_cases hj16 : j < 16
        · have hj16i : (j : Int) < 16 := by omega
          by_cases hlast : I + j < D
          · have hlasti : ((I + j : Nat) : Int) < (D : Int) := by omega
            obtain ⟨gd, od, rfl, hgd, hcd⟩ := HSD.out (I + j) hlast
            have hcdd : ∀ i : KB wr [gd, gk], i.v.cell? ⟨gd, od + (I + j), none⟩ = some (.int .u8 ((d.getD (I + j) 0).toNat : Int)) := fun i => (i.cell (by simp) _).trans ((hbe.cell (p := ⟨gd, od + (I + j), none⟩) hgd).trans hcd)
            have hckk : ∀ i : KB wr [gd, gk], i.v.cell? ⟨gk, j, none⟩ = some (.int .u8 ((E (ctrS (blk l) q) j).toNat : Int)) := fun i => by
              rw [i.cell (by simp) _, cell_of_row _ _ _ _ _ _ hgk]; exact HCK2.out j hj16
            have hxr : bits .xor .u8 ((d.getD (I + j) 0).toNat : Int) ((E (ctrS (blk l) q) j).toNat : Int) = ((d.getD (I + j) 0 ^^^ E (ctrS (blk l) q) j).toNat : Int) := by rw [UInt8.toNat_xor]; exact u8_xor_nat _ _ (u8_lt _) (u8_lt _)
            have HTK : Hid (CT.take (I + (j + 1)) = CT.take (I + j) ++ [d.getD (I + j) 0 ^^^ E (ctrS (blk l) q) j]) := by
              show _ = _
              have h1 := HCS.out q j hj16 (by rw [HI.out]; exact hlast)
              rw [HI.out] at h1; exact h1
            have hij : (I : Int) + (j : Int) = ((I + j : Nat) : Int) := by omega
            have hwr : IntKind.i64.wrap ((I : Int) + (j : Int)) = ((I + j : Nat) : Int) := by rw [IntKind.wrap_i64]; omega
            have HGD : Hid (gd < wr.heap.size) := by show _ < _; have := hbe.size; omega
            have HGDW : Hid (gd < w.heap.size) := hgd
            have HSZ1 : Hid (gn + 1 ≤ wr.heap.size) := by
              obtain ⟨g, c, he, _, hl, _⟩ := row_shapeC hnr (by omega)
              cases he; exact hl
            have hijb : I + j ≤ 140737488355200 := by omega
            have HIJ : Hid (I + (j + 1) = I + j + 1) := rfl
            rw [HIJ.out] at HTK
            have HXB := hidD (fun w' => by_new w' (d.getD (I + j) 0 ^^^ E (ctrS (blk l) q) j) _ rfl)
            clear hcd hou hne hnr hgk hbe
            generalize (d.getD (I + j) 0 ^^^ E (ctrS (blk l) q) j) = xv at *
            generalize (d.getD (I + j) 0).toNat = X at *
            generalize (E (ctrS (blk l) q) j).toNat = Y at *
            generalize hIJe : I + j = IJ at *
            have HIJE := hidD hIJe
            clear hIJe
            go_wp2_with fail
            refine wp_region_loud0 [true, true, true, true, true, true, true, true, true, true, true, true, false, false, false] [gd, gk] (by kernel_rfl) (by kernel_rfl) (by kernel_rfl) (by kernel_rfl) (by kernel_rfl) (fun _ _ _ _ _ h => h) ?_
            simp only [qPick, lPick]
            repeat (go_big_quiet_step (fail))
            refine wpQuiet_nil ?_
            simp only [LoudW]
            have HOD := hidD (row_below HOU.out ((Below.refl wr.heap.size wr).drew))
            have HND := hidD (row_below HNR.out ((Below.refl wr.heap.size wr).drew))
            have HGD2 : Hid (wr.drew.heap[gk]? = some (.cells CK (5 : TypeId) (0, 0))) := HGKB.out
            have HBD : Hid (Below w.heap.size w wr.drew) := HBE.out.drew
            have HKD : Hid (∀ w', Below wr.heap.size wr.drew w' → ∃ i : KB wr [gd, gk], w' = i.v) := fun w' hb => ⟨⟨w', fun x hx => by
              rcases (show x = gd ∨ x = gk by simpa using hx) with h | h <;> subst h
              · exact hb.block _ HGD.out
              · exact hb.block _ (row_lt HGKB.out)⟩, rfl⟩
            generalize hWD : wr.drew = wd at *
            have hws : wd.heap.size = wr.heap.size := by rw [← hWD]; rfl
            have HSZ := hidD hws
            clear hWD hws
            go_wp2_with fail
            have HXW := hidD (HXB.out wd)
            have HOA := hidD (row_below HOD.out (HAL.out wd (.cells #[.int .u8 (xv.toNat : Int)] (5 : TypeId))))
            have HNA := hidD (row_below HND.out (HAL.out wd (.cells #[.int .u8 (xv.toNat : Int)] (5 : TypeId))))
            have HGA := hidD (((HAL.out wd (.cells #[.int .u8 (xv.toNat : Int)] (5 : TypeId))).block _ (row_lt HGD2.out)).trans HGD2.out)
            have HBA : Hid (Below w.heap.size w (wd.alloc (.cells #[.int .u8 (xv.toNat : Int)] (5 : TypeId)))) := Below.next HBD.out (HAL.out _ _)
            have HSA : Hid (gn + 1 ≤ (wd.alloc (.cells #[.int .u8 (xv.toNat : Int)] (5 : TypeId))).heap.size) := by show _ ≤ _; have h1 := HSZ.out; have h2 := HSZ1.out; simp; omega
            refine ⟨HKD.out _ (by rw [← HSZ.out]; exact HAL.out _ _), ?_⟩
            generalize wd.heap.size = gx at *
            generalize wd.alloc (.cells #[.int .u8 (xv.toNat : Int)] (5 : TypeId)) = wA at *
            go_wp2_with (at_builtin; refine wpList_append_byB rfl _ _ rfl (gn + 1) u9 IJ ((CT.take IJ).map encB) rfl HOA.out (.slice (some ⟨gx, 0, none⟩) 1 1) [xv] rfl HXW.out (by simp) (by simp; omega) HSA.out ?_; intro v4 w4 hown4 hg4 hbk4; have HO4 := hidD hown4; have HG4 := hidD hg4; have HK4 := hidD hbk4; clear hown4 hg4 hbk4)
            have HGQ : Hid (w4.heap[gk]? = some (.cells CK (5 : TypeId) (0, 0))) := (HG4.out.block gk (row_lt HGA.out) HNE.out).trans HGA.out
            have HNQ : Hid (w4.ownsRow w.heap.size 5 1 (.slice (some ⟨gn, 0, none⟩) 16 cn) 16 ((toL (ctrS (blk l) q)).map encB)) := own_grown HNA.out HG4.out (.inl (own_ge (b := gn) HOA.out (Nat.lt_succ_self gn)))
            have HBQ : Hid (Below w.heap.size w w4) := row_grown (own_mono HOA.out (Nat.le_succ_of_le HGN.out)) HBA.out HG4.out HBA.out.size
            have HNEQ : Hid (some gk ≠ v4.ownBlock) := by
              rcases HK4.out with h | h
              · show _ ≠ _; rw [h]; exact HNE.out
              · show _ ≠ _; rw [h]; have := row_lt HGA.out; simp; omega
            have HKQ : Hid (∃ i : KB wr [gd, gk], w4 = i.v) := ⟨⟨w4, fun x hx => by
              rcases (show x = gd ∨ x = gk by simpa using hx) with h | h <;> subst h
              · exact (HBQ.out.block _ HGDW.out).trans (HBE.out.block _ HGDW.out).symm
              · exact HGQ.out.trans HGKB.out.symm⟩, rfl⟩
            refine ⟨HKQ.out, ?_⟩
            go_wp2_with fail
            refine ⟨HKQ.out, ?_⟩
            go_wp2_with fail
            go_roundw
            case rel => exact ⟨j + 1, by omega, by have := HIJE.out; omega, by go_num, by rw [HIJ.out, HTK.out, List.map_append]; exact HO4.out, HNEQ.out, HNQ.out, HGQ.out, HBQ.out⟩
            case measure => simp [intOf]; omega
          · have hI2 : I + j = D := by omega
            have hlasti : ¬ (I : Int) + (j : Int) < (D : Int) := by omega
            have hlastd : decide ((I : Int) + (j : Int) < (D : Int)) = false := by simpa using hlasti
            have HOF : Hid (wr.ownsRow (gn + 1) 5 1 u9 (CT.take (16 * (q + 1))).length ((CT.take (16 * (q + 1))).map encB)) := by
              have h1 := hou
              rw [HCA.out (16 * (q + 1)) (by have := HI.out; omega), ← HCA.out (I + j) (by omega), HCL.out (I + j) hjD]
              exact h1
            have HNF := HNR
            have HBF := HBE
            clear hou hne hnr hgk hbe HOU HNE HNR HGKB HBE hI2 hlast
            have HC0 : Hid (incTo 16 (ctrS (blk l) q) = incS (ctrS (blk l) q)) := rfl
            have HCQ : Hid (ctrS (blk l) (q + 1) = incS (ctrS (blk l) q)) := rfl
            generalize incS (ctrS (blk l) q) = CN at *
            generalize hc9 : ctrS (blk l) q = c0 at *
            clear hc9
            go_wp2_with fail
            go_loopw [14] (fun jv wr => ∃ (J : Nat) (c : Nat → UInt8), J ≤ 16 ∧ jv = .int .i64 ((J : Int) - 1) ∧ wr.ownsRow w.heap.size 5 1 (.slice (some ⟨gn, 0, none⟩) 16 cn) 16 ((toL c).map encB) ∧ incTo J c = CN ∧ wr.ownsRow (gn + 1) 5 1 u9 (CT.take (16 * (q + 1))).length ((CT.take (16 * (q + 1))).map encB) ∧ Below w.heap.size w wr) (fun jv _ => (intOf jv + 1).toNat)
            case atStart => exact ⟨16, c0, Nat.le_refl _, rfl, HNF.out, HC0.out, HOF.out, HBF.out⟩
            case round =>
              obtain ⟨J, c, hJ, rfl, hnr, hinc, hou, hbe⟩ := hrel
              have HNR3 := hidD hnr
              have HOU3 := hidD hou
              have HBE3 := hidD hbe
              by_cases hJ0 : 1 ≤ J
              · have hji : (J : Int) - 1 = ((J - 1 : Nat) : Int) := by omega
                have hj16 : ((J - 1 : Nat) : Int) < 16 := by omega
                have hcj : wr.cell? ⟨gn, J - 1, none⟩ = some (.int .u8 ((c (J - 1)).toNat : Int)) := by
                  rw [(own_cell hnr (j := J - 1) (by omega)).1, List.getElem?_map]
                  unfold toL
                  rw [List.getElem?_map, List.getElem?_range (by omega)]; rfl
                have hfj := (own_cell hnr (j := J - 1) (by omega)).2.1
                have hadd : ((c (J - 1)).toNat + 1 : Int) % 256 = ((c (J - 1) + 1).toNat : Int) := by
                  rw [UInt8.toNat_add]
                  show ((c (J - 1)).toNat + 1 : Int) % 256 = (((c (J - 1)).toNat + 1) % 256 : Nat)
                  omega
                have HNS : Hid ((wr.setCell ⟨gn, J - 1, none⟩ (.int .u8 ((c (J - 1) + 1).toNat : Int))).ownsRow w.heap.size 5 1 (.slice (some ⟨gn, 0, none⟩) 16 cn) 16 ((toL (putB c (J - 1) (c (J - 1) + 1))).map encB)) := by
                  have h1 := own_set hnr (j := J - 1) (by omega) (encB (c (J - 1) + 1))
                  rw [toL_put c (by omega)] at h1
                  exact h1
                have HOS : Hid (∀ u, (wr.setCell ⟨gn, J - 1, none⟩ u).ownsRow (gn + 1) 5 1 u9 (CT.take (16 * (q + 1))).length ((CT.take (16 * (q + 1))).map encB)) := fun u => own_away hou (by omega)
                have HBS : Hid (∀ u, Below w.heap.size w (wr.setCell ⟨gn, J - 1, none⟩ u)) := fun u => below_setCell hbe HGN.out _ _
                have hic : incTo J c = if c (J - 1) + 1 ≠ 0 then putB c (J - 1) (c (J - 1) + 1) else incTo (J - 1) (putB c (J - 1) (c (J - 1) + 1)) := by
                  obtain ⟨j, rfl⟩ : ∃ j, J = j + 1 := ⟨J - 1, by omega⟩
                  rfl
                by_cases hz : c (J - 1) + 1 = 0
                · rw [if_neg (by simpa using hz), hinc] at hic
                  have HIC := hidD hic
                  have hz0 : ((c (J - 1) + 1).toNat : Int) = 0 := by rw [hz]; rfl
                  rw [hz0] at hadd HNS
                  have hj2 : ((J - 1 : Nat) : Int) - 1 = ((J - 1 : Nat) : Int) - 1 := rfl
                  clear hinc hnr hou hbe hic hz hz0 hj2
                  generalize (c (J - 1)).toNat = X at *
                  generalize putB c (J - 1) (c (J - 1) + 1) = c' at *
                  generalize hJ1 : J - 1 = J1 at *
                  have HJ1 := hidD hJ1
                  clear hJ1
                  go_wp2_with fail
                  go_roundw
                  case rel => exact ⟨J1, c', by omega, by go_num, HNS.out, HIC.out.symm, HOS.out _, HBS.out _⟩
                  case measure => simp [intOf]; omega
                · rw [if_pos hz, hinc] at hic
                  have HIC := hidD hic
                  have hz0 : (((c (J - 1) + 1).toNat : Int) != 0) = true := by
                    have : ¬ ((c (J - 1) + 1).toNat : Int) = 0 := fun h => hz (UInt8.toNat.inj (show (c (J - 1) + 1).toNat = 0 from Int.ofNat.inj h))
                    simpa using this
                  clear hinc hnr hou hbe hic hz
                  generalize ((c (J - 1) + 1).toNat : Int) = Z at *
                  generalize (c (J - 1)).toNat = X at *
                  generalize putB c (J - 1) (c (J - 1) + 1) = c' at *
                  generalize hJ1 : J - 1 = J1 at *
                  clear hJ1
                  go_wp2_with fail
                  go_roundw
                  case rel => exact ⟨q + 1, by have := HI.out; omega, by have := HI.out; go_num, HOS.out _, by rw [HCQ.out, HIC.out]; exact HNS.out, HBS.out _⟩
                  case measure => simp [intOf]; have := HI.out; omega
              · obtain rfl : J = 0 := by omega
                have hj0 : ¬ (0 : Int) ≤ ((0 : Nat) : Int) - 1 := by omega
                have HIC : Hid (c = CN) := hinc
                clear hinc hnr hou hbe
                go_wp2_with fail
                go_roundw
                case rel => exact ⟨q + 1, by have := HI.out; omega, by have := HI.out; go_num, HOU3.out, by rw [HCQ.out, ← HIC.out]; exact HNR3.out, HBE3.out⟩
                case measure => simp [intOf]; have := HI.out; omega
        · obtain rfl : j = 16 := by omega
          have hj16d : decide (((16 : Nat) : Int) < 16) = false := by decide
          have HOF : Hid (wr.ownsRow (gn + 1) 5 1 u9 (CT.take (16 * (q + 1))).length ((CT.take (16 * (q + 1))).map encB)) := by
            have h1 := hou
            rw [show 16 * (q + 1) = I + 16 by have := HI.out; omega, HCL.out (I + 16) hjD]
            exact h1
          have HNF := HNR
          have HBF := HBE
          clear hou hne hnr hgk hbe HOU HNE HNR HGKB HBE
          have HC0 : Hid (incTo 16 (ctrS (blk l) q) = incS (ctrS (blk l) q)) := rfl
          have HCQ : Hid (ctrS (blk l) (q + 1) = incS (ctrS (blk l) q)) := rfl
          generalize incS (ctrS (blk l) q) = CN at *
          generalize hc9 : ctrS (blk l) q = c0 at *
          clear hc9
          go_wp2_with fail
          go_loopw [14] (fun jv wr => ∃ (J : Nat) (c : Nat → UInt8), J ≤ 16 ∧ jv = .int .i64 ((J : Int) - 1) ∧ wr.ownsRow w.heap.size 5 1 (.slice (some ⟨gn, 0, none⟩) 16 cn) 16 ((toL c).map encB) ∧ incTo J c = CN ∧ wr.ownsRow (gn + 1) 5 1 u9 (CT.take (16 * (q + 1))).length ((CT.take (16 * (q + 1))).map encB) ∧ Below w.heap.size w wr) (fun jv _ => (intOf jv + 1).toNat)
          case atStart => exact ⟨16, c0, Nat.le_refl _, rfl, HNF.out, HC0.out, HOF.out, HBF.out⟩
          case round =>
            obtain ⟨J, c, hJ, rfl, hnr, hinc, hou, hbe⟩ := hrel
            have HNR3 := hidD hnr
            have HOU3 := hidD hou
            have HBE3 := hidD hbe
            by_cases hJ0 : 1 ≤ J
            · have hji : (J : Int) - 1 = ((J - 1 : Nat) : Int) := by omega
              have hj16 : ((J - 1 : Nat) : Int) < 16 := by omega
              have hcj : wr.cell? ⟨gn, J - 1, none⟩ = some (.int .u8 ((c (J - 1)).toNat : Int)) := by
                rw [(own_cell hnr (j := J - 1) (by omega)).1, List.getElem?_map]
                unfold toL
                rw [List.getElem?_map, List.getElem?_range (by omega)]; rfl
              have hfj := (own_cell hnr (j := J - 1) (by omega)).2.1
              have hadd : ((c (J - 1)).toNat + 1 : Int) % 256 = ((c (J - 1) + 1).toNat : Int) := by
                rw [UInt8.toNat_add]
                show ((c (J - 1)).toNat + 1 : Int) % 256 = (((c (J - 1)).toNat + 1) % 256 : Nat)
                omega
              have HNS : Hid ((wr.setCell ⟨gn, J - 1, none⟩ (.int .u8 ((c (J - 1) + 1).toNat : Int))).ownsRow w.heap.size 5 1 (.slice (some ⟨gn, 0, none⟩) 16 cn) 16 ((toL (putB c (J - 1) (c (J - 1) + 1))).map encB)) := by
                have h1 := own_set hnr (j := J - 1) (by omega) (encB (c (J - 1) + 1))
                rw [toL_put c (by omega)] at h1
                exact h1
              have HOS : Hid (∀ u, (wr.setCell ⟨gn, J - 1, none⟩ u).ownsRow (gn + 1) 5 1 u9 (CT.take (16 * (q + 1))).length ((CT.take (16 * (q + 1))).map encB)) := fun u => own_away hou (by omega)
              have HBS : Hid (∀ u, Below w.heap.size w (wr.setCell ⟨gn, J - 1, none⟩ u)) := fun u => below_setCell hbe HGN.out _ _
              have hic : incTo J c = if c (J - 1) + 1 ≠ 0 then putB c (J - 1) (c (J - 1) + 1) else incTo (J - 1) (putB c (J - 1) (c (J - 1) + 1)) := by
                obtain ⟨j, rfl⟩ : ∃ j, J = j + 1 := ⟨J - 1, by omega⟩
                rfl
              by_cases hz : c (J - 1) + 1 = 0
              · rw [if_neg (by simpa using hz), hinc] at hic
                have HIC := hidD hic
                have hz0 : ((c (J - 1) + 1).toNat : Int) = 0 := by rw [hz]; rfl
                rw [hz0] at hadd HNS
                have hj2 : ((J - 1 : Nat) : Int) - 1 = ((J - 1 : Nat) : Int) - 1 := rfl
                clear hinc hnr hou hbe hic hz hz0 hj2
                generalize (c (J - 1)).toNat = X at *
                generalize putB c (J - 1) (c (J - 1) + 1) = c' at *
                generalize hJ1 : J - 1 = J1 at *
                have HJ1 := hidD hJ1
                clear hJ1
                go_wp2_with fail
                go_roundw
                case rel => exact ⟨J1, c', by omega, by go_num, HNS.out, HIC.out.symm, HOS.out _, HBS.out _⟩
                case measure => simp [intOf]; omega
              · rw [if_pos hz, hinc] at hic
                have HIC := hidD hic
                have hz0 : (((c (J - 1) + 1).toNat : Int) != 0) = true := by
                  have : ¬ ((c (J - 1) + 1).toNat : Int) = 0 := fun h => hz (UInt8.toNat.inj (show (c (J - 1) + 1).toNat = 0 from Int.ofNat.inj h))
                  simpa using this
                clear hinc hnr hou hbe hic hz
                generalize ((c (J - 1) + 1).toNat : Int) = Z at *
                generalize (c (J - 1)).toNat = X at *
                generalize putB c (J - 1) (c (J - 1) + 1) = c' at *
                generalize hJ1 : J - 1 = J1 at *
                clear hJ1
                go_wp2_with fail
                go_roundw
                case rel => exact ⟨q + 1, by have := HI.out; omega, by have := HI.out; go_num, HOS.out _, by rw [HCQ.out, HIC.out]; exact HNS.out, HBS.out _⟩
                case measure => simp [intOf]; have := HI.out; omega
            · obtain rfl : J = 0 := by omega
              have hj0 : ¬ (0 : Int) ≤ ((0 : Nat) : Int) - 1 := by omega
              have HIC : Hid (c = CN) := hinc
              clear hinc hnr hou hbe
              go_wp2_with fail
              go_roundw
              case rel => exact ⟨q + 1, by have := HI.out; omega, by have := HI.out; go_num, HOU3.out, by rw [HCQ.out, ← HIC.out]; exact HNR3.out, HBE3.out⟩
              case measure => simp [intOf]; have := HI.out; omega
    · have hend : ¬ ((16 * q : Nat) : Int) < (D : Int) := by omega
      have HFO : Hid (wo.ownsRow w.heap.size 5 1 u9 D (CT.map encB)) := by
        have h1 := own_mono HOUT.out (Nat.le_succ_of_le HGN.out)
        rw [HCA.out (16 * q) (by omega)] at h1
        have h2 := HCL.out D (Nat.le_refl _)
        rw [HCA.out D (Nat.le_refl _)] at h2
        rw [h2] at h1; exact h1
      clear hout hnr hbel
      generalize 16 * q = I at *
      go_wp2_with fail
      refine bodyPost_ret (v := .tuple #[u9, .int .i64 0]) (by simp [results, Try.results23, go_sem]) rfl ?_
      exact ⟨_, rfl, HFO.out, HBL.out⟩
end Go.Proofs.Ytgefampdfhbmbaa
