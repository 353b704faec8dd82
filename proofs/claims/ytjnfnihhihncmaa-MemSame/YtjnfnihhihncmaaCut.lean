/- A region that draws its order and whose last operation waits for all the others: the others in whatever way, then the last one. -/
import Derived.Test.YtjnfnihhihncmaaRgi
import Derived.OrdersHeld
namespace Go.Proofs.Ytjnfnihhihncmaa
open Go.RowKit
set_option linter.unusedVariables false

theorem mute_asks {P : Program} {o : Oper} {a : Act} {w : World} : ¬ (mute o).asks P a w := by
  rintro ⟨h, _⟩
  have e : ((execOp a.eval (mute o)).runT P w #[]).2 = #[] := rfl
  rw [e] at h
  simp at h
theorem mute_wp {P : Program} {o : Oper} {a : Act} {w : World} {K : Act → World → Prop} {Q : Exit → Act → World → Prop} (hd : o.dst = none) (h : (mute o).wp P a w K Q) : K a w := by
  unfold Oper.wp at h
  have e : (execOp a.eval (mute o)).run P w = .ok (.value undef) w := rfl
  rw [e] at h
  have h2 : K (a.put (mute o).dst undef) w := h
  have hp : a.put (mute o).dst undef = a := by rw [show (mute o).dst = o.dst from rfl, hd]; rfl
  rwa [hp] at h2
/-- Each but the last is waited for by a later one. -/
def coverB (L : List Oper) : Bool := (List.range (L.length - 1)).all fun j => (List.range L.length).any fun k => Nat.blt j k && ((L[k]?).map fun o => o.after.any fun e => Region.binds .any e && e.on == j).getD false
/-- What is listed was ready. -/
def ClosedL (L : List Oper) (listed : Array Bool) : Prop := ∀ i o, L[i]? = some o → listed.getD i false = true → ∀ e ∈ o.after, Region.binds .any e = true → listed.getD e.on false = true
theorem getD_mono {listed : Array Bool} {i j : Nat} (h : listed.getD j false = true) : (listed.setIfInBounds i true).getD j false = true := by
  rw [Array.getD_eq_getD_getElem?] at h ⊢
  rw [Array.getElem?_setIfInBounds]
  by_cases hij : i = j
  · subst hij
    rw [if_pos rfl]
    by_cases hs : i < listed.size
    · rw [if_pos hs]; rfl
    · rw [Array.getElem?_eq_none (by omega)] at h; simp at h
  · rw [if_neg hij]; exact h
theorem ClosedL.step {L : List Oper} {listed : Array Bool} (h : ClosedL L listed) {i : Nat} (hi : i ∈ Region.ready .any L.toArray listed) : ClosedL L (listed.setIfInBounds i true) := fun j o ho hj e he hb => by
  obtain ⟨h1, o', ho', hall⟩ := mem_ready.1 hi
  by_cases hji : j = i
  · subst hji
    rw [List.getElem?_toArray, ho] at ho'
    cases ho'
    exact getD_mono (hall e he hb)
  · refine getD_mono (h j o ho ?_ e he hb)
    rw [Array.getD_eq_getD_getElem?, Array.getElem?_setIfInBounds, if_neg (Ne.symm hji), ← Array.getD_eq_getD_getElem?] at hj
    exact hj
theorem cover_all {L : List Oper} (hc : coverB L = true) {listed : Array Bool} (hcl : ClosedL L listed) {n : Nat} (hn : L.length = n + 1) (h : n ∈ Region.ready .any L.toArray listed) : ∀ m j, j + m = n → 0 < m → listed.getD j false = true := fun m => by
  induction m using Nat.strongRecOn with
  | _ m ih =>
    intro j hj hm
    have h1 := List.all_eq_true.1 hc j (by simp; omega)
    obtain ⟨k, hk, h2⟩ := List.any_eq_true.1 h1
    obtain ⟨hjk, h2⟩ := Bool.and_eq_true_iff.1 h2
    have hjk : j < k := by simpa using hjk
    have hkn : k < L.length := by simpa using hk
    rw [List.getElem?_eq_getElem hkn, Option.map_some, Option.getD_some, Array.any_eq_true'] at h2
    obtain ⟨e, he, h3⟩ := h2
    obtain ⟨hb, hon⟩ := Bool.and_eq_true_iff.1 h3
    have hon := eq_of_beq hon
    by_cases hkn2 : k = n
    · subst hkn2
      obtain ⟨_, o', ho', hall⟩ := mem_ready.1 h
      rw [List.getElem?_toArray, List.getElem?_eq_getElem hkn] at ho'
      cases ho'
      have := hall e he hb
      rw [hon] at this; exact this
    · have hl := ih (n - k) (by omega) k (by omega) (by omega)
      have := hcl k L[k] (List.getElem?_eq_getElem hkn) hl e he hb
      rw [hon] at this; exact this
theorem ready_cover {l : List Oper} {o : Oper} (hc : coverB (l ++ [o]) = true) {listed : Array Bool} (hcl : ClosedL (l ++ [o]) listed) (h : l.length ∈ Region.ready .any (l ++ [o]).toArray listed) : Region.ready .any (l ++ [o]).toArray (listed.setIfInBounds l.length true) = [] := by
  apply List.eq_nil_iff_forall_not_mem.2
  intro i hi
  have hall := cover_all hc hcl (n := l.length) (by simp) h
  obtain ⟨h1, _⟩ := mem_ready.1 h
  obtain ⟨h2, o2, ho2, _⟩ := mem_ready.1 hi
  rw [List.getElem?_toArray] at ho2
  have hil : i < (l ++ [o]).length := (List.getElem?_eq_some_iff.1 ho2).1
  rw [List.length_append, List.length_singleton] at hil
  by_cases he : i = l.length
  · subst he
    rcases Nat.lt_or_ge l.length listed.size with h' | h'
    · simp [h'] at h2
    · simp [Array.getElem?_eq_none h'] at h1
  · have h3 := hall (l.length - i) i (by omega) (by omega)
    rcases Nat.lt_or_ge i listed.size with h' | h'
    · have h4 : listed[i] = true := by simpa [h'] using h3
      rw [Array.getD_eq_getD_getElem?, Array.getElem?_setIfInBounds, if_neg (Ne.symm he)] at h2
      simp [h', h4] at h2
    · simp [Array.getElem?_eq_none h'] at h3
/-- What must hold behind the others. -/
def CutQ (P : Program) (l : List Oper) (o : Oper) (Q : Exit → Act → World → Prop) (e : Exit) (a : Act) (w : World) : Prop := (e = .normal ∧ wpList P (l ++ [o]).toArray Q [o] a w) ∨ (e ≠ .normal ∧ Q e a w)
theorem wpAny_cut {P : Program} {l : List Oper} {o : Oper} {Q : Exit → Act → World → Prop} (hd : o.dst = none) (hl : coverB (l ++ [o]) = true) (ht : topB (l ++ [o]) = true) : ∀ (fuel : Nat) (listed : Array Bool) (a : Act) (w : World), listed.size = (l ++ [o]).length → listed.getD l.length true = false → ClosedL (l ++ [o]) listed →
      wpAny P .any (l ++ [mute o]).toArray (CutQ P l o Q) fuel listed a w → wpAny P .any (l ++ [o]).toArray Q fuel listed a w
  | 0, listed, a, w, hs, hn, hcl, h => by
    have := h.1
    rw [ready_mute] at this
    exact absurd this (ready_some ht hs (by simp) hn)
  | fuel + 1, listed, a, w, hs, hn, hcl, h => by
    have hQ : ∀ e a' w', e ≠ .normal → CutQ P l o Q e a' w' → Q e a' w' := fun e a' w' hne hh => hh.elim (fun h => absurd h.1 hne) (fun h => h.2)
    refine ⟨fun h0 => absurd h0 (ready_some ht hs (by simp) hn), fun i hi => ?_⟩
    have h2 := h.2 i (by rw [ready_mute]; exact hi)
    by_cases hin : i = l.length
    · subst hin
      have hr := ready_cover hl hcl hi
      have hL : wpList P (l ++ [o]).toArray Q [o] a w := by
        have key : wpAny P .any (l ++ [mute o]).toArray (CutQ P l o Q) fuel (listed.setIfInBounds l.length true) a w → wpList P (l ++ [o]).toArray Q [o] a w := fun hh => by
          have hq : CutQ P l o Q .normal a w := by
            cases fuel with
            | zero => exact hh.2
            | succ f => exact hh.1 (by rw [ready_mute]; exact hr)
          exact hq.elim (fun h => h.2) (fun h => absurd rfl h.1)
        unfold wpOp at h2
        rw [List.getElem?_toArray, mute_at, if_pos rfl] at h2
        have hp : a.put (mute o).dst undef = a := by rw [show (mute o).dst = o.dst from rfl, hd]; rfl
        simp only at h2
        split at h2
        · rcases h2 with h2 | h2
          · exact key (mute_wp hd h2)
          · exact absurd h2.1 mute_asks
        · rw [hp] at h2; exact key h2
      have hK : ∀ a' w', wpList P (l ++ [o]).toArray Q [] a' w' → wpAny P .any (l ++ [o]).toArray Q fuel (listed.setIfInBounds l.length true) a' w' := fun a' w' hh => by
        cases fuel with
        | zero => exact ⟨hr, hh⟩
        | succ f => exact ⟨fun _ => hh, fun i hi => by rw [hr] at hi; cases hi⟩
      unfold wpOp
      rw [List.getElem?_toArray, last_at]
      simp only
      unfold wpList at hL
      split at hL
      · rename_i hw
        rw [if_pos hw]
        rcases hL with hL | hL
        · exact .inl (Oper.wp_mono hK hL)
        · exact .inr hL
      · rename_i hw
        rw [if_neg hw]
        exact hK _ _ hL
    · have ih : ∀ a' w', wpAny P .any (l ++ [mute o]).toArray (CutQ P l o Q) fuel (listed.setIfInBounds i true) a' w' → wpAny P .any (l ++ [o]).toArray Q fuel (listed.setIfInBounds i true) a' w' := fun a' w' hh => by
        refine wpAny_cut hd hl ht fuel _ a' w' (by simpa using hs) ?_ (hcl.step hi) hh
        rw [Array.getD_eq_getD_getElem?, Array.getElem?_setIfInBounds, if_neg hin, ← Array.getD_eq_getD_getElem?]; exact hn
      unfold wpOp at *
      rw [List.getElem?_toArray, mute_at, if_neg hin, yielded_mute] at h2
      rw [List.getElem?_toArray]
      cases hoi : (l ++ [o])[i]? with
      | none =>
        rw [hoi] at h2
        exact ih _ _ h2
      | some oi =>
        rw [hoi] at h2
        simp only at h2 ⊢
        split
        · rename_i hw
          rw [if_pos hw] at h2
          rcases h2 with h2 | ⟨h3, a', w', h4⟩
          · exact .inl (Oper.wp_mono ih (upon_swap hQ h2))
          · exact .inr ⟨h3, a', w', hQ _ _ _ (by simp) h4⟩
        · rename_i hw
          rw [if_neg hw] at h2
          exact ih _ _ h2
/-- Operations that yield a value and nothing else. -/
def plainB : Op → Bool
  | .move _ | .assign _ | .pick _ _ _ | .build _ _ | .load _ _ | .binOp _ _ _ _ _ | .unOp _ _ _ | .convert _ _ _ | .fieldAddr _ _ _ | .field _ _ _ | .indexAddr _ _ _ | .index _ _ _ | .extract _ _ | .slice _ _ _ _ _ | .nilCheck _ => true
  | _ => false
theorem bind_ok {P : Program} {α β : Type} {s : Sem α} {k : α → Sem β} {w w' : World} {n : β} (h : (s >>= k).run P w = .ok n w') : ∃ x w1, s.run P w = .ok x w1 ∧ (k x).run P w1 = .ok n w' := by
  rw [Sem.run_bind] at h
  cases hs : s.run P w with
  | ok x w1 => rw [hs] at h; exact ⟨x, w1, rfl, h⟩
  | halt x w1 => rw [hs] at h; cases h
theorem value_run {P : Program} {s : Sem Value} {w w' : World} {n : Next} (h : (do pure (Next.value (← s)) : Sem Next).run P w = .ok n w') : ∃ v, n = .value v := by
  rw [Sem.run_bind] at h
  cases hs : s.run P w with
  | ok x w1 => rw [hs] at h; cases h; exact ⟨x, rfl⟩
  | halt x w1 => rw [hs] at h; cases h
theorem plain_run {P : Program} {o : Oper} (hp : plainB o.op = true) {ρ : Operand → Value} {w w' : World} {n : Next} (h : (execOp ρ o).run P w = .ok n w') : ∃ v, n = .value v := by
  unfold execOp at h
  cases hop : o.op <;> rw [hop] at h hp <;> simp only [plainB, Bool.false_eq_true] at hp <;> simp only at h <;> first
    | exact value_run h
    | (cases h; exact ⟨_, rfl⟩)
    | skip
  · rename_i c a b
    rw [Sem.run_bind] at h
    cases hs : (asBool (ρ c)).run P w with
    | ok x w1 => rw [hs] at h; cases h; exact ⟨_, rfl⟩
    | halt x w1 => rw [hs] at h; cases h
  · rename_i x
    split at h
    · cases h
    · cases h
    · cases h
    · split at h
      · cases h
      · obtain ⟨x1, w1, _, h⟩ := bind_ok h
        obtain ⟨x2, w2, _, h⟩ := bind_ok h

        split at h
        · obtain ⟨x3, w3, h3, h⟩ := bind_ok h
          cases h; exact ⟨_, rfl⟩
        · cases h; exact ⟨_, rfl⟩
      · cases h; exact ⟨_, rfl⟩
    · cases h; exact ⟨_, rfl⟩

/- which are quiet: a mask over the others (the last one is none of them) -/
def qPick : List Oper → List Bool → List Oper
  | o :: l, true :: m => o :: qPick l m
  | _ :: l, false :: m => qPick l m
  | _, _ => []
def lPick : List Oper → List Bool → List Oper
  | _ :: l, true :: m => lPick l m
  | o :: l, false :: m => o :: lPick l m
  | _, _ => []
def qIdx : List Bool → Nat → List Nat
  | true :: m, k => k :: qIdx m (k + 1)
  | false :: m, k => qIdx m (k + 1)
  | [], _ => []
def lIdx : List Bool → Nat → List Nat
  | true :: m, k => lIdx m (k + 1)
  | false :: m, k => k :: lIdx m (k + 1)
  | [], _ => []
def setAll (listed : Array Bool) : List Nat → Array Bool
  | [] => listed
  | i :: rest => setAll (listed.setIfInBounds i true) rest
def quietsB (ops : Array Oper) : List Nat → Array Bool → Bool
  | [], _ => true
  | i :: rest, listed => Region.free .any ops listed i && (Region.ready .any ops listed).contains i && ((ops[i]?).map fun o => plainB o.op).getD false && quietsB ops rest (listed.setIfInBounds i true)
def chainB (ops : Array Oper) : List Nat → Array Bool → Bool
  | [], listed => (Region.ready .any ops listed).isEmpty
  | i :: rest, listed => Region.ready .any ops listed == [i] && chainB ops rest (listed.setIfInBounds i true)
section
variable {P : Program} {ops : Array Oper} {Q : Exit → Act → World → Prop} {S : World → Prop}
theorem quiet_yields {o : Oper} {a : Act} {K : Act → Prop} (hp : plainB o.op = true) (hw : Region.wanted o (yielded ops a.tmps) = true) {w : World} (hS : S w) (h : o.quiet P a S K) : ∃ v, YieldsIf P ops S o v a ∧ K (a.put o.dst v) := by
  obtain ⟨v, h1, h2⟩ := h
  refine ⟨v, .inl ⟨hw, fun w' hw' => ?_⟩, h2⟩
  have h3 := h1 w' hw'
  unfold Oper.quietAt at h3
  cases hr : (execOp a.eval o).run P w' with
  | halt x w1 => rw [hr] at h3; exact h3.elim
  | ok n w1 =>
    obtain ⟨u, rfl⟩ := plain_run hp hr
    rw [hr] at h3
    obtain ⟨rfl, rfl⟩ := h3
    rfl
theorem quiets_any (hs : Region.noSelect ops = true) (hQ : ∀ c d v a w, Q (.panic c) (a.put d v) w → Q (.panic c) a w) {K : Act → Prop} {w : World} (hS : S w) : ∀ (l : List Oper) (m : List Bool) (k fuel : Nat) (listed : Array Bool) (a : Act), (∀ j, j < m.length → l[j]? = ops[k + j]?) → quietsB ops (qIdx m k) listed = true →
      wpQuiet P ops S K (qPick l m) a → (∀ a', K a' → wpAnyH P .any ops Q S fuel (setAll listed (qIdx m k)) a' w) → wpAnyH P .any ops Q S (fuel + (qIdx m k).length) listed a w
  | _, [], k, fuel, listed, a, _, _, hq, hK => by
    have : qPick ‹_› [] = [] := by cases ‹List Oper› <;> rfl
    rw [this] at hq
    exact hK a hq
  | [], b :: m, k, fuel, listed, a, hl, hB, hq, hK => by
    cases b with
    | true =>
      have h0 := hl 0 (by simp)
      simp only [List.getElem?_nil, Nat.add_zero] at h0
      simp [qIdx, quietsB, ← h0] at hB
    | false =>
      refine quiets_any hs hQ hS [] m (k + 1) fuel listed a (fun j hj => ?_) hB hq hK
      have := hl (j + 1) (by simpa using hj)
      rw [show k + 1 + j = k + (j + 1) by omega, ← this]; simp
  | o :: l, true :: m, k, fuel, listed, a, hl, hB, hq, hK => by
    have h0 := hl 0 (by simp)
    simp only [List.getElem?_cons_zero, Nat.add_zero] at h0
    simp only [qIdx, quietsB, Bool.and_eq_true, ← h0, Option.map_some, Option.getD_some] at hB
    obtain ⟨⟨⟨hf, hr⟩, hp⟩, hB⟩ := hB
    have hl' : ∀ j, j < m.length → l[j]? = ops[k + 1 + j]? := fun j hj => by
      have := hl (j + 1) (by simpa using hj)
      rw [show k + 1 + j = k + (j + 1) by omega, ← this]; simp
    have hq' : wpQuiet P ops S K (o :: qPick l m) a := hq
    rw [wpQuiet_cons] at hq'
    show wpAnyH P .any ops Q S (fuel + (qIdx m (k + 1)).length + 1) listed a w
    split at hq'
    · rename_i hw
      obtain ⟨v, hy, hv⟩ := quiet_yields hp hw hS hq'
      exact wpAnyH_take h0.symm hs hf hr (fun c a w => hQ c _ _ a w) hy hS (quiets_any hs hQ hS l m (k + 1) fuel _ _ hl' hB hv hK)
    · rename_i hw
      have hw : Region.wanted o (yielded ops a.tmps) = false := by simpa using hw
      exact wpAnyH_take h0.symm hs hf hr (fun c a w => hQ c _ _ a w) (.inr ⟨hw, rfl⟩) hS (quiets_any hs hQ hS l m (k + 1) fuel _ _ hl' hB hq' hK)
  | o :: l, false :: m, k, fuel, listed, a, hl, hB, hq, hK => by
    refine quiets_any hs hQ hS l m (k + 1) fuel listed a (fun j hj => ?_) hB hq hK
    have := hl (j + 1) (by simpa using hj)
    rw [show k + 1 + j = k + (j + 1) by omega, ← this]; simp
end
theorem mute_wp_mk {P : Program} {o : Oper} {a : Act} {w : World} {K : Act → World → Prop} {Q : Exit → Act → World → Prop} (hd : o.dst = none) (h : K a w) : (mute o).wp P a w K Q := by
  unfold Oper.wp
  have e : (execOp a.eval (mute o)).run P w = .ok (.value undef) w := rfl
  rw [e]
  show K (a.put (mute o).dst undef) w
  have hp : a.put (mute o).dst undef = a := by rw [show (mute o).dst = o.dst from rfl, hd]; rfl
  rw [hp]; exact h
/-- The loud ones, one behind the other; behind each the class of worlds is met again; then F. -/
def LoudW (P : Program) (ops : Array Oper) (Q : Exit → Act → World → Prop) (S : World → Prop) (F : Act → World → Prop) : List Oper → Act → World → Prop
  | [], a, w => F a w
  | o :: rest, a, w => wpList P ops (fun e a' w' => (e = .normal ∧ S w' ∧ LoudW P ops Q S F rest a' w') ∨ (e ≠ .normal ∧ Q e a' w')) [o] a w
theorem loud_any {P : Program} {l0 : List Oper} {o : Oper} {Q : Exit → Act → World → Prop} {S : World → Prop} (hd : o.dst = none) (hg : o.guard = none) : ∀ (l : List Oper) (m : List Bool) (k : Nat) (listed : Array Bool) (a : Act) (w : World), (∀ j, j < m.length → l[j]? = (l0 ++ [mute o])[k + j]?) →
      chainB (l0 ++ [mute o]).toArray (lIdx m k ++ [l0.length]) listed = true → S w → LoudW P (l0 ++ [mute o]).toArray Q S (fun a w => wpList P (l0 ++ [o]).toArray Q [o] a w) (lPick l m) a w →
      wpAnyH P .any (l0 ++ [mute o]).toArray (CutQ P l0 o Q) S ((lIdx m k).length + 1) listed a w
  | l, [], k, listed, a, w, hl, hB, hS, h => by
    have hp : lPick l [] = [] := by cases l <;> rfl
    rw [hp] at h
    have hB : chainB (l0 ++ [mute o]).toArray [l0.length] listed = true := hB
    simp only [chainB, Bool.and_eq_true, beq_iff_eq, List.isEmpty_iff] at hB
    refine wpAnyH_all hB.1 (by simp) fun i hi => ?_
    have hi : i = l0.length := by simpa using hi
    subst hi
    unfold wpOp
    rw [List.getElem?_toArray, last_at]
    simp only
    rw [if_pos (show Region.wanted (mute o) (yielded (l0 ++ [mute o]).toArray a.tmps) = true by simp [Region.wanted, mute, hg])]
    exact .inl (mute_wp_mk hd ⟨hS, hB.2, .inl ⟨rfl, h⟩⟩)
  | [], b :: m, k, listed, a, w, hl, hB, hS, h => by
    have hl' : ∀ j, j < m.length → ([] : List Oper)[j]? = (l0 ++ [mute o])[k + 1 + j]? := fun j hj => by
      have := hl (j + 1) (by simpa using hj)
      rw [show k + 1 + j = k + (j + 1) by omega, ← this]; simp
    cases b with
    | true => exact loud_any hd hg [] m (k + 1) listed a w hl' hB hS h
    | false =>
      have h0 := hl 0 (by simp)
      simp only [List.getElem?_nil, Nat.add_zero] at h0
      simp only [lIdx, List.cons_append, chainB, Bool.and_eq_true, beq_iff_eq] at hB
      have h1 := mem_ready.1 (show k ∈ Region.ready .any (l0 ++ [mute o]).toArray listed by rw [hB.1]; simp)
      obtain ⟨_, o', ho', _⟩ := h1
      rw [List.getElem?_toArray, ← h0] at ho'
      cases ho'
  | x :: l, true :: m, k, listed, a, w, hl, hB, hS, h => by
    refine loud_any hd hg l m (k + 1) listed a w (fun j hj => ?_) hB hS h
    have := hl (j + 1) (by simpa using hj)
    rw [show k + 1 + j = k + (j + 1) by omega, ← this]; simp
  | x :: l, false :: m, k, listed, a, w, hl, hB, hS, h => by
    have hl' : ∀ j, j < m.length → l[j]? = (l0 ++ [mute o])[k + 1 + j]? := fun j hj => by
      have := hl (j + 1) (by simpa using hj)
      rw [show k + 1 + j = k + (j + 1) by omega, ← this]; simp
    have h0 := hl 0 (by simp)
    simp only [List.getElem?_cons_zero, Nat.add_zero] at h0
    simp only [lIdx, List.cons_append, chainB, Bool.and_eq_true, beq_iff_eq] at hB
    show wpAnyH P .any (l0 ++ [mute o]).toArray (CutQ P l0 o Q) S ((lIdx m (k + 1)).length + 1 + 1) listed a w
    refine wpAnyH_all hB.1 (by simp) fun i hi => ?_
    have hi : i = k := by simpa using hi
    subst hi
    have hstep : wpOp P (l0 ++ [mute o]).toArray (CutQ P l0 o Q) i (fun a' w' => S w' ∧ LoudW P (l0 ++ [mute o]).toArray Q S (fun a w => wpList P (l0 ++ [o]).toArray Q [o] a w) (lPick l m) a' w') a w := by
      have h' : wpList P (l0 ++ [mute o]).toArray (fun e a' w' => (e = .normal ∧ S w' ∧ LoudW P (l0 ++ [mute o]).toArray Q S (fun a w => wpList P (l0 ++ [o]).toArray Q [o] a w) (lPick l m) a' w') ∨ (e ≠ .normal ∧ Q e a' w')) [x] a w := h
      have hc : ∀ e a' w', ((e = .normal ∧ S w' ∧ LoudW P (l0 ++ [mute o]).toArray Q S (fun a w => wpList P (l0 ++ [o]).toArray Q [o] a w) (lPick l m) a' w') ∨ (e ≠ .normal ∧ Q e a' w')) = ((e = .normal ∧ S w' ∧ LoudW P (l0 ++ [mute o]).toArray Q S (fun a w => wpList P (l0 ++ [o]).toArray Q [o] a w) (lPick l m) a' w') ∨ (e ≠ .normal ∧ CutQ P l0 o Q e a' w')) := fun e a' w' => propext ⟨fun hh => hh.imp id fun hh => ⟨hh.1, .inr hh⟩, fun hh => hh.imp id fun hh => ⟨hh.1, hh.2.elim (fun h => absurd h.1 hh.1) (fun h => h.2)⟩⟩
      simp only [hc] at h'
      exact wpOp_plain (K := fun a' w' => S w' ∧ LoudW P (l0 ++ [mute o]).toArray Q S (fun a w => wpList P (l0 ++ [o]).toArray Q [o] a w) (lPick l m) a' w') h0.symm h'
    exact wpOp_mono' (fun a' w' hh => ⟨hh.1, loud_any hd hg l m (i + 1) _ a' w' hl' hB.2 hh.1 hh.2⟩) hstep
theorem idx_len : ∀ (m : List Bool) (k : Nat), (qIdx m k).length + (lIdx m k).length = m.length
  | [], _ => rfl
  | true :: m, k => by simp only [qIdx, lIdx, List.length_cons]; have := idx_len m (k + 1); omega
  | false :: m, k => by simp only [qIdx, lIdx, List.length_cons]; have := idx_len m (k + 1); omega
/-- A world in which these blocks of w stand as they did. -/
structure KB (w : World) (bs : List Nat) where
  v : World
  keep : ∀ b, b ∈ bs → v.heap[b]? = w.heap[b]?
instance KB.some (w : World) (bs : List Nat) : Nonempty (KB w bs) := ⟨⟨w, fun _ _ => rfl⟩⟩
theorem KB.cell {w : World} {bs : List Nat} (i : KB w bs) {b : Nat} (hb : b ∈ bs) (o : Nat) : i.v.cell? ⟨b, o, none⟩ = w.cell? ⟨b, o, none⟩ := World.cell?_of_block (i.keep b hb)
/-- A region that draws its order: the quiet ones (the mask) in the order of the text, then the loud ones, then the last one. -/
theorem wp_region_loud {P : Program} {id : Nat} {Q : Exit → Act → World → Prop} {a : Act} {w : World} {L : List Oper} (m : List Bool) (bs : List Nat) (hne : L ≠ []) (hm : P.follows .mixedOrders = true) (hd : (L.getLast hne).dst = none) (hg : (L.getLast hne).guard = none)
    (hl : coverB L = true) (ht : topB L = true) (hs : Region.noSelect (L.dropLast ++ [mute (L.getLast hne)]).toArray = true) (hml : m.length = L.dropLast.length)
    (hq : quietsB (L.dropLast ++ [mute (L.getLast hne)]).toArray (qIdx m 0) (Array.replicate L.length false) = true)
    (hc : chainB (L.dropLast ++ [mute (L.getLast hne)]).toArray (lIdx m 0 ++ [L.dropLast.length]) (setAll (Array.replicate L.length false) (qIdx m 0)) = true)
    (hQ : ∀ c (d : Nat) v a w, Q (.panic c) (a.put (some d) v) w → Q (.panic c) a w)
    (h : wpQuiet P (L.dropLast ++ [mute (L.getLast hne)]).toArray (fun w' => ∃ i : KB w bs, w' = i.v)
      (fun a' => LoudW P (L.dropLast ++ [mute (L.getLast hne)]).toArray Q (fun w' => ∃ i : KB w bs, w' = i.v) (fun a w => wpList P L.toArray Q [L.getLast hne] a w) (lPick L.dropLast m) a' w.drew) (qPick L.dropLast m) a) : (Code.region id L.toArray true).wp P Q a w := by
  have e : L.dropLast ++ [L.getLast hne] = L := List.dropLast_concat_getLast hne
  have hlen : L.dropLast.length + 1 = L.length := by
    have := congrArg List.length e
    simpa using this
  refine wp_region_any hm ?_
  have hS : (fun w' => ∃ i : KB w bs, w' = i.v) w.drew := ⟨⟨w.drew, fun _ _ => rfl⟩, rfl⟩
  have hpre : ∀ j, j < m.length → L.dropLast[j]? = (L.dropLast ++ [mute (L.getLast hne)])[0 + j]? := fun j hj => by
    rw [Nat.zero_add, List.getElem?_append_left (by omega)]
  have h1 : wpAnyH P .any (L.dropLast ++ [mute (L.getLast hne)]).toArray (CutQ P L.dropLast (L.getLast hne) Q) (fun w' => ∃ i : KB w bs, w' = i.v) ((lIdx m 0).length + 1 + (qIdx m 0).length) (Array.replicate L.length false) a w.drew := by
    refine quiets_any hs (fun c d v a w hh => hh.imp (fun h => ⟨h.1, absurd h.1 (by simp)⟩) (fun h => ⟨h.1, by cases d with | none => exact h.2 | some d => exact hQ c d v a w h.2⟩)) hS L.dropLast m 0 ((lIdx m 0).length + 1) _ a (fun j hj => by rw [hpre j hj, List.getElem?_toArray]) hq h fun a' ha' => ?_
    refine loud_any hd hg L.dropLast m 0 _ a' w.drew hpre hc hS ?_
    rw [e]; exact ha'
  have hfu : (lIdx m 0).length + 1 + (qIdx m 0).length = L.length := by have := idx_len m 0; omega
  rw [hfu] at h1
  have hgd : (Array.replicate L.length false).getD L.dropLast.length true = false := by
    rw [Array.getD_eq_getD_getElem?, Array.getElem?_replicate, if_pos (by omega)]; rfl
  have h2 := wpAny_cut (P := P) (Q := Q) hd (by rw [e]; exact hl) (by rw [e]; exact ht) L.length (Array.replicate L.length false) a w.drew (by rw [e]; simp) hgd (fun i o _ hi => absurd hi (by rw [Array.getD_eq_getD_getElem?, Array.getElem?_replicate]; split <;> simp)) (wpAny_of_held _ _ _ _ h1)
  rw [e] at h2
  simpa using h2
theorem loud_any0 {P : Program} {L : List Oper} {Q : Exit → Act → World → Prop} {S : World → Prop} : ∀ (l : List Oper) (m : List Bool) (k : Nat) (listed : Array Bool) (a : Act) (w : World), (∀ j, j < m.length → l[j]? = L[k + j]?) →
      chainB L.toArray (lIdx m k) listed = true → S w → LoudW P L.toArray Q S (fun a w => Q .normal a w) (lPick l m) a w →
      wpAnyH P .any L.toArray Q S (lIdx m k).length listed a w
  | l, [], k, listed, a, w, hl, hB, hS, h => by
    have hp : lPick l [] = [] := by cases l <;> rfl
    rw [hp] at h
    have hB : chainB L.toArray [] listed = true := hB
    simp only [chainB, List.isEmpty_iff] at hB
    exact wpAnyH_done hB h _
  | [], b :: m, k, listed, a, w, hl, hB, hS, h => by
    have hl' : ∀ j, j < m.length → ([] : List Oper)[j]? = L[k + 1 + j]? := fun j hj => by
      have := hl (j + 1) (by simpa using hj)
      rw [show k + 1 + j = k + (j + 1) by omega, ← this]; simp
    cases b with
    | true => exact loud_any0 [] m (k + 1) listed a w hl' hB hS h
    | false =>
      have h0 := hl 0 (by simp)
      simp only [List.getElem?_nil, Nat.add_zero] at h0
      simp only [lIdx, chainB, Bool.and_eq_true, beq_iff_eq] at hB
      have h1 := mem_ready.1 (show k ∈ Region.ready .any L.toArray listed by rw [hB.1]; simp)
      obtain ⟨_, o', ho', _⟩ := h1
      rw [List.getElem?_toArray, ← h0] at ho'
      cases ho'
  | x :: l, true :: m, k, listed, a, w, hl, hB, hS, h => by
    refine loud_any0 l m (k + 1) listed a w (fun j hj => ?_) hB hS h
    have := hl (j + 1) (by simpa using hj)
    rw [show k + 1 + j = k + (j + 1) by omega, ← this]; simp
  | x :: l, false :: m, k, listed, a, w, hl, hB, hS, h => by
    have hl' : ∀ j, j < m.length → l[j]? = L[k + 1 + j]? := fun j hj => by
      have := hl (j + 1) (by simpa using hj)
      rw [show k + 1 + j = k + (j + 1) by omega, ← this]; simp
    have h0 := hl 0 (by simp)
    simp only [List.getElem?_cons_zero, Nat.add_zero] at h0
    simp only [lIdx, chainB, Bool.and_eq_true, beq_iff_eq] at hB
    show wpAnyH P .any L.toArray Q S ((lIdx m (k + 1)).length + 1) listed a w
    refine wpAnyH_all hB.1 (by simp) fun i hi => ?_
    have hi : i = k := by simpa using hi
    subst hi
    have hstep := wpOp_plain (P := P) (L := L) (Q := Q) (K := fun a' w' => S w' ∧ LoudW P L.toArray Q S (fun a w => Q .normal a w) (lPick l m) a' w') h0.symm h
    exact wpOp_mono' (fun a' w' hh => ⟨hh.1, loud_any0 l m (i + 1) _ a' w' hl' hB.2 hh.1 hh.2⟩) hstep
/-- The same, where the last one is one of the loud ones that keep the class. -/
theorem wp_region_loud0 {P : Program} {id : Nat} {Q : Exit → Act → World → Prop} {a : Act} {w : World} {L : List Oper} (m : List Bool) (bs : List Nat) (hm : P.follows .mixedOrders = true) (hs : Region.noSelect L.toArray = true) (hml : m.length = L.length)
    (hq : quietsB L.toArray (qIdx m 0) (Array.replicate L.length false) = true)
    (hc : chainB L.toArray (lIdx m 0) (setAll (Array.replicate L.length false) (qIdx m 0)) = true)
    (hQ : ∀ c (d : Nat) v a w, Q (.panic c) (a.put (some d) v) w → Q (.panic c) a w)
    (h : wpQuiet P L.toArray (fun w' => ∃ i : KB w bs, w' = i.v)
      (fun a' => LoudW P L.toArray Q (fun w' => ∃ i : KB w bs, w' = i.v) (fun a w => Q .normal a w) (lPick L m) a' w.drew) (qPick L m) a) : (Code.region id L.toArray true).wp P Q a w := by
  refine wp_region_any hm ?_
  have hS : (fun w' => ∃ i : KB w bs, w' = i.v) w.drew := ⟨⟨w.drew, fun _ _ => rfl⟩, rfl⟩
  have hpre : ∀ j, j < m.length → L[j]? = L[0 + j]? := fun j hj => by rw [Nat.zero_add]
  have h1 : wpAnyH P .any L.toArray Q (fun w' => ∃ i : KB w bs, w' = i.v) ((lIdx m 0).length + (qIdx m 0).length) (Array.replicate L.length false) a w.drew := by
    refine quiets_any hs (fun c d v a w hh => by cases d with | none => exact hh | some d => exact hQ c d v a w hh) hS L m 0 (lIdx m 0).length _ a (fun j hj => by rw [hpre j hj, List.getElem?_toArray]) hq h fun a' ha' => ?_
    exact loud_any0 L m 0 _ a' w.drew hpre hc hS ha'
  have hfu : (lIdx m 0).length + (qIdx m 0).length = L.length := by have := idx_len m 0; omega
  rw [hfu] at h1
  have h2 := wpAny_of_held _ _ _ _ h1
  simpa using h2
end Go.Proofs.Ytjnfnihhihncmaa
