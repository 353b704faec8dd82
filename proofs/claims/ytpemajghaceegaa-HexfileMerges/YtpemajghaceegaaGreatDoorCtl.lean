/- Regions with loud operations, where lengths are asked for among the quiet ones. -/
import Derived.Test.YtpemajghaceegaaGreatDoorCut
namespace Go.Proofs.YtpemajghaceegaaGreatDoor
open Go.RowKit
set_option linter.unusedVariables false

def lenB : Op → Bool
  | .call ⟨.builtin .len, _, _⟩ => true
  | .lookup .. => true
  | _ => false
def plainBL (op : Op) : Bool := plainB op || lenB op
theorem plain_runL {P : Program} {o : Oper} (hp : plainBL o.op = true) {ρ : Operand → Value} {w w' : World} {n : Next} (h : (execOp ρ o).run P w = .ok n w') : ∃ v, n = .value v := by
  unfold plainBL at hp
  rcases Bool.or_eq_true _ _ ▸ hp with h1 | h1
  · exact plain_run h1 h
  · unfold execOp at h
    cases hop : o.op with
    | call c =>
      rw [hop] at h h1
      obtain ⟨cl, args, tys⟩ := c
      cases cl with
      | builtin b =>
        cases b <;> first | (simp [lenB] at h1; done) | skip
        simp only [resolve, Sem.run_bind, Sem.run_pure, Result.andThen_ok, invoke] at h
        exact value_run h
      | invoke r nm => simp [lenB] at h1
      | value f => simp [lenB] at h1
    | lookup t m k ok =>
      rw [hop] at h
      simp only at h
      exact value_run h
    | _ => rw [hop] at h1; simp [lenB] at h1
/- which are quiet: a mask over the others (the last one is none of them) -/
def quietsBL (ops : Array Oper) : List Nat → Array Bool → Bool
  | [], _ => true
  | i :: rest, listed => Region.free .any ops listed i && (Region.ready .any ops listed).contains i && ((ops[i]?).map fun o => plainBL o.op).getD false && quietsBL ops rest (listed.setIfInBounds i true)
section
variable {P : Program} {ops : Array Oper} {Q : Exit → Act → World → Prop} {S : World → Prop}
theorem quiet_yieldsL {o : Oper} {a : Act} {K : Act → Prop} (hp : plainBL o.op = true) (hw : Region.wanted o (yielded ops a.tmps) = true) {w : World} (hS : S w) (h : o.quiet P a S K) : ∃ v, YieldsIf P ops S o v a ∧ K (a.put o.dst v) := by
  obtain ⟨v, h1, h2⟩ := h
  refine ⟨v, .inl ⟨hw, fun w' hw' => ?_⟩, h2⟩
  have h3 := h1 w' hw'
  unfold Oper.quietAt at h3
  cases hr : (execOp a.eval o).run P w' with
  | halt x w1 => rw [hr] at h3; exact h3.elim
  | ok n w1 =>
    obtain ⟨u, rfl⟩ := plain_runL hp hr
    rw [hr] at h3
    obtain ⟨rfl, rfl⟩ := h3
    rfl
theorem quiets_anyL (hs : Region.noSelect ops = true) (hQ : ∀ c d v a w, Q (.panic c) (a.put d v) w → Q (.panic c) a w) {K : Act → Prop} {w : World} (hS : S w) : ∀ (l : List Oper) (m : List Bool) (k fuel : Nat) (listed : Array Bool) (a : Act), (∀ j, j < m.length → l[j]? = ops[k + j]?) → quietsBL ops (qIdx m k) listed = true →
      wpQuiet P ops S K (qPick l m) a → (∀ a', K a' → wpAnyH P .any ops Q S fuel (setAll listed (qIdx m k)) a' w) → wpAnyH P .any ops Q S (fuel + (qIdx m k).length) listed a w
  | _, [], k, fuel, listed, a, _, _, hq, hK => by
    have : qPick ‹_› [] = [] := by cases ‹List Oper› <;> rfl
    rw [this] at hq
    exact hK a hq
  | [], b :: m, k, fuel, listed, a, hl, hB, hq, hK => by
    cases b with
    | true =>
      have h0 := hl 0 (by simp)
      simp only [List.getElem?_nil, Nat.add_zero] at h0
      simp [qIdx, quietsBL, ← h0] at hB
    | false =>
      refine quiets_anyL hs hQ hS [] m (k + 1) fuel listed a (fun j hj => ?_) hB hq hK
      have := hl (j + 1) (by simpa using hj)
      rw [show k + 1 + j = k + (j + 1) by omega, ← this]; simp
  | o :: l, true :: m, k, fuel, listed, a, hl, hB, hq, hK => by
    have h0 := hl 0 (by simp)
    simp only [List.getElem?_cons_zero, Nat.add_zero] at h0
    simp only [qIdx, quietsBL, Bool.and_eq_true, ← h0, Option.map_some, Option.getD_some] at hB
    obtain ⟨⟨⟨hf, hr⟩, hp⟩, hB⟩ := hB
    have hl' : ∀ j, j < m.length → l[j]? = ops[k + 1 + j]? := fun j hj => by
      have := hl (j + 1) (by simpa using hj)
      rw [show k + 1 + j = k + (j + 1) by omega, ← this]; simp
    have hq' : wpQuiet P ops S K (o :: qPick l m) a := hq
    rw [wpQuiet_cons] at hq'
    show wpAnyH P .any ops Q S (fuel + (qIdx m (k + 1)).length + 1) listed a w
    split at hq'
    · rename_i hw
      obtain ⟨v, hy, hv⟩ := quiet_yieldsL hp hw hS hq'
      exact wpAnyH_take h0.symm hs hf hr (fun c a w => hQ c _ _ a w) hy hS (quiets_anyL hs hQ hS l m (k + 1) fuel _ _ hl' hB hv hK)
    · rename_i hw
      have hw : Region.wanted o (yielded ops a.tmps) = false := by simpa using hw
      exact wpAnyH_take h0.symm hs hf hr (fun c a w => hQ c _ _ a w) (.inr ⟨hw, rfl⟩) hS (quiets_anyL hs hQ hS l m (k + 1) fuel _ _ hl' hB hq' hK)
  | o :: l, false :: m, k, fuel, listed, a, hl, hB, hq, hK => by
    refine quiets_anyL hs hQ hS l m (k + 1) fuel listed a (fun j hj => ?_) hB hq hK
    have := hl (j + 1) (by simpa using hj)
    rw [show k + 1 + j = k + (j + 1) by omega, ← this]; simp
end
theorem wp_region_loud0L {P : Program} {id : Nat} {Q : Exit → Act → World → Prop} {a : Act} {w : World} {L : List Oper} (m : List Bool) (bs : List Nat) (hm : P.follows .mixedOrders = true) (hs : Region.noSelect L.toArray = true) (hml : m.length = L.length)
    (hq : quietsBL L.toArray (qIdx m 0) (Array.replicate L.length false) = true)
    (hc : chainB L.toArray (lIdx m 0) (setAll (Array.replicate L.length false) (qIdx m 0)) = true)
    (hQ : ∀ c (d : Nat) v a w, Q (.panic c) (a.put (some d) v) w → Q (.panic c) a w)
    (h : wpQuiet P L.toArray (fun w' => ∃ i : KB w bs, w' = i.v)
      (fun a' => LoudW P L.toArray Q (fun w' => ∃ i : KB w bs, w' = i.v) (fun a w => Q .normal a w) (lPick L m) a' w.drew) (qPick L m) a) : (Code.region id L.toArray true).wp P Q a w := by
  refine wp_region_any hm ?_
  have hS : (fun w' => ∃ i : KB w bs, w' = i.v) w.drew := ⟨⟨w.drew, fun _ _ => rfl⟩, rfl⟩
  have hpre : ∀ j, j < m.length → L[j]? = L[0 + j]? := fun j hj => by rw [Nat.zero_add]
  have h1 : wpAnyH P .any L.toArray Q (fun w' => ∃ i : KB w bs, w' = i.v) ((lIdx m 0).length + (qIdx m 0).length) (Array.replicate L.length false) a w.drew := by
    refine quiets_anyL hs (fun c d v a w hh => by cases d with | none => exact hh | some d => exact hQ c d v a w hh) hS L m 0 (lIdx m 0).length _ a (fun j hj => by rw [hpre j hj, List.getElem?_toArray]) hq h fun a' ha' => ?_
    exact loud_any0 L m 0 _ a' w.drew hpre hc hS ha'
  have hfu : (lIdx m 0).length + (qIdx m 0).length = L.length := by have := idx_len m 0; omega
  rw [hfu] at h1
  have h2 := wpAny_of_held _ _ _ _ h1
  simpa using h2
end Go.Proofs.YtpemajghaceegaaGreatDoor
