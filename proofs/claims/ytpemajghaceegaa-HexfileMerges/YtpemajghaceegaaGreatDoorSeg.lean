/- Regions that draw their order, by segments: quiet ones, then a loud one, and so on; behind the last of them a tail that keeps no class of worlds. -/
import Derived.Test.YtpemajghaceegaaGreatDoorCtl
namespace Go.Proofs.YtpemajghaceegaaGreatDoor
open Go.RowKit
set_option linter.unusedVariables false

/-- Whatever order is picked from here on; the class holds behind each operation as long as n0 has not come up. -/
def wpAnyT (P : Program) (ops : Array Oper) (Q : Exit → Act → World → Prop) (S : World → Prop) (n0 : Nat) : Nat → Array Bool → Act → World → Prop
  | 0, listed, a, w => Region.ready .any ops listed = [] ∧ Q .normal a w
  | fuel + 1, listed, a, w =>
    (Region.ready .any ops listed = [] → Q .normal a w) ∧
    ∀ i ∈ Region.ready .any ops listed, wpOp P ops Q i (fun a' w' => ((listed.setIfInBounds i true).getD n0 false = false → S w') ∧ wpAnyT P ops Q S n0 fuel (listed.setIfInBounds i true) a' w') a w
section
variable {P : Program} {Q : Exit → Act → World → Prop} {S : World → Prop} {n0 : Nat}
theorem wpAny_of_T {ops : Array Oper} : ∀ (fuel : Nat) (listed : Array Bool) (a : Act) (w : World), wpAnyT P ops Q S n0 fuel listed a w → wpAny P .any ops Q fuel listed a w
  | 0, _, _, _, h => h
  | fuel + 1, _, _, _, h => ⟨h.1, fun i hi => wpOp_mono (fun a' w' h' => wpAny_of_T fuel _ a' w' h'.2) (h.2 i hi)⟩
theorem getF_ready {L : List Oper} {listed : Array Bool} {i : Nat} (h : i ∈ Region.ready .any L.toArray listed) : ¬ listed.getD i false = true := fun h1 => by
  have h0 := (mem_ready.1 h).1
  rcases Nat.lt_or_ge i listed.size with h' | h'
  · simp [h'] at h0 h1; rw [h0] at h1; cases h1
  · simp [Array.getElem?_eq_none h'] at h1
theorem getF_set {listed : Array Bool} {i j : Nat} (h : i ≠ j) : (listed.setIfInBounds i true).getD j false = listed.getD j false := by
  rw [Array.getD_eq_getD_getElem?, Array.getElem?_setIfInBounds, if_neg h, ← Array.getD_eq_getD_getElem?]
/-- n0 waits, by steps, for i. -/
def Waits (L : List Oper) (n0 i : Nat) : Prop := i ≠ n0 ∧ ∀ listed, listed.size = L.length → ClosedL L listed → (n0 ∈ Region.ready .any L.toArray listed ∨ listed.getD n0 false = true) → listed.getD i false = true
theorem wpAnyT_first {L : List Oper} {i : Nat} {oi : Oper} {v : Value} (hi : L.toArray[i]? = some oi) (hsel : ∀ (j : Nat) (o : Oper) cs b, L.toArray[j]? = some o → o.op ≠ .select cs b)
    (hQ : ∀ c a w, Q (.panic c) (a.put oi.dst v) w → Q (.panic c) a w) (hw : Waits L n0 i) :
    ∀ (fuel : Nat) (listed : Array Bool) (a : Act) (w : World), listed.size = L.length → ClosedL L listed →
      (∀ j oj, L.toArray[j]? = some oj → j ≠ i → listed.getD j true = false → (∀ e ∈ oj.after, Region.binds .any e = true → e.on ≠ i) → oi.apart L.toArray oj = true) →
      i ∈ Region.ready .any L.toArray listed → YieldsIf P L.toArray S oi v a → S w →
      wpAnyT P L.toArray Q S n0 fuel (listed.setIfInBounds i true) (a.put oi.dst v) w → wpAnyT P L.toArray Q S n0 (fuel + 1) listed a w := by
  intro fuel
  induction fuel with
  | zero =>
    intro listed a w _ _ _ hr hy hS H
    refine ⟨fun h => (by rw [h] at hr; cases hr), fun j hj => ?_⟩
    by_cases hji : j = i
    · subst hji; exact hy.wpOp hi hS ⟨fun _ => hS, H⟩
    · have := ready_mono hj hji
      rw [H.1] at this
      cases this
  | succ fuel ih =>
    intro listed a w hsz hcl hfree hr hy hS H
    refine ⟨fun h => (by rw [h] at hr; cases hr), fun j hj => ?_⟩
    by_cases hji : j = i
    · subst hji; exact hy.wpOp hi hS ⟨fun _ => hS, H⟩
    · have h1 := H.2 j (ready_mono hj hji)
      obtain ⟨hjun, oj, hoj, hall⟩ := mem_ready.1 hj
      have hnot : ∀ e ∈ oj.after, Region.binds .any e = true → e.on ≠ i := fun e he hb heq => by
        have h1 := hall e he hb
        rw [heq] at h1
        exact getF_ready hr h1
      have h2 := wpOp_putIf hoj (hfree j oj hoj hji hjun hnot) (fun cs b => hsel i oi cs b hi) (fun cs b => hsel j oj cs b hoj) hQ hy h1
      have hfree' : ∀ k ok, L.toArray[k]? = some ok → k ≠ i → (listed.setIfInBounds j true).getD k true = false →
          (∀ e ∈ ok.after, Region.binds .any e = true → e.on ≠ i) → oi.apart L.toArray ok = true := fun k ok hk hki hun hno => by
        refine hfree k ok hk hki ?_ hno
        by_cases hjk : j = k
        · subst hjk; exact hjun
        · rw [getD_set_ne true hjk] at hun; exact hun
      have hn1 : listed.getD n0 false = false := by
        cases hh : listed.getD n0 false with
        | false => rfl
        | true => exact absurd (hw.2 listed hsz hcl (.inr hh)) (getF_ready hr)
      have hn2 : j ≠ n0 := fun hh => absurd (hw.2 listed hsz hcl (.inl (hh ▸ hj))) (getF_ready hr)
      have hn3 : ((listed.setIfInBounds i true).setIfInBounds j true).getD n0 false = false := by rw [getF_set hn2, getF_set hw.1]; exact hn1
      refine wpOp_mono (fun a' w' h3 => ⟨fun _ => h3.2.1 hn3, ih (listed.setIfInBounds j true) a' w' (by simpa using hsz) (hcl.step hj) hfree' (ready_mono hr (Ne.symm hji)) h3.1 (h3.2.1 hn3) ?_⟩) h2
      rw [Array.setIfInBounds_comm _ _ hji]
      exact h3.2.2
theorem wpAnyT_take {L : List Oper} {i : Nat} {oi : Oper} {v : Value} {fuel : Nat} {listed : Array Bool} {a : Act} {w : World} (hi : L.toArray[i]? = some oi)
    (hs : Region.noSelect L.toArray = true) (hf : Region.free .any L.toArray listed i = true) (hr : (Region.ready .any L.toArray listed).contains i = true)
    (hQ : ∀ c a w, Q (.panic c) (a.put oi.dst v) w → Q (.panic c) a w) (hw : Waits L n0 i) (hsz : listed.size = L.length) (hcl : ClosedL L listed) (hy : YieldsIf P L.toArray S oi v a) (hS : S w)
    (h : wpAnyT P L.toArray Q S n0 fuel (listed.setIfInBounds i true) (a.put oi.dst v) w) : wpAnyT P L.toArray Q S n0 (fuel + 1) listed a w :=
  wpAnyT_first hi (Region.noSelect_spec hs) hQ hw fuel listed a w hsz hcl (Region.free_spec hi hf) (by simpa using hr) hy hS h
theorem wpAnyT_one {ops : Array Oper} {r : Nat} {fuel : Nat} {listed : Array Bool} {a : Act} {w : World} (hr : Region.ready .any ops listed = [r])
    (h : wpOp P ops Q r (fun a' w' => ((listed.setIfInBounds r true).getD n0 false = false → S w') ∧ wpAnyT P ops Q S n0 fuel (listed.setIfInBounds r true) a' w') a w) : wpAnyT P ops Q S n0 (fuel + 1) listed a w :=
  ⟨fun h0 => (by rw [hr] at h0; cases h0), fun i hi => by rw [hr] at hi; rw [show i = r by simpa using hi]; exact h⟩
/- picks by numbers -/
def pk (k : Nat) : List Oper → List Nat → List Oper
  | o :: l, m :: ms => bif m == k then o :: pk k l ms else pk k l ms
  | _, _ => []
def ix (k : Nat) : List Nat → Nat → List Nat
  | m :: ms, j => bif m == k then j :: ix k ms (j + 1) else ix k ms (j + 1)
  | [], _ => []
inductive Picks (L : List Oper) : List Nat → List Oper → Prop
  | nil : Picks L [] []
  | cons {i : Nat} {o : Oper} {is : List Nat} {os : List Oper} (h : L[i]? = some o) (t : Picks L is os) : Picks L (i :: is) (o :: os)
theorem picks_ix (L : List Oper) (k : Nat) : ∀ (l : List Oper) (m : List Nat) (j : Nat), m.length = l.length → (∀ q, q < l.length → l[q]? = L[j + q]?) → Picks L (ix k m j) (pk k l m)
  | [], [], j, _, _ => .nil
  | [], _ :: _, j, h, _ => by simp at h
  | _ :: _, [], j, h, _ => by simp at h
  | o :: l, m :: ms, j, hl, h => by
    have h0 := h 0 (by simp)
    simp only [List.getElem?_cons_zero, Nat.add_zero] at h0
    have ih := picks_ix L k l ms (j + 1) (by simpa using hl) (fun q hq => by
      have := h (q + 1) (by simpa using hq)
      rw [show j + 1 + q = j + (q + 1) by omega, ← this]; simp)
    unfold ix pk
    cases hm : m == k with
    | true => exact .cons h0.symm ih
    | false => exact ih
theorem quiets_T {L : List Oper} (hs : Region.noSelect L.toArray = true) (hQ : ∀ c d v a w, Q (.panic c) (a.put d v) w → Q (.panic c) a w) {K : Act → Prop} {w : World} (hS : S w) {is : List Nat} {os : List Oper} (hp : Picks L is os) : (∀ i ∈ is, Waits L n0 i) → ∀ (fuel : Nat) (listed : Array Bool) (a : Act), listed.size = L.length → ClosedL L listed → quietsBL L.toArray is listed = true →
      wpQuiet P L.toArray S K os a → (∀ a', K a' → ClosedL L (setAll listed is) → wpAnyT P L.toArray Q S n0 fuel (setAll listed is) a' w) → wpAnyT P L.toArray Q S n0 (fuel + is.length) listed a w := by
  induction hp with
  | nil => intro _ fuel listed a _ hcl _ hq hK; exact hK a hq hcl
  | cons h0 t ih =>
    rename_i i o is os
    intro hw fuel listed a hsz hcl hB hq hK
    have hsz' : (listed.setIfInBounds i true).size = L.length := by simpa using hsz
    have h0' : L.toArray[i]? = some o := by rw [List.getElem?_toArray]; exact h0
    simp only [quietsBL, Bool.and_eq_true, h0', Option.map_some, Option.getD_some] at hB
    obtain ⟨⟨⟨hf, hr⟩, hpl⟩, hB⟩ := hB
    have hcl' := hcl.step (i := i) (by simpa using hr)
    rw [wpQuiet_cons] at hq
    show wpAnyT P L.toArray Q S n0 (fuel + is.length + 1) listed a w
    split at hq
    · rename_i hwt
      obtain ⟨v, hy, hv⟩ := quiet_yieldsL hpl hwt hS hq
      exact wpAnyT_take h0' hs hf hr (fun c a w => hQ c _ _ a w) (hw i (by simp)) hsz hcl hy hS (ih (fun j hj => hw j (by simp [hj])) fuel _ _ hsz' hcl' hB hv hK)
    · rename_i hwt
      have hwt : Region.wanted o (yielded L.toArray a.tmps) = false := by simpa using hwt
      exact wpAnyT_take h0' hs hf hr (fun c a w => hQ c _ _ a w) (hw i (by simp)) hsz hcl (.inr ⟨hwt, rfl⟩) hS (ih (fun j hj => hw j (by simp [hj])) fuel _ _ hsz' hcl' hB hq hK)
/-- The tail, one behind the other. -/
theorem tail_T {L : List Oper} {is : List Nat} {os : List Oper} (hp : Picks L is os) : ∀ (listed : Array Bool) (a : Act) (w : World), (∀ i, is.head? = some i → i = n0 ∨ listed.getD n0 false = true) → listed.size = L.length → chainB L.toArray is listed = true → wpList P L.toArray Q os a w → wpAnyT P L.toArray Q S n0 is.length listed a w := by
  induction hp with
  | nil =>
    intro listed a w _ _ hB h
    simp only [chainB, List.isEmpty_iff] at hB
    exact ⟨hB, h⟩
  | cons h0 t ih =>
    rename_i i o is os
    intro listed a w hn hsz hB h
    simp only [chainB, Bool.and_eq_true, beq_iff_eq] at hB
    have h0' : L.toArray[i]? = some o := by rw [List.getElem?_toArray]; exact h0
    have hiL : i < L.length := (List.getElem?_eq_some_iff.1 h0).1
    have hn' : (listed.setIfInBounds i true).getD n0 false = true := by
      rcases hn i rfl with he | he
      · subst he
        rw [Array.getD_eq_getD_getElem?, Array.getElem?_setIfInBounds, if_pos rfl, if_pos (by omega)]; rfl
      · exact getD_mono he
    refine wpAnyT_one hB.1 ?_
    have hK : ∀ a' w', wpList P L.toArray Q os a' w' → ((listed.setIfInBounds i true).getD n0 false = false → S w') ∧ wpAnyT P L.toArray Q S n0 is.length (listed.setIfInBounds i true) a' w' := fun a' w' hh =>
      ⟨fun h1 => (by rw [hn'] at h1; cases h1), ih _ a' w' (fun j hj => .inr hn') (by simpa using hsz) hB.2 hh⟩
    unfold wpOp
    rw [h0']
    simp only
    unfold wpList at h
    split at h
    · rename_i hw
      rw [if_pos hw]
      rcases h with h | h
      · exact .inl (Oper.wp_mono hK h)
      · exact .inr h
    · rename_i hw
      rw [if_neg hw]
      exact hK _ _ h
/-- Segments: the quiet ones number 2k, the loud one 2k + 1; the tail's number is 99. -/
def SegW (P : Program) (ops : Array Oper) (Q : Exit → Act → World → Prop) (S : World → Prop) (F : Act → World → Prop) (L : List Oper) (m : List Nat) : Nat → Nat → Act → World → Prop
  | 0, k, a, w => wpQuiet P ops S (fun a' => F a' w) (pk (2 * k) L m) a
  | c + 1, k, a, w => wpQuiet P ops S (fun a' => wpList P ops (fun e a'' w' => (e = .normal ∧ S w' ∧ SegW P ops Q S F L m c (k + 1) a'' w') ∨ (e ≠ .normal ∧ Q e a'' w')) (pk (2 * k + 1) L m) a' w) (pk (2 * k) L m) a
def schedB (ops : Array Oper) (m : List Nat) : Nat → Nat → Array Bool → Bool
  | 0, k, listed => quietsBL ops (ix (2 * k) m 0) listed && chainB ops (ix 99 m 0) (setAll listed (ix (2 * k) m 0))
  | c + 1, k, listed => quietsBL ops (ix (2 * k) m 0) listed && (match ix (2 * k + 1) m 0 with
    | [i] => Region.ready .any ops (setAll listed (ix (2 * k) m 0)) == [i] && schedB ops m c (k + 1) ((setAll listed (ix (2 * k) m 0)).setIfInBounds i true)
    | _ => false)
def lenS (m : List Nat) : Nat → Nat → Nat
  | 0, k => (ix 99 m 0).length + (ix (2 * k) m 0).length
  | c + 1, k => lenS m c (k + 1) + 1 + (ix (2 * k) m 0).length
theorem setAll_size : ∀ (is : List Nat) (listed : Array Bool), (setAll listed is).size = listed.size
  | [], _ => rfl
  | i :: is, listed => by rw [setAll, setAll_size is]; simp
/-- Each below n0 is waited for by one up to n0. -/
def coverN (L : List Oper) (n0 : Nat) : Bool := Nat.ble L.length n0 || (List.range n0).all fun j => (List.range (n0 + 1)).any fun k => Nat.blt j k && ((L[k]?).map fun o => o.after.any fun e => Region.binds .any e && e.on == j).getD false
theorem cover_waits {L : List Oper} {n0 : Nat} (hc : coverN L n0 = true) {i : Nat} (hi : i < n0) : Waits L n0 i := by
  refine ⟨by omega, fun listed hsz hcl hor => ?_⟩
  unfold coverN at hc
  rcases Bool.or_eq_true _ _ ▸ hc with h1 | h1
  · have h1 : L.length ≤ n0 := by simpa using h1
    rcases hor with h | h
    · obtain ⟨_, o, ho, _⟩ := mem_ready.1 h
      rw [List.getElem?_toArray, List.getElem?_eq_none h1] at ho; cases ho
    · rw [Array.getD_eq_getD_getElem?, Array.getElem?_eq_none (by omega)] at h; cases h
  · have key : ∀ m j, j + m = n0 → 0 < m → listed.getD j false = true := fun m => by
      induction m using Nat.strongRecOn with
      | _ m ih =>
        intro j hj hm
        have h2 := List.all_eq_true.1 h1 j (by simp; omega)
        obtain ⟨k, hk, h2⟩ := List.any_eq_true.1 h2
        obtain ⟨hjk, h2⟩ := Bool.and_eq_true_iff.1 h2
        have hjk : j < k := by simpa using hjk
        have hkn : k < n0 + 1 := by simpa using hk
        cases hLk : L[k]? with
        | none => rw [hLk] at h2; cases h2
        | some o =>
          rw [hLk, Option.map_some, Option.getD_some, Array.any_eq_true'] at h2
          obtain ⟨e, he, h3⟩ := h2
          obtain ⟨hb, hon⟩ := Bool.and_eq_true_iff.1 h3
          have hon := eq_of_beq hon
          by_cases hkn2 : k = n0
          · subst hkn2
            rcases hor with h | h
            · obtain ⟨_, o', ho', hall⟩ := mem_ready.1 h
              rw [List.getElem?_toArray, hLk] at ho'
              cases ho'
              have := hall e he hb
              rw [hon] at this; exact this
            · have := hcl k o hLk h e he hb
              rw [hon] at this; exact this
          · have hl := ih (n0 - k) (by omega) k (by omega) (by omega)
            have := hcl k o hLk hl e he hb
            rw [hon] at this; exact this
    exact key (n0 - i) i (by omega) (by omega)
/-- The indexes of quiet ones lie below n0. -/
def belowB (m : List Nat) (n0 c : Nat) : Bool := (List.range (c + 1)).all fun k => (ix (2 * k) m 0).all fun i => Nat.blt i n0
def headB (m : List Nat) (n0 : Nat) : Bool := match ix 99 m 0 with
  | i :: _ => i == n0
  | [] => true
theorem below_waits {L : List Oper} {m : List Nat} {n0 c0 k : Nat} (hcn : coverN L n0 = true) (hb : belowB m n0 c0 = true) (hk : k ≤ c0) : ∀ i ∈ ix (2 * k) m 0, Waits L n0 i := fun i hi => by
  have h1 := List.all_eq_true.1 hb k (by simp; omega)
  have h2 := List.all_eq_true.1 h1 i hi
  exact cover_waits hcn (by simpa using h2)
theorem segs_T {L : List Oper} {m : List Nat} (hml : m.length = L.length) (hs : Region.noSelect L.toArray = true) (hQ : ∀ c d v a w, Q (.panic c) (a.put d v) w → Q (.panic c) a w) {c0 : Nat} (hcn : coverN L n0 = true) (hb : belowB m n0 c0 = true) (htl : ∀ i, (ix 99 m 0).head? = some i → i = n0) : ∀ (c k : Nat) (hck : c + k = c0) (listed : Array Bool) (a : Act) (w : World), S w → ClosedL L listed → listed.size = L.length → schedB L.toArray m c k listed = true →
      SegW P L.toArray Q S (fun a w => wpList P L.toArray Q (pk 99 L m) a w) L m c k a w → wpAnyT P L.toArray Q S n0 (lenS m c k) listed a w
  | 0, k, hck, listed, a, w, hS, hcl, hsz, hB, h => by
    have hcov := below_waits hcn hb (k := k) (by omega)
    simp only [schedB, Bool.and_eq_true] at hB
    have hpk := fun k => picks_ix L k L m 0 hml (fun q _ => by rw [Nat.zero_add])
    exact quiets_T hs hQ hS (hpk (2 * k)) hcov _ listed a hsz hcl hB.1 h fun a' ha' _ => tail_T (hpk 99) _ a' w (fun i hi => .inl (htl i hi)) (by rw [setAll_size]; exact hsz) hB.2 ha'
  | c + 1, k, hck, listed, a, w, hS, hcl, hsz, hB, h => by
    have hcov := below_waits hcn hb (k := k) (by omega)
    simp only [schedB, Bool.and_eq_true] at hB
    obtain ⟨hB1, hB2⟩ := hB
    have hpk := fun k => picks_ix L k L m 0 hml (fun q _ => by rw [Nat.zero_add])
    have hp1 := hpk (2 * k + 1)
    refine quiets_T hs hQ hS (hpk (2 * k)) hcov (lenS m c (k + 1) + 1) listed a hsz hcl hB1 h fun a' ha' hcl' => ?_
    generalize hix : ix (2 * k + 1) m 0 = I at hB2 hp1
    generalize hpx : pk (2 * k + 1) L m = O at hp1 ha'
    cases hp1 with
    | nil => simp at hB2
    | cons h0 t =>
      rename_i i o is os
      cases t with
      | cons => simp at hB2
      | nil =>
        simp only [Bool.and_eq_true, beq_iff_eq] at hB2
        refine wpAnyT_one hB2.1 ?_
        have hstep := wpOp_plain (P := P) (L := L) (Q := Q) (K := fun a' w' => S w' ∧ SegW P L.toArray Q S (fun a w => wpList P L.toArray Q (pk 99 L m) a w) L m c (k + 1) a' w') h0 ha'
        exact wpOp_mono' (fun a'' w'' hh => ⟨fun _ => hh.1, segs_T hml hs hQ hcn hb htl c (k + 1) (by omega) _ a'' w'' hh.1 (hcl'.step (by rw [hB2.1]; simp)) (by simpa [setAll_size] using hsz) hB2.2 hh.2⟩) hstep
end
/-- A region that draws its order, by segments. -/
theorem wp_region_seg {P : Program} {id : Nat} {Q : Exit → Act → World → Prop} {a : Act} {w : World} {L : List Oper} (m : List Nat) (c n0 : Nat) (bs : List Nat) (hm : P.follows .mixedOrders = true) (hs : Region.noSelect L.toArray = true) (hml : m.length = L.length)
    (hcn : coverN L n0 = true) (hb : belowB m n0 c = true) (hh : headB m n0 = true) (hle : lenS m c 0 = L.length)
    (hq : schedB L.toArray m c 0 (Array.replicate L.length false) = true)
    (hQ : ∀ c (d : Nat) v a w, Q (.panic c) (a.put (some d) v) w → Q (.panic c) a w)
    (h : SegW P L.toArray Q (fun w' => ∃ i : KB w bs, w' = i.v) (fun a w => wpList P L.toArray Q (pk 99 L m) a w) L m c 0 a w.drew) : (Code.region id L.toArray true).wp P Q a w := by
  refine wp_region_any hm ?_
  have hS : (fun w' => ∃ i : KB w bs, w' = i.v) w.drew := ⟨⟨w.drew, fun _ _ => rfl⟩, rfl⟩
  have h1 := segs_T (n0 := n0) hml hs (fun c d v a w hh => by cases d with | none => exact hh | some d => exact hQ c d v a w hh) hcn hb (fun i hi => by
      unfold headB at hh
      cases hx : ix 99 m 0 with
      | nil => rw [hx] at hi; cases hi
      | cons j js => rw [hx] at hi hh; cases hi; simpa using hh) c 0 (by omega) (Array.replicate L.length false) a w.drew hS (fun i o _ hi => absurd hi (by rw [Array.getD_eq_getD_getElem?, Array.getElem?_replicate]; split <;> simp)) (by simp) hq h
  rw [hle] at h1
  have h2 := wpAny_of_T _ _ _ _ h1
  simpa using h2
end Go.Proofs.YtpemajghaceegaaGreatDoor
