/- Regions that draw their order, by segments, where behind the last segment two loud ones may come in either order, ahead of the tail. -/
import Derived.Test.YtpemajghaceegaaGreatDoorSeg
namespace Go.Proofs.YtpemajghaceegaaGreatDoor
open Go.RowKit
set_option linter.unusedVariables false

section
variable {P : Program} {Q : Exit → Act → World → Prop} {S : World → Prop} {n0 : Nat}
def schedF (ops : Array Oper) (m : List Nat) (fin : Array Bool → Bool) : Nat → Nat → Array Bool → Bool
  | 0, k, listed => quietsBL ops (ix (2 * k) m 0) listed && fin (setAll listed (ix (2 * k) m 0))
  | c + 1, k, listed => quietsBL ops (ix (2 * k) m 0) listed && (match ix (2 * k + 1) m 0 with
    | [i] => Region.ready .any ops (setAll listed (ix (2 * k) m 0)) == [i] && schedF ops m fin c (k + 1) ((setAll listed (ix (2 * k) m 0)).setIfInBounds i true)
    | _ => false)
def lenF (m : List Nat) (nF : Nat) : Nat → Nat → Nat
  | 0, k => nF + (ix (2 * k) m 0).length
  | c + 1, k => lenF m nF c (k + 1) + 1 + (ix (2 * k) m 0).length
theorem segs_F {L : List Oper} {m : List Nat} {F : Act → World → Prop} {nF : Nat} {fin : Array Bool → Bool} (hF : ∀ (listed : Array Bool) (a : Act) (w : World), S w → ClosedL L listed → listed.size = L.length → fin listed = true → F a w → wpAnyT P L.toArray Q S n0 nF listed a w)
    (hml : m.length = L.length) (hs : Region.noSelect L.toArray = true) (hQ : ∀ c d v a w, Q (.panic c) (a.put d v) w → Q (.panic c) a w) {c0 : Nat} (hcn : coverN L n0 = true) (hb : belowB m n0 c0 = true) : ∀ (c k : Nat) (hck : c + k = c0) (listed : Array Bool) (a : Act) (w : World), S w → ClosedL L listed → listed.size = L.length → schedF L.toArray m fin c k listed = true →
      SegW P L.toArray Q S F L m c k a w → wpAnyT P L.toArray Q S n0 (lenF m nF c k) listed a w
  | 0, k, hck, listed, a, w, hS, hcl, hsz, hB, h => by
    have hcov := below_waits hcn hb (k := k) (by omega)
    simp only [schedF, Bool.and_eq_true] at hB
    have hpk := fun k => picks_ix L k L m 0 hml (fun q _ => by rw [Nat.zero_add])
    exact quiets_T hs hQ hS (hpk (2 * k)) hcov _ listed a hsz hcl hB.1 h fun a' ha' hcl' => hF _ a' w hS hcl' (by rw [setAll_size]; exact hsz) hB.2 ha'
  | c + 1, k, hck, listed, a, w, hS, hcl, hsz, hB, h => by
    have hcov := below_waits hcn hb (k := k) (by omega)
    simp only [schedF, Bool.and_eq_true] at hB
    obtain ⟨hB1, hB2⟩ := hB
    have hpk := fun k => picks_ix L k L m 0 hml (fun q _ => by rw [Nat.zero_add])
    have hp1 := hpk (2 * k + 1)
    refine quiets_T hs hQ hS (hpk (2 * k)) hcov (lenF m nF c (k + 1) + 1) listed a hsz hcl hB1 h fun a' ha' hcl' => ?_
    generalize hix : ix (2 * k + 1) m 0 = I at hB2 hp1
    generalize hpx : pk (2 * k + 1) L m = O at hp1 ha'
    cases hp1 with
    | nil => simp at hB2
    | cons h0 t =>
      rename_i i o is os
      cases t with
      | cons => simp at hB2
      | nil =>
        simp only [Bool.and_eq_true, beq_iff_eq] at hB2
        refine wpAnyT_one hB2.1 ?_
        have hstep := wpOp_plain (P := P) (L := L) (Q := Q) (K := fun a' w' => S w' ∧ SegW P L.toArray Q S F L m c (k + 1) a' w') h0 ha'
        exact wpOp_mono' (fun a'' w'' hh => ⟨fun _ => hh.1, segs_F hF hml hs hQ hcn hb c (k + 1) (by omega) _ a'' w'' hh.1 (hcl'.step (by rw [hB2.1]; simp)) (by simpa [setAll_size] using hsz) hB2.2 hh.2⟩) hstep
/-- Two in either order, and then the tail. -/
def TwoW (P : Program) (ops : Array Oper) (Q : Exit → Act → World → Prop) (S : World → Prop) (x y tl : List Oper) (a : Act) (w : World) : Prop :=
  wpList P ops (fun e a1 w1 => (e = .normal ∧ S w1 ∧ wpList P ops (fun e a2 w2 => (e = .normal ∧ S w2 ∧ wpList P ops Q tl a2 w2) ∨ (e ≠ .normal ∧ Q e a2 w2)) y a1 w1) ∨ (e ≠ .normal ∧ Q e a1 w1)) x a w
def forkB (ops : Array Oper) (i j : Nat) (tl : List Nat) (listed : Array Bool) : Bool :=
  Region.ready .any ops listed == [i, j] && Region.ready .any ops (listed.setIfInBounds i true) == [j] && Region.ready .any ops (listed.setIfInBounds j true) == [i] && chainB ops tl ((listed.setIfInBounds i true).setIfInBounds j true)
theorem fork_T {L : List Oper} {i j : Nat} {oi oj : Oper} {tl : List Nat} {os : List Oper} (hij : i ≠ j) (hi : L[i]? = some oi) (hj : L[j]? = some oj) (hp : Picks L tl os) (htl : ∀ q, tl.head? = some q → q = n0) (listed : Array Bool) (a : Act) (w : World) (hsz : listed.size = L.length) (hB : forkB L.toArray i j tl listed = true)
    (h1 : TwoW P L.toArray Q S [oi] [oj] os a w) (h2 : TwoW P L.toArray Q S [oj] [oi] os a w) : wpAnyT P L.toArray Q S n0 (tl.length + 2) listed a w := by
  simp only [forkB, Bool.and_eq_true, beq_iff_eq] at hB
  obtain ⟨⟨⟨r0, r1⟩, r2⟩, r3⟩ := hB
  have key : ∀ (x y : Nat) (ox oy : Oper), L[x]? = some ox → L[y]? = some oy → Region.ready .any L.toArray (listed.setIfInBounds x true) = [y] → chainB L.toArray tl ((listed.setIfInBounds x true).setIfInBounds y true) = true → TwoW P L.toArray Q S [ox] [oy] os a w →
      wpOp P L.toArray Q x (fun a' w' => ((listed.setIfInBounds x true).getD n0 false = false → S w') ∧ wpAnyT P L.toArray Q S n0 (tl.length + 1) (listed.setIfInBounds x true) a' w') a w := by
    intro x y ox oy hx hy hr hc h
    have hstep := wpOp_plain (P := P) (L := L) (Q := Q) (K := fun a1 w1 => S w1 ∧ wpList P L.toArray (fun e a2 w2 => (e = .normal ∧ S w2 ∧ wpList P L.toArray Q os a2 w2) ∨ (e ≠ .normal ∧ Q e a2 w2)) [oy] a1 w1) hx h
    refine wpOp_mono' (fun a1 w1 hh => ⟨fun _ => hh.1, wpAnyT_one hr ?_⟩) hstep
    have hstep2 := wpOp_plain (P := P) (L := L) (Q := Q) (K := fun a2 w2 => S w2 ∧ wpList P L.toArray Q os a2 w2) hy hh.2
    exact wpOp_mono' (fun a2 w2 hh2 => ⟨fun _ => hh2.1, tail_T hp _ a2 w2 (fun q hq => .inl (htl q hq)) (by simpa using hsz) hc hh2.2⟩) hstep2
  refine ⟨fun h0 => (by rw [r0] at h0; cases h0), fun r hr => ?_⟩
  rw [r0] at hr
  simp only [List.mem_cons, List.not_mem_nil, or_false] at hr
  rcases hr with rfl | rfl
  · exact key r j oi oj hi hj r1 r3 h1
  · exact key r i oj oi hj hi r2 (by rw [Array.setIfInBounds_comm _ _ (Ne.symm hij)]; exact r3) h2
end
/-- A region that draws its order, by segments, with two at the end in either order. -/
theorem wp_region_fork {P : Program} {id : Nat} {Q : Exit → Act → World → Prop} {a : Act} {w : World} {L : List Oper} (m : List Nat) (c n0 i j : Nat) (oi oj : Oper) (bs : List Nat) (hm : P.follows .mixedOrders = true) (hs : Region.noSelect L.toArray = true) (hml : m.length = L.length)
    (hcn : coverN L n0 = true) (hb : belowB m n0 c = true) (hh : headB m n0 = true) (hij : Nat.beq i j = false) (hi : L[i]? = some oi) (hj : L[j]? = some oj) (hle : lenF m ((ix 99 m 0).length + 2) c 0 = L.length)
    (hq : schedF L.toArray m (forkB L.toArray i j (ix 99 m 0)) c 0 (Array.replicate L.length false) = true)
    (hQ : ∀ c (d : Nat) v a w, Q (.panic c) (a.put (some d) v) w → Q (.panic c) a w)
    (h : SegW P L.toArray Q (fun w' => ∃ i : KB w bs, w' = i.v) (fun a w' => TwoW P L.toArray Q (fun w' => ∃ i : KB w bs, w' = i.v) [oi] [oj] (pk 99 L m) a w' ∧ TwoW P L.toArray Q (fun w' => ∃ i : KB w bs, w' = i.v) [oj] [oi] (pk 99 L m) a w') L m c 0 a w.drew) : (Code.region id L.toArray true).wp P Q a w := by
  refine wp_region_any hm ?_
  have hS : (fun w' => ∃ i : KB w bs, w' = i.v) w.drew := ⟨⟨w.drew, fun _ _ => rfl⟩, rfl⟩
  have hpk := picks_ix L 99 L m 0 hml (fun q _ => by rw [Nat.zero_add])
  have htl : ∀ q, (ix 99 m 0).head? = some q → q = n0 := fun q hq => by
    unfold headB at hh
    cases hx : ix 99 m 0 with
    | nil => rw [hx] at hq; cases hq
    | cons z zs => rw [hx] at hq hh; cases hq; simpa using hh
  have h1 := segs_F (n0 := n0) (fin := forkB L.toArray i j (ix 99 m 0)) (nF := (ix 99 m 0).length + 2) (fun listed a w' hSw _ hsz hf hFa => fork_T (fun he => by rw [he] at hij; simp at hij) hi hj hpk htl listed a w' hsz hf hFa.1 hFa.2) hml hs (fun c d v a w hh => by cases d with | none => exact hh | some d => exact hQ c d v a w hh) hcn hb c 0 (by omega) (Array.replicate L.length false) a w.drew hS (fun i o _ hi => absurd hi (by rw [Array.getD_eq_getD_getElem?, Array.getElem?_replicate]; split <;> simp)) (by simp) hq h
  rw [hle] at h1
  have h2 := wpAny_of_T _ _ _ _ h1
  simpa using h2
end Go.Proofs.YtpemajghaceegaaGreatDoor
