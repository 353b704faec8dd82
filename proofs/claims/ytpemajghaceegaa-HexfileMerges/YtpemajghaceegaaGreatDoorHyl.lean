/- Plain facts: joined segments are the runs of the bytes that are said. -/
import Derived.Test.YtpemajghaceegaaGreatDoorHyj
namespace Go.Proofs.YtpemajghaceegaaGreatDoor
set_option linter.unusedVariables false

def endP (x : Pb) : Int := x.1 + x.2.length
def covP (x : Pb) (p : Int) : Bool := decide (x.1 ≤ p) && decide (p < endP x)
def byP (x : Pb) (p : Int) : UInt8 := x.2.getD (p - x.1).toNat 0
/- what is said of a place -/
def mpP (L : List Pb) (p : Int) : Option UInt8 := (L.find? (covP · p)).map (byP · p)
/- the runs of what is said below a place -/
def runsTo (f : Int → Option UInt8) : Nat → List Pb
  | 0 => []
  | p + 1 => match f p with
    | none => runsTo f p
    | some b => if p = 0 ∨ f ((p : Int) - 1) = none then runsTo f p ++ [((p : Int), [b])] else addL (runsTo f p) [b]
/- no two have a place in common -/
def apartP (x y : Pb) : Prop := ∀ p, ¬ (covP x p = true ∧ covP y p = true)
theorem cov_iff {x : Pb} {p : Int} : covP x p = true ↔ x.1 ≤ p ∧ p < endP x := by unfold covP; simp
theorem apart_symm {x y : Pb} (h : apartP x y) : apartP y x := fun p hp => h p ⟨hp.2, hp.1⟩
theorem mp_none {L : List Pb} {p : Int} (h : ∀ x ∈ L, covP x p = false) : mpP L p = none := by
  unfold mpP
  rw [List.find?_eq_none.2 (fun x hx => by rw [h x hx]; simp)]; rfl
theorem mp_some {L : List Pb} (hd : L.Pairwise apartP) {x : Pb} (hx : x ∈ L) {p : Int} (hc : covP x p = true) : mpP L p = some (byP x p) := by
  unfold mpP
  have : ∀ L : List Pb, L.Pairwise apartP → x ∈ L → L.find? (covP · p) = some x := by
    intro L
    induction L with
    | nil => intro _ h; cases h
    | cons y r ih =>
      intro hd hx
      rw [List.pairwise_cons] at hd
      rcases List.mem_cons.1 hx with rfl | hx
      · rw [List.find?_cons_of_pos (p := (covP · p)) hc]
      · by_cases hy : covP y p = true
        · exact absurd ⟨hy, hc⟩ (hd.1 x hx p)
        · rw [List.find?_cons_of_neg (p := (covP · p)) hy]; exact ih hd.2 hx
  rw [this L hd hx]; rfl
theorem mp_perm {L M : List Pb} (h : L.Perm M) (hd : L.Pairwise apartP) (p : Int) : mpP L p = mpP M p := by
  have hd' : M.Pairwise apartP := h.pairwise hd (fun {x y} => apart_symm)
  by_cases hc : ∃ x ∈ L, covP x p = true
  · obtain ⟨x, hx, hc⟩ := hc
    rw [mp_some hd hx hc, mp_some hd' (h.mem_iff.1 hx) hc]
  · have h1 : ∀ x ∈ L, covP x p = false := fun x hx => by cases hv : covP x p with | false => rfl | true => exact absurd ⟨x, hx, hv⟩ hc
    rw [mp_none h1, mp_none (fun x hx => h1 x (h.mem_iff.2 hx))]
theorem runs_congr {f g : Int → Option UInt8} : ∀ n : Nat, (∀ p : Nat, p < n → f p = g p) → runsTo f n = runsTo g n
  | 0, _ => rfl
  | n + 1, h => by
    have e1 := h n (by omega)
    have e2 : n ≠ 0 → f ((n : Int) - 1) = g ((n : Int) - 1) := fun hn => by
      have := h (n - 1) (by omega)
      rwa [show ((n - 1 : Nat) : Int) = (n : Int) - 1 by omega] at this
    have ih := runs_congr n (fun p hp => h p (by omega))
    unfold runsTo
    rw [e1, ih]
    cases g n with
    | none => rfl
    | some b =>
      by_cases hn : n = 0
      · simp only [hn, true_or, if_true]
      · simp only [e2 hn]
theorem runs_gap {f : Int → Option UInt8} {a : Nat} : ∀ b : Nat, a ≤ b → (∀ p : Nat, a ≤ p → p < b → f p = none) → runsTo f b = runsTo f a
  | 0, h, _ => by rw [Nat.le_zero.1 h]
  | b + 1, h, hn => by
    by_cases he : a = b + 1
    · rw [he]
    · have := runs_gap b (by omega) (fun p h1 h2 => hn p h1 (by omega))
      rw [runsTo, hn b (by omega) (by omega)]
      exact this
/- a run's bytes, one behind the other -/
theorem runs_new {f : Int → Option UInt8} {a : Nat} {l : List UInt8} (hl : 0 < l.length) (hb : a = 0 ∨ f ((a : Int) - 1) = none) (hf : ∀ k, k < l.length → f ((a + k : Nat) : Int) = some (l.getD k 0)) :
    ∀ k, k < l.length → runsTo f (a + k + 1) = runsTo f a ++ [((a : Int), l.take (k + 1))]
  | 0, h => by
    have h0 := hf 0 h
    rw [Nat.add_zero] at h0 ⊢
    unfold runsTo
    rw [h0]
    simp only [if_pos hb]
    cases l with
    | nil => simp at h
    | cons c t => cases a <;> simp [runsTo]
  | k + 1, h => by
    have ih := runs_new hl hb hf k (by omega)
    have h1 := hf (k + 1) h
    have h0 := hf k (by omega)
    rw [show a + (k + 1) + 1 = (a + k + 1) + 1 by omega]
    rw [runsTo]
    rw [show ((a + (k + 1) : Nat) : Int) = ((a + k + 1 : Nat) : Int) by omega] at h1
    rw [h1]
    dsimp only
    rw [if_neg (by
      rintro (h2 | h2)
      · omega
      · rw [show ((a + k + 1 : Nat) : Int) - 1 = ((a + k : Nat) : Int) by omega, h0] at h2; cases h2)]
    rw [ih, addL_snoc]
    congr 3
    rw [List.take_add_one (i := k + 1), List.getElem?_eq_getElem h, List.getD_eq_getElem?_getD, List.getElem?_eq_getElem h]; rfl
theorem runs_more {f : Int → Option UInt8} {a : Nat} {l : List UInt8} {R : List Pb} {m : Pb} (ha : 0 < a) (hr : runsTo f a = R ++ [m]) (hb : f ((a : Int) - 1) ≠ none) (hf : ∀ k, k < l.length → f ((a + k : Nat) : Int) = some (l.getD k 0)) :
    ∀ k, k ≤ l.length → runsTo f (a + k) = R ++ [(m.1, m.2 ++ l.take k)]
  | 0, _ => by rw [Nat.add_zero, hr, List.take_zero, List.append_nil]
  | k + 1, h => by
    have ih := runs_more ha hr hb hf k (by omega)
    have h1 := hf k (by omega)
    rw [← Nat.add_assoc, runsTo, h1]
    dsimp only
    rw [if_neg (by
      rintro (h2 | h2)
      · omega
      · by_cases hk : k = 0
        · subst hk; rw [Nat.add_zero] at h2; exact hb h2
        · have h0 := hf (k - 1) (by omega)
          rw [show ((a + k : Nat) : Int) - 1 = ((a + (k - 1) : Nat) : Int) by omega, h0] at h2; cases h2)]
    rw [ih, addL_snoc, List.append_assoc]
    congr 4
    rw [List.take_add_one, List.getElem?_eq_getElem (show k < l.length by omega), List.getD_eq_getElem?_getD, List.getElem?_eq_getElem (show k < l.length by omega)]; rfl
end Go.Proofs.YtpemajghaceegaaGreatDoor
