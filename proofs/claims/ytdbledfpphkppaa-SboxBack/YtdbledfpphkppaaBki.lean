/- SboxBack's four calls in one statement: what holds of them, whatever the order. -/
import Derived.Test.YtdbledfpphkppaaAlv
import Derived.Test.YtdbledfpphkppaaBkw
import Derived.Test.YtdbledfpphkppaaRgi
namespace Go.Proofs.Ytdbledfpphkppaa
open Go.RowKit
set_option linter.unusedVariables false

/-- A frame in which some slots were laid anew. -/
def over (a : Act) (m : Nat → Option Value) : Act := { a with tmps := a.tmps.mapIdx fun i x => (m i).getD x }
def upd (m : Nat → Option Value) (t : Nat) (v : Value) (j : Nat) : Option Value := if j = t then some v else m j
theorem over_none (a : Act) : over a (fun _ => none) = a := by
  unfold over
  cases a with
  | mk tmps defers =>
    simp only
    congr 1
    apply Array.ext_getElem?
    intro j
    rw [Array.getElem?_mapIdx]
    cases tmps[j]? <;> rfl
theorem over_put (a : Act) (m : Nat → Option Value) (t : Nat) (v : Value) : (over a m).put (some t) v = over a (upd m t v) := by
  unfold over Act.put
  cases a with
  | mk tmps defers =>
    simp only
    congr 1
    apply Array.ext_getElem?
    intro j
    rw [Array.getElem?_setIfInBounds, Array.getElem?_mapIdx, Array.getElem?_mapIdx, Array.size_mapIdx]
    by_cases h : t = j
    · subst h
      rw [if_pos rfl]
      by_cases hl : t < tmps.size
      · rw [if_pos hl, Array.getElem?_eq_getElem hl]; simp [upd]
      · rw [if_neg hl, Array.getElem?_eq_none (by omega)]; rfl
    · rw [if_neg h]
      cases tmps[j]? with
      | none => rfl
      | some x => simp [upd, Ne.symm h]
theorem over_eval {a : Act} {m : Nat → Option Value} {t : Nat} (ht : t < a.tmps.size) : (over a m).eval (.tmp t) = (m t).getD (a.eval (.tmp t)) := by
  show (over a m).tmps.getD t undef = (m t).getD (a.tmps.getD t undef)
  unfold over
  rw [Array.getD_eq_getD_getElem?, Array.getD_eq_getD_getElem?, Array.getElem?_mapIdx, Array.getElem?_eq_getElem ht]; rfl
theorem over_old {a : Act} {m : Nat → Option Value} {t : Nat} (ht : t < a.tmps.size) (hm : m t = none) : (over a m).eval (.tmp t) = a.eval (.tmp t) := by rw [over_eval ht, hm]; rfl
theorem over_new {a : Act} {m : Nat → Option Value} {t : Nat} {v : Value} (ht : t < a.tmps.size) (hm : m t = some v) : (over a m).eval (.tmp t) = v := by rw [over_eval ht, hm]; rfl

def sw (b : Bool) (m : Nat → UInt8) (i : Nat) : Int := if b then ((m i).toNat : Int) else 0
def setF (f : Nat → Bool) (i j : Nat) : Bool := if j = i then true else f j
structure In12 (f : Nat → Bool) (m : Nat → Option Value) (w wr : World) (C : Nat → Nat → UInt8) (G : Nat → Nat) : Prop where
  bel : Below wr.heap.size wr w
  sup : ∀ t, (t < 12 ∨ 15 < t) → (t < 56 ∨ 63 < t) → m t = none
  ld : ∀ k, k < 4 → f (2 * k) = true → m (56 + 2 * k) = some (.agg (colR (C k)))
  cl : ∀ k, k < 4 → f (2 * k + 1) = true → m (57 + 2 * k) = some (.agg (colR (mixS (C k) mixM)))
  al : ∀ k, k < 4 → f (8 + k) = true → m (12 + k) = some (.pointer (some ⟨G k, 0, none⟩)) ∧ wr.heap.size ≤ G k ∧ RowZ w (G k) .u8 4 22 (sw (f (12 + k)) (mixS (C k) mixM))
  ne : ∀ j k, j < 4 → k < 4 → j ≠ k → f (8 + j) = true → f (8 + k) = true → G j ≠ G k
theorem setF_ne {f : Nat → Bool} {i j : Nat} (h : j ≠ i) : setF f i j = f j := by unfold setF; rw [if_neg h]
theorem upd_ne {m : Nat → Option Value} {t j : Nat} {v : Value} (h : j ≠ t) : upd m t v j = m j := by unfold upd; rw [if_neg h]
theorem upd_eq {m : Nat → Option Value} {t : Nat} {v : Value} : upd m t v t = some v := by unfold upd; rw [if_pos rfl]
theorem In12.start (wr : World) (C : Nat → Nat → UInt8) (G : Nat → Nat) (w : World) (hb : Below wr.heap.size wr w) : In12 (fun _ => false) (fun _ => none) w wr C G := ⟨hb, fun _ _ _ => rfl, nofun, nofun, nofun, nofun⟩
theorem In12.load {f : Nat → Bool} {m : Nat → Option Value} {w wr : World} {C : Nat → Nat → UInt8} {G : Nat → Nat} (h : In12 f m w wr C G) {k : Nat} (hk : k < 4) : In12 (setF f (2 * k)) (upd m (56 + 2 * k) (.agg (colR (C k)))) w wr C G := by
  refine ⟨h.bel, fun t h1 h2 => ?_, fun j hj hf => ?_, fun j hj hf => ?_, fun j hj hf => ?_, fun i j hi hj hn hf hf' => ?_⟩
  · rw [upd_ne (by omega)]; exact h.sup t h1 h2
  · by_cases he : j = k
    · subst he; exact upd_eq
    · rw [setF_ne (by omega)] at hf; rw [upd_ne (by omega)]; exact h.ld j hj hf
  · rw [setF_ne (by omega)] at hf; rw [upd_ne (by omega)]; exact h.cl j hj hf
  · rw [setF_ne (by omega)] at hf
    rw [upd_ne (by omega), setF_ne (by omega)]; exact h.al j hj hf
  · rw [setF_ne (by omega)] at hf hf'; exact h.ne i j hi hj hn hf hf'
theorem In12.call {f : Nat → Bool} {m : Nat → Option Value} {w wr w2 : World} {C : Nat → Nat → UInt8} {G : Nat → Nat} (h : In12 f m w wr C G) {k : Nat} (hk : k < 4) (hb : Below w.heap.size w w2) : In12 (setF f (2 * k + 1)) (upd m (57 + 2 * k) (.agg (colR (mixS (C k) mixM)))) w2 wr C G := by
  refine ⟨Below.next h.bel hb, fun t h1 h2 => ?_, fun j hj hf => ?_, fun j hj hf => ?_, fun j hj hf => ?_, fun i j hi hj hn hf hf' => ?_⟩
  · rw [upd_ne (by omega)]; exact h.sup t h1 h2
  · rw [setF_ne (by omega)] at hf; rw [upd_ne (by omega)]; exact h.ld j hj hf
  · by_cases he : j = k
    · subst he; exact upd_eq
    · rw [setF_ne (by omega)] at hf; rw [upd_ne (by omega)]; exact h.cl j hj hf
  · rw [setF_ne (by omega)] at hf
    rw [upd_ne (by omega), setF_ne (by omega)]
    have := h.al j hj hf
    exact ⟨this.1, this.2.1, this.2.2.next hb⟩
  · rw [setF_ne (by omega)] at hf hf'; exact h.ne i j hi hj hn hf hf'
theorem In12.alloc {f : Nat → Bool} {m : Nat → Option Value} {w wr : World} {C : Nat → Nat → UInt8} {G : Nat → Nat} (h : In12 f m w wr C G) {k : Nat} (hk : k < 4) (hf0 : f (8 + k) = false) (hf1 : f (12 + k) = false) :
    In12 (setF f (8 + k)) (upd m (12 + k) (.pointer (some ⟨w.heap.size, 0, none⟩))) (w.alloc (.cells (rowZ .u8 4 (fun _ => 0)) (22 : TypeId))) wr C (fun j => if j = k then w.heap.size else G j) := by
  have hb : Below w.heap.size w (w.alloc (.cells (rowZ .u8 4 (fun _ => 0)) (22 : TypeId))) := (Below.refl _ _).alloc (Nat.le_refl _) _
  refine ⟨Below.next h.bel hb, fun t h1 h2 => ?_, fun j hj hf => ?_, fun j hj hf => ?_, fun j hj hf => ?_, fun i j hi hj hn hf hf' => ?_⟩
  · rw [upd_ne (by omega)]; exact h.sup t h1 h2
  · rw [setF_ne (by omega)] at hf; rw [upd_ne (by omega)]; exact h.ld j hj hf
  · rw [setF_ne (by omega)] at hf; rw [upd_ne (by omega)]; exact h.cl j hj hf
  · by_cases he : j = k
    · subst he
      rw [if_pos rfl, setF_ne (by omega), hf1]
      exact ⟨upd_eq, h.bel.size, (RowZ.new w .u8 4 22 (fun _ => 0)).congr fun i _ => rfl⟩
    · rw [setF_ne (by omega)] at hf
      rw [upd_ne (by omega), setF_ne (by omega), if_neg he]
      have := h.al j hj hf
      exact ⟨this.1, this.2.1, this.2.2.next hb⟩
  · by_cases hik : i = k
    · subst hik
      rw [setF_ne (by omega)] at hf'
      rw [if_pos rfl, if_neg (Ne.symm hn)]
      exact Nat.ne_of_gt (h.al j hj hf').2.2.lt
    · rw [setF_ne (by omega)] at hf
      rw [if_neg hik]
      by_cases hjk : j = k
      · subst hjk
        rw [if_pos rfl]
        exact Nat.ne_of_lt (h.al i hi hf).2.2.lt
      · rw [setF_ne (by omega)] at hf'
        rw [if_neg hjk]; exact h.ne i j hi hj hn hf hf'
theorem In12.store {f : Nat → Bool} {m : Nat → Option Value} {w wr : World} {C : Nat → Nat → UInt8} {G : Nat → Nat} (h : In12 f m w wr C G) {k : Nat} (hk : k < 4) (h8 : f (8 + k) = true) :
    In12 (setF f (12 + k)) m (w.setRow (G k) (colR (mixS (C k) mixM))) wr C G := by
  have hal := h.al k hk h8
  refine ⟨below_setRow h.bel hal.2.1 _, h.sup, fun j hj hf => ?_, fun j hj hf => ?_, fun j hj hf => ?_, fun i j hi hj hn hf hf' => ?_⟩
  · rw [setF_ne (by omega)] at hf; exact h.ld j hj hf
  · rw [setF_ne (by omega)] at hf; exact h.cl j hj hf
  · rw [setF_ne (by omega)] at hf
    have hj' := h.al j hj hf
    by_cases he : j = k
    · subst he
      refine ⟨hal.1, hal.2.1, ?_⟩
      have h1 := setRow_heap w (G j) _ (colR (mixS (C j) mixM)) (22 : TypeId) (0, 0) hal.2.2
      have h2 : RowZ (w.setRow (G j) (colR (mixS (C j) mixM))) (G j) .u8 4 22 (fun i => ((mixS (C j) mixM i).toNat : Int)) := h1
      refine h2.congr fun i _ => ?_
      unfold sw setF; rw [if_pos rfl, if_pos rfl]
    · rw [setF_ne (by omega)]
      refine ⟨hj'.1, hj'.2.1, ?_⟩
      exact (setRow_other _ _ _ _ (h.ne j k hj hk he hf h8)).trans hj'.2.2
  · rw [setF_ne (by omega)] at hf hf'; exact h.ne i j hi hj hn hf hf'
theorem in12_all {f : Nat → Bool} {m : Nat → Option Value} {w wr : World} {C : Nat → Nat → UInt8} {G : Nat → Nat} (h : In12 f m w wr C G) (hall : ∀ i, i < 16 → f i = true) :
    m = upd (upd (upd (upd (upd (upd (upd (upd (upd (upd (upd (upd (fun _ => none) 56 (.agg (colR (C 0)))) 57 (.agg (colR (mixS (C 0) mixM)))) 58 (.agg (colR (C 1)))) 59 (.agg (colR (mixS (C 1) mixM)))) 60 (.agg (colR (C 2)))) 61 (.agg (colR (mixS (C 2) mixM)))) 62 (.agg (colR (C 3)))) 63 (.agg (colR (mixS (C 3) mixM))))
      12 (.pointer (some ⟨G 0, 0, none⟩))) 13 (.pointer (some ⟨G 1, 0, none⟩))) 14 (.pointer (some ⟨G 2, 0, none⟩))) 15 (.pointer (some ⟨G 3, 0, none⟩)) := by
  funext t
  unfold upd
  have a0 := (h.al 0 (by omega) (hall 8 (by omega))).1
  have a1 := (h.al 1 (by omega) (hall 9 (by omega))).1
  have a2 := (h.al 2 (by omega) (hall 10 (by omega))).1
  have a3 := (h.al 3 (by omega) (hall 11 (by omega))).1
  have l0 := h.ld 0 (by omega) (hall 0 (by omega))
  have l1 := h.ld 1 (by omega) (hall 2 (by omega))
  have l2 := h.ld 2 (by omega) (hall 4 (by omega))
  have l3 := h.ld 3 (by omega) (hall 6 (by omega))
  have c0 := h.cl 0 (by omega) (hall 1 (by omega))
  have c1 := h.cl 1 (by omega) (hall 3 (by omega))
  have c2 := h.cl 2 (by omega) (hall 5 (by omega))
  have c3 := h.cl 3 (by omega) (hall 7 (by omega))
  by_cases e15 : t = 15
  · subst e15; exact a3
  by_cases e14 : t = 14
  · subst e14; exact a2
  by_cases e13 : t = 13
  · subst e13; exact a1
  by_cases e12 : t = 12
  · subst e12; exact a0
  by_cases e63 : t = 63
  · subst e63; exact c3
  by_cases e62 : t = 62
  · subst e62; exact l3
  by_cases e61 : t = 61
  · subst e61; exact c2
  by_cases e60 : t = 60
  · subst e60; exact l2
  by_cases e59 : t = 59
  · subst e59; exact c1
  by_cases e58 : t = 58
  · subst e58; exact l1
  by_cases e57 : t = 57
  · subst e57; exact c0
  by_cases e56 : t = 56
  · subst e56; exact l0
  rw [if_neg e15, if_neg e14, if_neg e13, if_neg e12, if_neg e63, if_neg e62, if_neg e61, if_neg e60, if_neg e59, if_neg e58, if_neg e57, if_neg e56]
  exact h.sup t (by omega) (by omega)
theorem ex_set {f : Nat → Bool} {i : Nat} (h : ∀ k, k < 4 → f (8 + k) = false → f (12 + k) = false) (hi : ∀ k, k < 4 → i = 12 + k → f (8 + k) = true) : ∀ k, k < 4 → setF f i (8 + k) = false → setF f i (12 + k) = false := fun k hk h8 => by
  have h8' : f (8 + k) = false := by
    unfold setF at h8; split at h8
    · cases h8
    · exact h8
  by_cases he : 12 + k = i
  · have := hi k hk he.symm; rw [h8'] at this; cases this
  · rw [setF_ne he]; exact h k hk h8'
end Go.Proofs.Ytdbledfpphkppaa
