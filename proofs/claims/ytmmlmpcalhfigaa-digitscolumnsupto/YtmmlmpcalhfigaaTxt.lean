/- What sameTexts of the statements answers: whether two lists of texts are the same. -/
import Derived.Test.YtmmlmpcalhfigaaMark
import Derived.Sort.KeysCollected
import Derived.Deep.QuietTactic
import Derived.BigQuiet
namespace Go.Proofs.Ytmmlmpcalhfigaa
open Go.RowKit Go.Maps Go.Sort
set_option linter.unusedVariables false

theorem below_drewN {B : Nat} {a w : World} (h : Below B a w) (n : Nat) : Below B a (w.drewN n) := h.trans ⟨rfl, rfl, rfl, Nat.le_refl _, fun _ _ => rfl⟩
/-- A slice value reads as these strings. -/
def StrsAt (w : World) (sl : Value) (ss : List (List UInt8)) : Prop :=
  (ss = [] ∧ ∃ a cap, sl = .slice a 0 cap ∧ (a = none → cap = 0)) ∨
  ∃ g off cap, sl = .slice (some ⟨g, off, none⟩) ss.length cap ∧ g < w.heap.size ∧ ∀ j, j < ss.length → w.cell? ⟨g, off + j, none⟩ = some (encStr (ss.getD j []))
/-- Lengths that a form reads. -/
def StrsOk (ss : List (List UInt8)) : Prop := ss.length ≤ 8796093022208 ∧ ∀ x ∈ ss, x.length ≤ maxLen

theorem StrsAt.below {B : Nat} {w w' : World} {sl : Value} {ss : List (List UInt8)} (h : StrsAt w sl ss) (hb : Below B w w') (hB : w.heap.size ≤ B) : StrsAt w' sl ss := by
  rcases h with h | ⟨g, off, cap, rfl, hg, hc⟩
  · exact .inl h
  · refine .inr ⟨g, off, cap, rfl, Nat.lt_of_lt_of_le hg hb.size, fun j hj => ?_⟩
    rw [hb.cell (p := ⟨g, off + j, none⟩) (Nat.lt_of_lt_of_le hg hB)]
    exact hc j hj

theorem ne_of_at {xs ys : List (List UInt8)} {k : Nat} (h : (xs.getD k [] == ys.getD k []) = false) : (xs == ys) = false := by
  cases he : (xs == ys) with
  | false => rfl
  | true => rw [beq_iff_eq.1 he] at h; simp at h
theorem eq_of_at {xs ys : List (List UInt8)} (hl : xs.length = ys.length) (h : ∀ j, j < xs.length → xs.getD j [] = ys.getD j []) : (xs == ys) = true := by
  rw [beq_iff_eq]
  refine List.ext_getElem hl fun j h1 h2 => ?_
  have := h j h1
  rwa [List.getD, List.getD, List.getElem?_eq_getElem h1, List.getElem?_eq_getElem h2] at this

set_option maxRecDepth 100000 in
set_option maxHeartbeats 1000000 in
theorem sameTexts_any (xs ys : List (List UInt8)) (hx : StrsOk xs) (hy : StrsOk ys) (a1 a2 : Option Addr) (c1 c2 : Nat) (w : World) (h1 : StrsAt w (.slice a1 xs.length c1) xs) (h2 : StrsAt w (.slice a2 ys.length c2) ys) :
    Calls Try.prog 16 #[.slice a1 xs.length c1, .slice a2 ys.length c2] w fun e w' => e = .returned (.bool (xs == ys)) ∧ Below w.heap.size w w' := by
  have hl1 := hx.1
  have hl2 := hy.1
  have H1 : Hid (StrsAt w (.slice a1 xs.length c1) xs) := h1
  have H2 : Hid (StrsAt w (.slice a2 ys.length c2) ys) := h2
  clear h1 h2
  by_cases hl : xs.length = ys.length
  · have hbn : ((xs.length : Int) != (ys.length : Int)) = false := by simp [hl]
    have HL : Hid (xs.length = ys.length) := hl
    rw [← hl] at H2 hbn ⊢
    clear hl hl2
    go_enter Try.func16, Try.ntmps16
    go_wp2
    go_loopw [5] (fun i wr => ∃ k : Nat, k ≤ xs.length ∧ i = .int .i64 k ∧ (∀ j, j < k → xs.getD j [] = ys.getD j []) ∧ Below w.heap.size w wr) (fun i _ => xs.length - (intOf i).toNat)
    case atStart => exact ⟨0, Nat.zero_le _, rfl, fun j hj => by omega, Below.refl _ _⟩
    case round =>
      obtain ⟨k, hk, rfl, hall, hnx⟩ := hrel
      have HA : Hid (∀ j, j < k → xs.getD j [] = ys.getD j []) := hall
      clear hall
      by_cases hlt : k < xs.length
      · rcases H1.out with ⟨h0, _⟩ | ⟨g, off, cap', hsl, hg, hcl⟩
        · rw [h0] at hlt; exact absurd hlt (by simp)
        rcases H2.out with ⟨h0, _⟩ | ⟨g', off', cap'', hsl', hg', hcl'⟩
        · have hly := HL.out; rw [h0] at hly; exact absurd (hly ▸ hlt) (by simp)
        cases hsl
        simp only [Value.slice.injEq] at hsl'
        obtain ⟨rfl, _, rfl⟩ := hsl'
        have hcx : wr.cell? ⟨g, off + k, none⟩ = some (.string ⟨(xs.getD k []).toArray⟩) := (hnx.cell (p := ⟨g, off + k, none⟩) hg).trans (hcl k hlt)
        have hcy : wr.cell? ⟨g', off' + k, none⟩ = some (.string ⟨(ys.getD k []).toArray⟩) := (hnx.cell (p := ⟨g', off' + k, none⟩) hg').trans (hcl' k (HL.out ▸ hlt))
        have HNE : Hid ((xs.getD k [] == ys.getD k []) = false → (xs == ys) = false) := ne_of_at
        clear hcl hcl'
        have hlti : (k : Int) < xs.length := by omega
        generalize hxx : xs.getD k [] = x at *
        generalize hyy : ys.getD k [] = y at *
        have HX : Hid (xs.getD k [] = x) := hxx
        have HY : Hid (ys.getD k [] = y) := hyy
        clear hxx hyy
        cases hxy : (x == y) with
        | false =>
          have hbne : (x != y) = true := by simp [bne, hxy]
          go_wp2_with fail
          go_quiet (fail)
          go_wp2
          go_ret
          exact ⟨ret_bool (HNE.out hxy).symm, below_drewN hnx _⟩
        | true =>
          have hbne : (x != y) = false := by simp [bne, hxy]
          go_wp2_with fail
          go_quiet (fail)
          go_wp2
          go_roundw
          case rel =>
            refine ⟨k + 1, by omega, by go_num, fun j hj => ?_, below_drewN hnx _⟩
            by_cases e : j = k
            · subst e; rw [HX.out, HY.out]; exact beq_iff_eq.1 hxy
            · exact HA.out j (by omega)
          case measure => simp [intOf]; omega
      · go_wp2
        go_ret
        have hkl : k = xs.length := by omega
        subst hkl
        exact ⟨ret_bool (eq_of_at HL.out HA.out).symm, hnx⟩
  · have hbn : ((xs.length : Int) != (ys.length : Int)) = true := by rw [bne_iff_ne]; omega
    have HE : Hid ((xs == ys) = false) := by
      show (xs == ys) = false
      cases he : (xs == ys) with
      | false => rfl
      | true => rw [beq_iff_eq.1 he] at hl; exact absurd rfl hl
    clear hl
    go_enter Try.func16, Try.ntmps16
    go_wp2
    go_ret
    exact ⟨ret_bool HE.out.symm, Below.refl _ _⟩
end Go.Proofs.Ytmmlmpcalhfigaa
