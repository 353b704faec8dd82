/- What Right of package shelf answers, for every note. -/
import Derived.Test.YtnjjpahpaeblfabLeans
namespace Go.Proofs.Ytnjjpahpaeblfab
open Go.RowKit Go.Maps
set_option linter.unusedVariables false

theorem ret_int {k : IntKind} {a b : Int} (h : a = b) : Ending.returned (.int k a) = .returned (.int k b) := by rw [h]

/-- A note as a value. -/
def noteV (n : Nt) (sl : Value) : Value := .agg #[.string ⟨n.name.toArray⟩, .int .i64 n.words, .int .u32 n.sum, sl]
/-- Numbers and lengths that a form reads. -/
structure NtOk (n : Nt) : Prop where
  name : n.name.length ≤ maxLen
  w0 : -9223372036854775808 ≤ n.words
  w1 : n.words ≤ 9223372036854775807
  s0 : 0 ≤ n.sum
  s1 : n.sum ≤ 4294967295
  leans : StrsOk n.leans

theorem StrsAt.shape {w : World} {sl : Value} {ss : List (List UInt8)} (h : StrsAt w sl ss) : ∃ a cap, sl = .slice a ss.length cap := by
  rcases h with ⟨rfl, a, cap, rfl, _⟩ | ⟨g, off, cap, rfl, _, _⟩
  · exact ⟨a, cap, rfl⟩
  · exact ⟨_, cap, rfl⟩

theorem isName_at (l : List UInt8) (b : Bool) (hb : nmB l = b) (w : World) (hl : l.length ≤ maxLen) : Calls Try.prog 24 #[.string ⟨l.toArray⟩] w fun e w' => e = .returned (.bool b) ∧ w' = w := hb ▸ isName_any l w hl

set_option maxRecDepth 100000 in
set_option maxHeartbeats 1000000 in
theorem right_any (n : Nt) (hn : NtOk n) (sl : Value) (w : World) (hs : StrsAt w sl n.leans) : Calls Try.prog 16 #[noteV n sl] w fun e w' => e = .returned (.int .i64 (rightI n)) ∧ Below w.heap.size w w' := by
  obtain ⟨a, cap, hsh⟩ := hs.shape
  have hs1 : ∀ o, StrsAt (w.alloc o) sl n.leans := fun o => hs.below ((Below.refl _ _).alloc (Nat.le_refl _) o) (Nat.le_refl _)
  obtain ⟨nm, wd, sm, ls⟩ := n
  obtain ⟨h1, h2, h3, h4, h5, h6⟩ := hn
  simp only at h1 h2 h3 h4 h5 h6 hs1 hsh
  subst hsh
  have HS : Hid (∀ o, StrsAt (w.alloc o) (.slice a ls.length cap) ls) := hs1
  clear hs1 hs
  have hl6 := h6.1
  have hbw : ∀ o, Below w.heap.size w (w.alloc o) := fun o => (Below.refl _ _).alloc (Nat.le_refl _) o
  have HB : Hid (∀ o, Below w.heap.size w (w.alloc o)) := hbw
  clear hbw
  unfold noteV
  simp only
  cases hN : nmB nm with
  | false =>
    have HR : Hid (rightI ⟨nm, wd, sm, ls⟩ = 1) := by show rightI _ = 1; simp [rightI, hN]
    go_enter Try.func16, Try.ntmps16
    go_wp2_with (go_at_call 24; refine (isName_at nm false hN _ h1).mono ?_; rintro e w' ⟨rfl, rfl⟩)
    go_ret
    exact ⟨ret_int HR.out.symm, HB.out _⟩
  | true =>
    by_cases hw0 : wd < 0
    · have HR : Hid (rightI ⟨nm, wd, sm, ls⟩ = 1) := by show rightI _ = 1; simp [rightI, hN, hw0]
      go_enter Try.func16, Try.ntmps16
      go_wp2_with (go_at_call 24; refine (isName_at nm true hN _ h1).mono ?_; rintro e w' ⟨rfl, rfl⟩)
      go_ret
      exact ⟨ret_int HR.out.symm, HB.out _⟩
    by_cases hw1 : 4096 < wd
    · have HR : Hid (rightI ⟨nm, wd, sm, ls⟩ = 1) := by show rightI _ = 1; simp [rightI, hN, hw1]
      go_enter Try.func16, Try.ntmps16
      go_wp2_with (go_at_call 24; refine (isName_at nm true hN _ h1).mono ?_; rintro e w' ⟨rfl, rfl⟩)
      go_ret
      exact ⟨ret_int HR.out.symm, HB.out _⟩
    cases hR : rlB nm ls with
    | false =>
      have HR : Hid (rightI ⟨nm, wd, sm, ls⟩ = 1) := by show rightI _ = 1; simp [rightI, hR]
      go_enter Try.func16, Try.ntmps16
      go_wp2_with (first
        | (go_at_call 24; refine (isName_at nm true hN _ h1).mono ?_; rintro e w' ⟨rfl, rfl⟩)
        | (go_at_call 25; refine (rightLeans_any nm ls h6 h1 _ _ (HS.out _)).mono ?_; rintro e w2 ⟨rfl, hb2⟩))
      go_ret
      exact ⟨ret_int HR.out.symm, (HB.out _).trans (hb2.mono (by simp))⟩
    | true =>
      by_cases h8 : 8 < ls.length
      · have HR : Hid (rightI ⟨nm, wd, sm, ls⟩ = 3) := by show rightI _ = 3; simp [rightI, hR, hN, hw0, hw1, h8]
        have h8' : (8 : Int) < ls.length := by omega
        go_enter Try.func16, Try.ntmps16
        go_wp2_with (first
          | (go_at_call 24; refine (isName_at nm true hN _ h1).mono ?_; rintro e w' ⟨rfl, rfl⟩)
          | (go_at_call 25; refine (rightLeans_any nm ls h6 h1 _ _ (HS.out _)).mono ?_; rintro e w2 ⟨rfl, hb2⟩; have hc := fun o => hb2.cell (p := ⟨w.heap.size, o, none⟩) (by simp)))
        go_ret
        exact ⟨ret_int HR.out.symm, (HB.out _).trans (hb2.mono (by simp))⟩
      · have HR : Hid (rightI ⟨nm, wd, sm, ls⟩ = 0) := by show rightI _ = 0; simp [rightI, hR, hN, hw0, hw1, h8]
        have h8' : ¬ (8 : Int) < ls.length := by omega
        go_enter Try.func16, Try.ntmps16
        go_wp2_with (first
          | (go_at_call 24; refine (isName_at nm true hN _ h1).mono ?_; rintro e w' ⟨rfl, rfl⟩)
          | (go_at_call 25; refine (rightLeans_any nm ls h6 h1 _ _ (HS.out _)).mono ?_; rintro e w2 ⟨rfl, hb2⟩; have hc := fun o => hb2.cell (p := ⟨w.heap.size, o, none⟩) (by simp)))
        go_ret
        exact ⟨ret_int HR.out.symm, (HB.out _).trans (hb2.mono (by simp))⟩
end Go.Proofs.Ytnjjpahpaeblfab
