/- A grammar in memory; what has, Terminals, Symbols, Start, Nullable, First and Follow answer. -/
import Derived.Test.YtgmbkelmgolkpabDoorGe
namespace Go.Proofs.YtgmbkelmgolkpabDoor
open Go.RowKit
set_option linter.unusedVariables false

/-- A grammar's sets and numbers: n symbols, T terminals, the start, what can be nothing, begin, follow. -/
structure Gs where
  n : Nat
  t : Nat
  s : Nat
  nul : Nat
  bg : Nat → Nat
  fo : Nat → Nat
/-- A grammar lies in block p. -/
structure GmAt (w : World) (p : Nat) (G : Gs) : Prop where
  few : G.n ≤ 128
  cs : ∃ cs : Array Value, CsAt w p cs 68 ∧ (∃ a c, cs[0]? = some (.slice a G.n c)) ∧ cs[2]? = some (.int .i64 G.t) ∧ cs[3]? = some (.int .i64 G.s) ∧ SetIn cs 5 G.nul ∧ (∀ x, x < 128 → SetIn cs (7 + x * 2) (G.bg x)) ∧ ∀ x, x < 128 → SetIn cs (263 + x * 2) (G.fo x)
theorem GmAt.next {w w' : World} {p : Nat} {G : Gs} (h : GmAt w p G) (hb : Below w.heap.size w w') : GmAt w' p G := by
  obtain ⟨cs, h1, h2⟩ := h.cs
  exact ⟨h.few, cs, h1.next hb, h2⟩
theorem GmAt.names {w : World} {p : Nat} {G : Gs} (h : GmAt w p G) : ∃ a c, w.cell? ⟨p, 0, none⟩ = some (.slice a G.n c) := by
  obtain ⟨cs, h1, ⟨a, c, h2⟩, _⟩ := h.cs
  exact ⟨a, c, by rw [h1.cell]; exact h2⟩
theorem GmAt.ct {w : World} {p : Nat} {G : Gs} (h : GmAt w p G) : w.cell? ⟨p, 2, none⟩ = some (.int .i64 G.t) := by
  obtain ⟨cs, h1, _, h2, _⟩ := h.cs
  rw [h1.cell]; exact h2
theorem GmAt.cstart {w : World} {p : Nat} {G : Gs} (h : GmAt w p G) : w.cell? ⟨p, 3, none⟩ = some (.int .i64 G.s) := by
  obtain ⟨cs, h1, _, _, h2, _⟩ := h.cs
  rw [h1.cell]; exact h2
theorem GmAt.cnul {w : World} {p : Nat} {G : Gs} (h : GmAt w p G) : SetAt w p 5 G.nul := by
  obtain ⟨cs, h1, _, _, _, h2, _⟩ := h.cs
  exact h2.at h1
theorem GmAt.cbg {w : World} {p : Nat} {G : Gs} (h : GmAt w p G) {x : Nat} (hx : x < 128) : SetAt w p (7 + x * 2) (G.bg x) := by
  obtain ⟨cs, h1, _, _, _, _, h2, _⟩ := h.cs
  exact (h2 x hx).at h1
theorem GmAt.cfo {w : World} {p : Nat} {G : Gs} (h : GmAt w p G) {x : Nat} (hx : x < 128) : SetAt w p (263 + x * 2) (G.fo x) := by
  obtain ⟨cs, h1, _, _, _, _, _, h2⟩ := h.cs
  exact (h2 x hx).at h1
/-- Is it a symbol? -/
def hasS (G : Gs) (x : Int) : Bool := decide (0 ≤ x) && decide (x < (G.n : Int))
set_option maxRecDepth 100000 in
theorem has_nil (x : Int) (w : World) : Calls Tryd.prog 35 #[.pointer none, .int .i64 x] w fun e w' => e = .returned (.bool false) ∧ w' = w := by
  go_enter Tryd.func35, Tryd.ntmps35
  go_wp2_with fail
  go_ret
  exact ⟨rfl, rfl⟩
set_option maxRecDepth 100000 in
set_option maxHeartbeats 800000 in
theorem has_any {p : Nat} {G : Gs} (x : Int) (w : World) (h : GmAt w p G) : Calls Tryd.prog 35 #[.pointer (some ⟨p, 0, none⟩), .int .i64 x] w fun e w' => e = .returned (.bool (hasS G x)) ∧ w' = w := by
  obtain ⟨a, c, f0⟩ := h.names
  have hn := h.few
  have HR : Hid (hasS G x = (decide (0 ≤ x) && decide (x < (G.n : Int)))) := rfl
  clear h
  generalize G.n = n at *
  by_cases h0 : 0 ≤ x
  · by_cases h1 : x < (n : Int)
    · rw [decide_eq_true h0, decide_eq_true h1] at HR
      go_enter Tryd.func35, Tryd.ntmps35
      go_wp2_with fail
      go_ret
      exact ⟨by rw [HR.out]; rfl, rfl⟩
    · rw [decide_eq_true h0, decide_eq_false h1] at HR
      go_enter Tryd.func35, Tryd.ntmps35
      go_wp2_with fail
      go_ret
      exact ⟨by rw [HR.out]; rfl, rfl⟩
  · rw [decide_eq_false h0] at HR
    go_enter Tryd.func35, Tryd.ntmps35
    go_wp2_with fail
    go_ret
    exact ⟨by rw [HR.out]; rfl, rfl⟩
set_option maxRecDepth 100000 in
theorem terminals_nil (w : World) : Calls Tryd.prog 9 #[.pointer none] w fun e w' => e = .returned (.int .i64 0) ∧ w' = w := by
  go_enter Tryd.func9, Tryd.ntmps9
  go_wp2_with fail
  go_ret
  exact ⟨rfl, rfl⟩
set_option maxRecDepth 100000 in
theorem terminals_any {p : Nat} {G : Gs} (w : World) (h : GmAt w p G) : Calls Tryd.prog 9 #[.pointer (some ⟨p, 0, none⟩)] w fun e w' => e = .returned (.int .i64 G.t) ∧ w' = w := by
  have f0 := h.ct
  clear h
  go_enter Tryd.func9, Tryd.ntmps9
  go_wp2_with fail
  go_ret
  exact ⟨rfl, rfl⟩
set_option maxRecDepth 100000 in
theorem symbols_nil (w : World) : Calls Tryd.prog 10 #[.pointer none] w fun e w' => e = .returned (.int .i64 0) ∧ w' = w := by
  go_enter Tryd.func10, Tryd.ntmps10
  go_wp2_with fail
  go_ret
  exact ⟨rfl, rfl⟩
set_option maxRecDepth 100000 in
theorem symbols_any {p : Nat} {G : Gs} (w : World) (h : GmAt w p G) : Calls Tryd.prog 10 #[.pointer (some ⟨p, 0, none⟩)] w fun e w' => e = .returned (.int .i64 G.n) ∧ w' = w := by
  obtain ⟨a, c, f0⟩ := h.names
  clear h
  go_enter Tryd.func10, Tryd.ntmps10
  go_wp2_with fail
  go_ret
  exact ⟨rfl, rfl⟩
set_option maxRecDepth 100000 in
theorem start_nil (w : World) : Calls Tryd.prog 18 #[.pointer none] w fun e w' => e = .returned (.int .i64 (-1)) ∧ w' = w := by
  go_enter Tryd.func18, Tryd.ntmps18
  go_wp2_with fail
  go_ret
  exact ⟨rfl, rfl⟩
set_option maxRecDepth 100000 in
theorem start_any {p : Nat} {G : Gs} (w : World) (h : GmAt w p G) : Calls Tryd.prog 18 #[.pointer (some ⟨p, 0, none⟩)] w fun e w' => e = .returned (.int .i64 G.s) ∧ w' = w := by
  have f0 := h.cstart
  clear h
  go_enter Tryd.func18, Tryd.ntmps18
  go_wp2_with fail
  go_ret
  exact ⟨rfl, rfl⟩
set_option maxRecDepth 100000 in
theorem follow_nil (x : Int) (w : World) : Calls Tryd.prog 22 #[.pointer none, .int .i64 x] w fun e w' => e = .returned (.slice none 0 0) ∧ w' = w := by
  have HH := hidD (has_nil x w)
  go_enter Tryd.func22, Tryd.ntmps22
  go_wp2_with (go_at_call 35; refine HH.out.mono ?_; rintro e w2 ⟨rfl, hw⟩; subst w2)
  go_ret
  exact ⟨rfl, rfl⟩
set_option maxRecDepth 100000 in
set_option maxHeartbeats 800000 in
theorem follow_no {p : Nat} {G : Gs} (x : Int) (hx : hasS G x = false) (w : World) (h : GmAt w p G) : Calls Tryd.prog 22 #[.pointer (some ⟨p, 0, none⟩), .int .i64 x] w fun e w' => e = .returned (.slice none 0 0) ∧ w' = w := by
  have HH := hidD (has_any x w h)
  rw [hx] at HH
  clear h hx
  go_enter Tryd.func22, Tryd.ntmps22
  go_wp2_with (go_at_call 35; refine HH.out.mono ?_; rintro e w2 ⟨rfl, hw⟩; subst w2)
  go_ret
  exact ⟨rfl, rfl⟩
set_option maxRecDepth 100000 in
set_option maxHeartbeats 1600000 in
theorem follow_any {p : Nat} {G : Gs} (x : Nat) (hx : x < G.n) (w : World) (h : GmAt w p G) : Calls Tryd.prog 22 #[.pointer (some ⟨p, 0, none⟩), .int .i64 x] w fun e w' => ∃ u, e = .returned u ∧ IlAt w' u (liTo (G.fo x) 128) ∧ Below w.heap.size w w' := by
  have hn := h.few
  have hx128 : x < 128 := by omega
  have HH := hidD (has_any x w h)
  rw [show hasS G x = true by unfold hasS; rw [decide_eq_true (by omega), decide_eq_true (by omega)]; rfl] at HH
  have hs := h.cfo hx128
  have HL := hidD (fun w' => setList_any (G.fo x) hs.top w')
  have f0 := hs.c0
  have f1 := hs.c1
  have hxi : (x : Int) < 128 := by omega
  unfold setV at HL
  clear h hs
  generalize lw (G.fo x) = a at *
  generalize hw (G.fo x) = b at *
  go_enter Tryd.func22, Tryd.ntmps22
  go_wp2_with (first
    | (go_at_call 35; refine HH.out.mono ?_; rintro e w2 ⟨rfl, hw⟩; subst w2)
    | (go_at_call 38; refine (HL.out _).mono ?_; rintro e w3 ⟨u, rfl, hi3, hb3⟩; have HI3 := hidD hi3; have HB3 := hidD hb3; clear hi3 hb3))
  go_ret
  exact ⟨u, rfl, HI3.out, HB3.out⟩
end Go.Proofs.YtgmbkelmgolkpabDoor
