/- MemSame. -/
import Derived.Test.YtjnfnihhihncmaaMmx
namespace Go.Proofs.Ytjnfnihhihncmaa
open Go.RowKit
set_option linter.unusedVariables false

def rdR : List Rgn := [(256, 1024, 2), (0, 256, 1)]
theorem rdR_ok : ∀ x ∈ rdR, okR x := by unfold okR; decide
theorem rdR_perm : dR.Perm rdR := List.Perm.swap _ _ _
theorem SgsIn.next {w w' : World} {v : Value} {L : List Sg} (h : SgsIn w v L) (hb : Below w.heap.size w w') : SgsIn w' v L := by
  obtain ⟨va, rc, rfl, hc⟩ := h
  refine ⟨va, rc, rfl, fun i hi => ?_⟩
  obtain ⟨g, o, ba, bc, e, hg, c0, c1, hn, hb2⟩ := hc i hi
  refine ⟨g, o, ba, bc, e, Nat.lt_of_lt_of_le hg hb.size, (hb.cell (p := ⟨g, _, none⟩) hg).trans c0, (hb.cell (p := ⟨g, _, none⟩) hg).trans c1, hn, fun j hj => ?_⟩
  obtain ⟨g2, o2, e2, hg2, c2⟩ := hb2 j hj
  exact ⟨g2, o2, e2, Nat.lt_of_lt_of_le hg2 hb.size, (hb.cell (p := ⟨g2, _, none⟩) hg2).trans c2⟩
def sixR (w : World) (g : Nat) : Prop := w.cell? ⟨g, 0, none⟩ = some (.int .i64 0) ∧ w.cell? ⟨g, 1, none⟩ = some (.int .i64 256) ∧ w.cell? ⟨g, 2, none⟩ = some (.int .i64 1) ∧ w.cell? ⟨g, 3, none⟩ = some (.int .i64 256) ∧ w.cell? ⟨g, 4, none⟩ = some (.int .i64 1024) ∧ w.cell? ⟨g, 5, none⟩ = some (.int .i64 2)
theorem sixR.next {w w' : World} {g : Nat} (h : sixR w g) (hg : g < w.heap.size) (hb : Below w.heap.size w w') : sixR w' g :=
  ⟨(hb.cell (p := ⟨g, 0, none⟩) hg).trans h.1, (hb.cell (p := ⟨g, 1, none⟩) hg).trans h.2.1, (hb.cell (p := ⟨g, 2, none⟩) hg).trans h.2.2.1, (hb.cell (p := ⟨g, 3, none⟩) hg).trans h.2.2.2.1, (hb.cell (p := ⟨g, 4, none⟩) hg).trans h.2.2.2.2.1, (hb.cell (p := ⟨g, 5, none⟩) hg).trans h.2.2.2.2.2⟩
theorem sixR_new (w : World) : sixR (w.alloc (.cells #[.int .i64 0, .int .i64 256, .int .i64 1, .int .i64 256, .int .i64 1024, .int .i64 2] (35 : TypeId))) w.heap.size := by
  refine ⟨?_, ?_, ?_, ?_, ?_, ?_⟩ <;> rw [cell_of_row _ _ _ _ _ _ (heap_alloc_last _ _)] <;> rfl
theorem row_d (w1 : World) : RsAt (w1.alloc (.cells #[.int .i64 0, .int .i64 256, .int .i64 1, .int .i64 256, .int .i64 1024, .int .i64 2] (35 : TypeId))) (.slice (some ⟨w1.heap.size, 0, none⟩) 2 2) dR := row_rs (g := w1.heap.size) (cap := 2) (L := dR) (heap_alloc_last w1 (.cells #[.int .i64 0, .int .i64 256, .int .i64 1, .int .i64 256, .int .i64 1024, .int .i64 2] (35 : TypeId)))
theorem new_d (w1 : World) : Calls Try.prog 9 #[.slice (some ⟨w1.heap.size, 0, none⟩) 2 2] (w1.alloc (.cells #[.int .i64 0, .int .i64 256, .int .i64 1, .int .i64 256, .int .i64 1024, .int .i64 2] (35 : TypeId))) fun e w' => ∃ k : Mk, e = .returned (.tuple #[.pointer (some ⟨k.m, 0, none⟩), .int .i64 0]) ∧ MeAt w' k (fun _ => (0, 0)) 0 0 ∧ k.R = dR ∧ (w1.alloc (.cells #[.int .i64 0, .int .i64 256, .int .i64 1, .int .i64 256, .int .i64 1024, .int .i64 2] (35 : TypeId))).heap.size ≤ k.m ∧ (w1.alloc (.cells #[.int .i64 0, .int .i64 256, .int .i64 1, .int .i64 256, .int .i64 1024, .int .i64 2] (35 : TypeId))).heap.size ≤ k.r ∧ (w1.alloc (.cells #[.int .i64 0, .int .i64 256, .int .i64 1, .int .i64 256, .int .i64 1024, .int .i64 2] (35 : TypeId))).heap.size ≤ k.c ∧ Below (w1.alloc (.cells #[.int .i64 0, .int .i64 256, .int .i64 1, .int .i64 256, .int .i64 1024, .int .i64 2] (35 : TypeId))).heap.size (w1.alloc (.cells #[.int .i64 0, .int .i64 256, .int .i64 1, .int .i64 256, .int .i64 1024, .int .i64 2] (35 : TypeId))) w' :=
  hv_new2 dR dR (by decide) _ _ (row_d w1) dR_ok (List.Perm.refl _) (by unfold dR; decide) dR_over
theorem row_rd (w1 : World) : RsAt (w1.alloc (.cells #[.int .i64 256, .int .i64 1024, .int .i64 2, .int .i64 0, .int .i64 256, .int .i64 1] (35 : TypeId))).drew (.slice (some ⟨w1.heap.size, 0, none⟩) 2 2) rdR := (row_rs (g := w1.heap.size) (cap := 2) (L := rdR) (heap_alloc_last w1 (.cells #[.int .i64 256, .int .i64 1024, .int .i64 2, .int .i64 0, .int .i64 256, .int .i64 1] (35 : TypeId)))).next (Below.refl _ _).drew
theorem new_rd (w1 : World) : Calls Try.prog 9 #[.slice (some ⟨w1.heap.size, 0, none⟩) 2 2] (w1.alloc (.cells #[.int .i64 256, .int .i64 1024, .int .i64 2, .int .i64 0, .int .i64 256, .int .i64 1] (35 : TypeId))).drew fun e w' => ∃ k : Mk, e = .returned (.tuple #[.pointer (some ⟨k.m, 0, none⟩), .int .i64 0]) ∧ MeAt w' k (fun _ => (0, 0)) 0 0 ∧ k.R = dR ∧ (w1.alloc (.cells #[.int .i64 256, .int .i64 1024, .int .i64 2, .int .i64 0, .int .i64 256, .int .i64 1] (35 : TypeId))).drew.heap.size ≤ k.m ∧ (w1.alloc (.cells #[.int .i64 256, .int .i64 1024, .int .i64 2, .int .i64 0, .int .i64 256, .int .i64 1] (35 : TypeId))).drew.heap.size ≤ k.r ∧ (w1.alloc (.cells #[.int .i64 256, .int .i64 1024, .int .i64 2, .int .i64 0, .int .i64 256, .int .i64 1] (35 : TypeId))).drew.heap.size ≤ k.c ∧ Below (w1.alloc (.cells #[.int .i64 256, .int .i64 1024, .int .i64 2, .int .i64 0, .int .i64 256, .int .i64 1] (35 : TypeId))).drew.heap.size (w1.alloc (.cells #[.int .i64 256, .int .i64 1024, .int .i64 2, .int .i64 0, .int .i64 256, .int .i64 1] (35 : TypeId))).drew w' :=
  hv_new2 rdR dR (by decide) _ _ (row_rd w1) rdR_ok rdR_perm (by unfold dR; decide) dR_over
theorem row_x (w1 : World) : RsAt (w1.alloc (.cells #[.int .i64 0, .int .i64 1024, .int .i64 1] (35 : TypeId))) (.slice (some ⟨w1.heap.size, 0, none⟩) 1 1) xR := row_rs (g := w1.heap.size) (cap := 1) (L := xR) (heap_alloc_last w1 (.cells #[.int .i64 0, .int .i64 1024, .int .i64 1] (35 : TypeId)))
theorem new_x (w1 : World) : Calls Try.prog 9 #[.slice (some ⟨w1.heap.size, 0, none⟩) 1 1] (w1.alloc (.cells #[.int .i64 0, .int .i64 1024, .int .i64 1] (35 : TypeId))) fun e w' => ∃ k : Mk, e = .returned (.tuple #[.pointer (some ⟨k.m, 0, none⟩), .int .i64 0]) ∧ MeAt w' k (fun _ => (0, 0)) 0 0 ∧ k.R = xR ∧ (w1.alloc (.cells #[.int .i64 0, .int .i64 1024, .int .i64 1] (35 : TypeId))).heap.size ≤ k.m ∧ (w1.alloc (.cells #[.int .i64 0, .int .i64 1024, .int .i64 1] (35 : TypeId))).heap.size ≤ k.r ∧ (w1.alloc (.cells #[.int .i64 0, .int .i64 1024, .int .i64 1] (35 : TypeId))).heap.size ≤ k.c ∧ Below (w1.alloc (.cells #[.int .i64 0, .int .i64 1024, .int .i64 1] (35 : TypeId))).heap.size (w1.alloc (.cells #[.int .i64 0, .int .i64 1024, .int .i64 1] (35 : TypeId))) w' :=
  hv_new2 xR xR (by decide) _ _ (row_x w1) xR_ok (List.Perm.refl _) (by unfold xR; decide) xR_over
section
variable {w0 w w' : World} {k k2 k3 : Mk} {Z Z2 Z3 : Nat → Nat × Nat} {L : List Sg} {u : Value}
theorem no_own {k : Mk} {x y : Int} (h : MeAt w k Z x y) : ∀ g, w.heap.size ≤ g → ¬ k.own g := fun g hg e => e.elim (fun e => by have := h.lt.1; omega) (fun e => by have := h.lt.2.2; omega)
theorem pr_loadA (h : Pr w0 k k2 Z Z2 w) (hb : Below w.heap.size w w') (hs : SgsAt (fun g => w.heap.size ≤ g) w' u L) (hl : L.length ≤ 4398046511000) (hlb : ∀ s ∈ L, s.2.length ≤ 140737488351232) :
    Calls Try.prog 21 #[.pointer (some ⟨k.m, 0, none⟩), u] w' fun e w2 => e = .returned (.int .i64 (loadC dR L)) ∧ Pr w0 k k2 (loadZ dR Z L) Z2 w2 := by
  have := load_fn (h.a.next hb) (by rw [h.ra]; exact dR_sep) L (by omega) (fun s hs => by have := hlb s hs; omega) u (hs.mono (no_own h.a))
  rw [h.ra] at this
  exact this.mono fun e w2 ⟨h1, h2, h3⟩ => ⟨h1, (h.next hb).one h2 h3⟩
theorem pr_loadB (h : Pr w0 k k2 Z Z2 w) (hb : Below w.heap.size w w') (hs : SgsAt (fun g => w.heap.size ≤ g) w' u L) (hl : L.length ≤ 4398046511000) (hlb : ∀ s ∈ L, s.2.length ≤ 140737488351232) :
    Calls Try.prog 21 #[.pointer (some ⟨k2.m, 0, none⟩), u] w' fun e w2 => e = .returned (.int .i64 (loadC dR L)) ∧ Pr w0 k k2 Z (loadZ dR Z2 L) w2 := by
  have := load_fn (h.b.next hb) (by rw [h.rb]; exact dR_sep) L (by omega) (fun s hs => by have := hlb s hs; omega) u (hs.mono (no_own h.b))
  rw [h.rb] at this
  exact this.mono fun e w2 ⟨h1, h2, h3⟩ => ⟨h1, (h.next hb).two h2 h3⟩
theorem pr_same (h : Pr w0 k k2 Z Z2 w) (b : Bool) (hb : b = true ↔ ∀ i, i < 65536 → Z i = Z2 i) :
    Calls Try.prog 15 #[.pointer (some ⟨k.m, 0, none⟩), .pointer (some ⟨k2.m, 0, none⟩)] w fun e w2 => e = .returned (.bool b) ∧ Pr w0 k k2 Z Z2 w2 :=
  (same_any h.a h.b b (hb.trans ⟨fun e => ⟨h.ra.trans h.rb.symm, e⟩, fun e => e.2⟩)).mono fun e w2 ⟨h1, h2⟩ => ⟨h1, h.next h2⟩
theorem pr_same2 (h : Pr w0 k k2 Z Z2 w) (b : Bool) (hb : b = true ↔ ∀ i, i < 65536 → Z2 i = Z i) :
    Calls Try.prog 15 #[.pointer (some ⟨k2.m, 0, none⟩), .pointer (some ⟨k.m, 0, none⟩)] w fun e w2 => e = .returned (.bool b) ∧ Pr w0 k k2 Z Z2 w2 :=
  (same_any h.b h.a b (hb.trans ⟨fun e => ⟨h.rb.trans h.ra.symm, e⟩, fun e => e.2⟩)).mono fun e w2 ⟨h1, h2⟩ => ⟨h1, h.next h2⟩
theorem pr_turn (h : Pr w0 k k2 Z Z2 w) (A c : Nat) (hA : A < 1024) (hc : c < 13) :
    Calls Try.prog 22 #[.pointer (some ⟨k.m, 0, none⟩), .int .i64 (A : Int), .int .i64 (c : Int)] w fun e w2 => e = .returned (.int .i64 0) ∧ Pr w0 k k2 (upd Z A (turZ (Z A) c)) Z2 w2 := by
  obtain ⟨f, t, kd, hq, hkd⟩ := dR_at A hA
  exact (memTurn_ok h.a A f t kd (by rw [h.ra]; exact hq) hkd c hc).mono fun e w2 ⟨h1, h2, h3⟩ => ⟨h1, h.one h2 h3⟩
theorem tr_loadA (h : Tr w0 k k2 k3 Z Z2 Z3 w) (hb : Below w.heap.size w w') (hs : SgsAt (fun g => w.heap.size ≤ g) w' u L) (hl : L.length ≤ 4398046511000) (hlb : ∀ s ∈ L, s.2.length ≤ 140737488351232) :
    Calls Try.prog 21 #[.pointer (some ⟨k.m, 0, none⟩), u] w' fun e w2 => e = .returned (.int .i64 (loadC dR L)) ∧ Tr w0 k k2 k3 (loadZ dR Z L) Z2 Z3 w2 := by
  have := load_fn (h.p.a.next hb) (by rw [h.p.ra]; exact dR_sep) L (by omega) (fun s hs => by have := hlb s hs; omega) u (hs.mono (no_own h.p.a))
  rw [h.p.ra] at this
  exact this.mono fun e w2 ⟨h1, h2, h3⟩ => ⟨h1, (h.next hb).one h2 h3⟩
theorem tr_loadB (h : Tr w0 k k2 k3 Z Z2 Z3 w) (hb : Below w.heap.size w w') (hs : SgsAt (fun g => w.heap.size ≤ g) w' u L) (hl : L.length ≤ 4398046511000) (hlb : ∀ s ∈ L, s.2.length ≤ 140737488351232) :
    Calls Try.prog 21 #[.pointer (some ⟨k2.m, 0, none⟩), u] w' fun e w2 => e = .returned (.int .i64 (loadC dR L)) ∧ Tr w0 k k2 k3 Z (loadZ dR Z2 L) Z3 w2 := by
  have := load_fn (h.p.b.next hb) (by rw [h.p.rb]; exact dR_sep) L (by omega) (fun s hs => by have := hlb s hs; omega) u (hs.mono (no_own h.p.b))
  rw [h.p.rb] at this
  exact this.mono fun e w2 ⟨h1, h2, h3⟩ => ⟨h1, (h.next hb).two h2 h3⟩
theorem tr_loadC (h : Tr w0 k k2 k3 Z Z2 Z3 w) (hb : Below w.heap.size w w') (hs : SgsAt (fun g => w.heap.size ≤ g) w' u L) (hl : L.length ≤ 4398046511000) (hlb : ∀ s ∈ L, s.2.length ≤ 140737488351232) :
    Calls Try.prog 21 #[.pointer (some ⟨k3.m, 0, none⟩), u] w' fun e w2 => e = .returned (.int .i64 (loadC dR L)) ∧ ∃ Z', Tr w0 k k2 k3 Z Z2 Z' w2 := by
  have := load_fn (h.c.next hb) (by rw [h.rc]; exact xR_sep) L (by omega) (fun s hs => by have := hlb s hs; omega) u (hs.mono (no_own h.c))
  rw [h.rc, ← loadC_dx] at this
  exact this.mono fun e w2 ⟨h1, h2, h3⟩ => ⟨h1, _, (h.next hb).three h2 h3⟩
theorem tr_nil (h : Tr w0 k k2 k3 Z Z2 Z3 w) :
    Calls Try.prog 21 #[.pointer (some ⟨k.m, 0, none⟩), .slice none 0 0] w fun e w2 => e = .returned (.int .i64 0) ∧ Tr w0 k k2 k3 Z Z2 Z3 w2 := by
  have := load_fn h.p.a (by rw [h.p.ra]; exact dR_sep) [] (by decide) (fun s hs => by simp at hs) (.slice none 0 0) ⟨none, 0, rfl, fun i hi => absurd hi (by simp)⟩
  rw [loadC_nil, loadZ_nil] at this
  exact this.mono fun e w2 ⟨h1, h2, h3⟩ => ⟨h1, h.one h2 h3⟩
theorem tr_same (h : Tr w0 k k2 k3 Z Z2 Z3 w) (b : Bool) (hb : b = true ↔ ∀ i, i < 65536 → Z i = Z2 i) :
    Calls Try.prog 15 #[.pointer (some ⟨k.m, 0, none⟩), .pointer (some ⟨k2.m, 0, none⟩)] w fun e w2 => e = .returned (.bool b) ∧ Tr w0 k k2 k3 Z Z2 Z3 w2 :=
  (same_any h.p.a h.p.b b (hb.trans ⟨fun e => ⟨h.p.ra.trans h.p.rb.symm, e⟩, fun e => e.2⟩)).mono fun e w2 ⟨h1, h2⟩ => ⟨h1, h.next h2⟩
theorem d_not_x : dR ≠ xR := by unfold dR xR; decide
theorem tr_same13 (h : Tr w0 k k2 k3 Z Z2 Z3 w) :
    Calls Try.prog 15 #[.pointer (some ⟨k.m, 0, none⟩), .pointer (some ⟨k3.m, 0, none⟩)] w fun e w2 => e = .returned (.bool false) ∧ Tr w0 k k2 k3 Z Z2 Z3 w2 :=
  (same_any h.p.a h.c false (iff_of_false (by decide) fun e => d_not_x (h.p.ra.symm.trans (e.1.trans h.rc)))).mono fun e w2 ⟨h1, h2⟩ => ⟨h1, h.next h2⟩
theorem tr_same31 (h : Tr w0 k k2 k3 Z Z2 Z3 w) :
    Calls Try.prog 15 #[.pointer (some ⟨k3.m, 0, none⟩), .pointer (some ⟨k.m, 0, none⟩)] w fun e w2 => e = .returned (.bool false) ∧ Tr w0 k k2 k3 Z Z2 Z3 w2 :=
  (same_any h.c h.p.a false (iff_of_false (by decide) fun e => d_not_x (h.p.ra.symm.trans (e.1.symm.trans h.rc)))).mono fun e w2 ⟨h1, h2⟩ => ⟨h1, h.next h2⟩
theorem tr_cell (h : Tr w0 k k2 k3 Z Z2 Z3 w) (A : Nat) (hA : A < 1024) :
    Calls Try.prog 18 #[.pointer (some ⟨k.m, 0, none⟩), .int .i64 (A : Int)] w fun e w2 => e = .returned (.tuple #[.agg (wdC (Z A).1 (Z A).2), .int .i64 0]) ∧ Tr w0 k k2 k3 Z Z2 Z3 w2 := by
  obtain ⟨f, t, kd, hq, hkd⟩ := dR_at A hA
  exact (cell_ok h.p.a A f t kd (by rw [h.p.ra]; exact hq) hkd).mono fun e w2 ⟨h1, h2⟩ => ⟨h1, h.next h2⟩
theorem tr_lay (h : Tr w0 k k2 k3 Z Z2 Z3 w) (A D C : Nat) (hA : A < 1024) (hD : D < 256) (hC : C < 32) :
    Calls Try.prog 23 #[.pointer (some ⟨k2.m, 0, none⟩), .int .i64 (A : Int), .agg (wdC D C)] w fun e w2 => e = .returned (.int .i64 0) ∧ Tr w0 k k2 k3 Z (upd Z2 A (D, C)) Z3 w2 := by
  obtain ⟨f, t, kd, hq, hkd⟩ := dR_at A hA
  exact (lay_ok h.p.b A f t kd (by rw [h.p.rb]; exact hq) hkd D C hD hC).mono fun e w2 ⟨h1, h2, h3⟩ => ⟨h1, h.two h2 h3⟩
end
theorem wrapN (a n : Int) (hn : 0 < n) (hn2 : n ≤ 2000) : ∃ A : Nat, (A : Int) < n ∧ (a.tmod n + n) % n = (A : Int) ∧ -n < a.tmod n ∧ a.tmod n < n := by
  have hr1 := Int.lt_tmod_of_pos a (b := n) hn
  have hr2 := Int.tmod_lt_of_pos a (b := n) hn
  have h1 := Int.emod_nonneg (a.tmod n + n) (b := n) (by omega)
  have h2 := Int.emod_lt_of_pos (a.tmod n + n) (b := n) hn
  exact ⟨((a.tmod n + n) % n).toNat, by omega, by omega, by omega, hr2⟩
set_option maxRecDepth 100000 in
set_option maxHeartbeats 12800000 in
theorem memSame_any (L : List Sg) (hl : L.length ≤ 4398046511000) (hlb : ∀ s ∈ L, s.2.length ≤ 140737488351232) (at' bit : Int) (v : Value) (w : World) (hv : SgsIn w v L) :
    Calls Try.prog 7 #[v, .int .i64 at', .int .i64 bit] w fun e w' => e = .returned (.bool true) ∧ Below w.heap.size w w' := by
  have HAL := hidD (fun w => alive_any w)
  have HSI := hidD hv
  have HNW := hidD (fun w1 => new_d w1)
  have HNR := hidD (fun w1 => new_rd w1)
  have HNX := hidD (fun w1 => new_x w1)
  go_enter Try.func7, Try.ntmps7
  go_wp2_with (first
    | (go_at_call 11; refine (HAL.out _).mono ?_; rintro e w1 ⟨rfl, hb⟩; have B1 := hidD hb; clear hb)
    | (go_at_call 9; refine (HNW.out _).mono ?_; rintro e w2 ⟨k, rfl, hme, hkr, hkm, hkrr, hkc, hb2⟩
       have BX := hidD (Below.next B1.out (pin_map (w := w1) (.cells #[.int .i64 0, .int .i64 256, .int .i64 1, .int .i64 256, .int .i64 1024, .int .i64 2] (35 : TypeId))))
       have HX := hidD (sixR.next (sixR_new w1) (row_lt (heap_alloc_last _ _)) hb2)
       have HGX := hidD (Nat.lt_of_lt_of_le (row_lt (heap_alloc_last w1 (.cells #[.int .i64 0, .int .i64 256, .int .i64 1, .int .i64 256, .int .i64 1024, .int .i64 2] (35 : TypeId)))) hb2.size)
       have B2 := hidD (Below.next BX.out hb2)
       have HM2 := hidD hme
       have HK := hidD (And.intro hkr (And.intro (Nat.le_trans BX.out.size hkm) (Nat.le_trans BX.out.size hkc)))
       clear hme hkr hkm hkrr hkc hb2))
  have B3 : Hid (Below w.heap.size w w2.drew) := B2.out.drew
  have HM3 : Hid (MeAt w2.drew k (fun _ => (0, 0)) 0 0) := HM2.out.next (Below.refl _ _).drew
  have HG3 : Hid (w1.heap.size < w2.drew.heap.size) := HGX.out
  refine wp_region_held_drew (S := fun w' => sixR w' w1.heap.size) (by kernel_rfl) ?_ (fun hHeld => ?_)
  · exact HX.out
  refine take_at 0 30 (v := ?_) rfl rfl (by kernel_rfl) (by kernel_rfl) (by kernel_rfl) (fun _ _ _ h => h) (by rfl) (by assumption) (fun w hSw => ?_) ?_
  rotate_left
  · obtain ⟨s0, s1, s2, s3, s4, s5⟩ := hSw; go_simp; first | done | with_reducible rfl
  try simp only [Act.put, List.setIfInBounds_toArray, List.set_cons_zero, List.set_cons_succ]
  refine take_at 1 31 (v := ?_) rfl rfl (by kernel_rfl) (by kernel_rfl) (by kernel_rfl) (fun _ _ _ h => h) (by rfl) (by assumption) (fun w hSw => ?_) ?_
  rotate_left
  · obtain ⟨s0, s1, s2, s3, s4, s5⟩ := hSw; go_simp; first | done | with_reducible rfl
  try simp only [Act.put, List.setIfInBounds_toArray, List.set_cons_zero, List.set_cons_succ]
  refine take_at 2 32 (v := ?_) rfl rfl (by kernel_rfl) (by kernel_rfl) (by kernel_rfl) (fun _ _ _ h => h) (by rfl) (by assumption) (fun w hSw => ?_) ?_
  rotate_left
  · obtain ⟨s0, s1, s2, s3, s4, s5⟩ := hSw; go_simp; first | done | with_reducible rfl
  try simp only [Act.put, List.setIfInBounds_toArray, List.set_cons_zero, List.set_cons_succ]
  refine take_at 3 33 (v := ?_) rfl rfl (by kernel_rfl) (by kernel_rfl) (by kernel_rfl) (fun _ _ _ h => h) (by rfl) (by assumption) (fun w hSw => ?_) ?_
  rotate_left
  · obtain ⟨s0, s1, s2, s3, s4, s5⟩ := hSw; go_simp; first | done | with_reducible rfl
  try simp only [Act.put, List.setIfInBounds_toArray, List.set_cons_zero, List.set_cons_succ]
  refine take_at 4 34 (v := ?_) rfl rfl (by kernel_rfl) (by kernel_rfl) (by kernel_rfl) (fun _ _ _ h => h) (by rfl) (by assumption) (fun w hSw => ?_) ?_
  rotate_left
  · obtain ⟨s0, s1, s2, s3, s4, s5⟩ := hSw; go_simp; first | done | with_reducible rfl
  try simp only [Act.put, List.setIfInBounds_toArray, List.set_cons_zero, List.set_cons_succ]
  refine take_at 5 35 (v := ?_) rfl rfl (by kernel_rfl) (by kernel_rfl) (by kernel_rfl) (fun _ _ _ h => h) (by rfl) (by assumption) (fun w hSw => ?_) ?_
  rotate_left
  · obtain ⟨s0, s1, s2, s3, s4, s5⟩ := hSw; go_simp; first | done | with_reducible rfl
  try simp only [Act.put, List.setIfInBounds_toArray, List.set_cons_zero, List.set_cons_succ]
  refine move_at 6 rfl (by kernel_rfl) (by rfl) (fun K hK => ?_)
  go_simp
  have HB4 := hidD (pin_map (w := w2.drew) (.cells #[.int .i64 256, .int .i64 1024, .int .i64 2, .int .i64 0, .int .i64 256, .int .i64 1] (35 : TypeId)))
  refine hK.out _ _ (hHeld.next HG3.out HB4.out) (fun hHeld4 => ?_)
  clear hK K
  try simp only [Act.put, List.setIfInBounds_toArray, List.set_cons_zero, List.set_cons_succ]
  refine move_at 7 rfl (by kernel_rfl) (by rfl) (fun K hK => ?_)
  go_simp
  have HB5 : Hid (Below w2.heap.size w2 (w2.alloc (.cells #[.int .i64 256, .int .i64 1024, .int .i64 2, .int .i64 0, .int .i64 256, .int .i64 1] (35 : TypeId))).drew) := (pin_map _).drew
  go_at_call 9
  refine (HNR.out w2).mono ?_
  rintro e w3 ⟨k2, rfl, hme2, hr2, hm2, hrr2, hc2, hb3⟩
  have HB6 := hidD (Below.next HB5.out hb3)
  have HOF := hidD (off_new HM2.out (Nat.le_trans HB5.out.size hm2) (Nat.le_trans HB5.out.size hrr2) (Nat.le_trans HB5.out.size hc2))
  have HPR : Hid (Pr w k k2 (fun _ => (0, 0)) (fun _ => (0, 0)) w3) := ⟨HM2.out.next HB6.out, hme2, HOF.out.1, HOF.out.2, HK.out.2, ⟨Nat.le_trans B2.out.size (Nat.le_trans HB5.out.size hm2), Nat.le_trans B2.out.size (Nat.le_trans HB5.out.size hc2)⟩, Below.next B2.out HB6.out, HK.out.1, hr2⟩
  refine hK.out _ _ (HX.out.next HGX.out HB6.out) (fun hHeld5 => ?_)
  clear hK K hme2 hr2 hm2 hrr2 hc2 hb3
  try simp only [Act.put, List.setIfInBounds_toArray, List.set_cons_zero, List.set_cons_succ]
  refine take_at 8 29 (v := ?_) rfl rfl (by kernel_rfl) (by kernel_rfl) (by kernel_rfl) (fun _ _ _ h => h) (by rfl) (by assumption) (fun w hSw => ?_) ?_
  rotate_left
  · obtain ⟨s0, s1, s2, s3, s4, s5⟩ := hSw; go_simp; first | done | with_reducible rfl
  try simp only [Act.put, List.setIfInBounds_toArray, List.set_cons_zero, List.set_cons_succ]
  refine take_at 9 38 (v := ?_) rfl rfl (by kernel_rfl) (by kernel_rfl) (by kernel_rfl) (fun _ _ _ h => h) (by rfl) (by assumption) (fun w hSw => ?_) ?_
  rotate_left
  · obtain ⟨s0, s1, s2, s3, s4, s5⟩ := hSw; go_simp; first | done | with_reducible rfl
  try simp only [Act.put, List.setIfInBounds_toArray, List.set_cons_zero, List.set_cons_succ]
  refine take_at 10 39 (v := ?_) rfl rfl (by kernel_rfl) (by kernel_rfl) (by kernel_rfl) (fun _ _ _ h => h) (by rfl) (by assumption) (fun w hSw => ?_) ?_
  rotate_left
  · obtain ⟨s0, s1, s2, s3, s4, s5⟩ := hSw; go_simp; first | done | with_reducible rfl
  try simp only [Act.put, List.setIfInBounds_toArray, List.set_cons_zero, List.set_cons_succ]
  refine take_at 11 10 (v := ?_) rfl rfl (by kernel_rfl) (by kernel_rfl) (by kernel_rfl) (fun _ _ _ h => h) (by rfl) (by assumption) (fun w hSw => ?_) ?_
  rotate_left
  · obtain ⟨s0, s1, s2, s3, s4, s5⟩ := hSw; go_simp; first | done | with_reducible rfl
  try simp only [Act.put, List.setIfInBounds_toArray, List.set_cons_zero, List.set_cons_succ]
  refine take_at 12 11 (v := ?_) rfl rfl (by kernel_rfl) (by kernel_rfl) (by kernel_rfl) (fun _ _ _ h => h) (by rfl) (by assumption) (fun w hSw => ?_) ?_
  rotate_left
  · obtain ⟨s0, s1, s2, s3, s4, s5⟩ := hSw; go_simp; first | done | with_reducible rfl
  try simp only [Act.put, List.setIfInBounds_toArray, List.set_cons_zero, List.set_cons_succ]
  refine wpAnyH_done (by kernel_rfl) ?_ _
  clear hHeld hHeld4 hHeld5 HM2 HM3 HK HB4 HB5 HB6 HOF HX HGX HG3 B1 B2 B3 BX HNW HNR HAL
  obtain ⟨lc, hlc⟩ : ∃ lc, Hid (loadC dR L = lc) := ⟨_, rfl⟩
  have HLC := hlc
  obtain ⟨Z1, hz1⟩ : ∃ Z1, Hid (loadZ dR (fun _ => (0, 0)) L = Z1) := ⟨_, rfl⟩
  have HZ1 := hz1
  have HTW : Hid (loadZ dR Z1 L = Z1) := by show _ = _; rw [← hz1.out]; exact loadZ_twice dR _ L
  obtain ⟨A, hA, hwA, hrA, hrA2⟩ := wrapN at' 1024 (by decide) (by decide)
  obtain ⟨c, hcc, hwc, hrc, hrc2⟩ := wrapN bit 13 (by decide) (by decide)
  obtain ⟨r, hr⟩ : ∃ r, at'.tmod 1024 = r := ⟨_, rfl⟩
  rw [hr] at hwA hrA hrA2
  obtain ⟨s, hsb⟩ : ∃ s, bit.tmod 13 = s := ⟨_, rfl⟩
  rw [hsb] at hwc hrc hrc2
  have hw2 : (r + 1024).tmod 1024 = (A : Int) := by rw [Int.tmod_eq_emod_of_nonneg (by omega)]; exact hwA
  have hw3 : (s + 13).tmod 13 = (c : Int) := by rw [Int.tmod_eq_emod_of_nonneg (by omega)]; exact hwc
  have HAc : Hid (A < 1024 ∧ c < 13) := ⟨by omega, by omega⟩
  obtain ⟨D, C, hDC⟩ : ∃ D C, Hid (Z1 A = (D, C)) := ⟨_, _, rfl⟩
  have HDC := hDC
  clear hlc hz1 hDC hA hcc
  have HSG : Hid (∀ w', Below w.heap.size w w' → Calls Try.prog 27 #[v] w' fun e w2 => ∃ u, e = .returned u ∧ SgsAt (fun g => w'.heap.size ≤ g) w2 u L ∧ Below w'.heap.size w' w2) := fun w' hb => segs_any L hl hlb v w' (HSI.out.next hb)
  have C1 : Hid (Calls Try.prog 27 #[v] w3 fun e w2 => ∃ u, e = .returned u ∧ SgsAt (fun g => w3.heap.size ≤ g) w2 u L ∧ Below w3.heap.size w3 w2) := HSG.out _ HPR.out.bel
  go_wp2_with (first
    | (go_at_call 27; refine C1.out.mono ?_; rintro e w4 ⟨u, rfl, hs, hb⟩; clear C1
       have C2 : Hid (Calls Try.prog 21 #[.pointer (some ⟨k.m, 0, none⟩), u] w4 fun e w2 => e = .returned (.int .i64 lc) ∧ Pr w k k2 Z1 (fun _ => (0, 0)) w2) := by have := pr_loadA HPR.out hb hs hl hlb; rw [HLC.out, HZ1.out] at this; exact this
       clear hs hb)
    | (go_at_call 21; refine C2.out.mono ?_; rintro e w5 ⟨rfl, h5⟩; clear C2
       have C3 : Hid (Calls Try.prog 27 #[v] w5 fun e w2 => ∃ u, e = .returned u ∧ SgsAt (fun g => w5.heap.size ≤ g) w2 u L ∧ Below w5.heap.size w5 w2) := HSG.out _ h5.bel
       have S5 := hidD h5
       clear h5)
    | (go_at_call 27; refine C3.out.mono ?_; rintro e w6 ⟨u2, rfl, hs, hb⟩; clear C3
       have C4 : Hid (Calls Try.prog 21 #[.pointer (some ⟨k2.m, 0, none⟩), u2] w6 fun e w2 => e = .returned (.int .i64 lc) ∧ Pr w k k2 Z1 Z1 w2) := by have := pr_loadB S5.out hb hs hl hlb; rw [HLC.out, HZ1.out] at this; exact this
       clear hs hb S5)
    | (go_at_call 21; refine C4.out.mono ?_; rintro e w7 ⟨rfl, h7⟩; clear C4
       have C5 : Hid (Calls Try.prog 15 #[.pointer (some ⟨k.m, 0, none⟩), .pointer (some ⟨k2.m, 0, none⟩)] w7 fun e w2 => e = .returned (.bool true) ∧ Pr w k k2 Z1 Z1 w2) := pr_same h7 true (iff_of_true rfl fun i _ => rfl)
       clear h7)
    | (go_at_call 15; refine C5.out.mono ?_; rintro e w8 ⟨rfl, h8⟩; clear C5
       have C6 : Hid (Calls Try.prog 15 #[.pointer (some ⟨k2.m, 0, none⟩), .pointer (some ⟨k.m, 0, none⟩)] w8 fun e w2 => e = .returned (.bool true) ∧ Pr w k k2 Z1 Z1 w2) := pr_same2 h8 true (iff_of_true rfl fun i _ => rfl)
       clear h8)
    | (go_at_call 15; refine C6.out.mono ?_; rintro e w9 ⟨rfl, h9⟩; clear C6
       have C7 : Hid (Calls Try.prog 22 #[.pointer (some ⟨k.m, 0, none⟩), .int .i64 (A : Int), .int .i64 (c : Int)] w9 fun e w2 => e = .returned (.int .i64 0) ∧ Pr w k k2 (upd Z1 A (turZ (Z1 A) c)) Z1 w2) := pr_turn h9 A c HAc.out.1 HAc.out.2
       clear h9)
    | (go_at_call 22; refine C7.out.mono ?_; rintro e w10 ⟨rfl, h10⟩; clear C7
       have C8 : Hid (Calls Try.prog 15 #[.pointer (some ⟨k.m, 0, none⟩), .pointer (some ⟨k2.m, 0, none⟩)] w10 fun e w2 => e = .returned (.bool false) ∧ Pr w k k2 (upd Z1 A (turZ (Z1 A) c)) Z1 w2) := pr_same h10 false (iff_of_false (by decide) fun e => turZ_ne (Z1 A) c (by have := e A (by have := HAc.out.1; omega); rw [upd_same] at this; exact this))
       clear h10)
    | (go_at_call 15; refine C8.out.mono ?_; rintro e w11 ⟨rfl, h11⟩; clear C8
       have C9 : Hid (Calls Try.prog 22 #[.pointer (some ⟨k.m, 0, none⟩), .int .i64 (A : Int), .int .i64 (c : Int)] w11 fun e w2 => e = .returned (.int .i64 0) ∧ Pr w k k2 Z1 Z1 w2) := by have := pr_turn h11 A c HAc.out.1 HAc.out.2; rw [upd_same, upd_upd, turZ_back, upd_own] at this; exact this
       clear h11)
    | (go_at_call 22; refine C9.out.mono ?_; rintro e w12 ⟨rfl, h12⟩; clear C9
       have C10 : Hid (Calls Try.prog 15 #[.pointer (some ⟨k.m, 0, none⟩), .pointer (some ⟨k2.m, 0, none⟩)] w12 fun e w2 => e = .returned (.bool true) ∧ Pr w k k2 Z1 Z1 w2) := pr_same h12 true (iff_of_true rfl fun i _ => rfl)
       clear h12)
    | (go_at_call 15; refine C10.out.mono ?_; rintro e w13 ⟨rfl, h13⟩; clear C10
       have S13 := hidD h13
       have C11 := hidD (HNX.out w13)
       clear h13)
    | (go_at_call 9; refine C11.out.mono ?_; rintro e w14 ⟨k3, rfl, hme, hr3, hm3, hrr3, hc3, hb3⟩; clear C11
       have HBX := hidD (pin_map (w := w13) (.cells #[.int .i64 0, .int .i64 1024, .int .i64 1] (35 : TypeId)))
       have HBY := hidD (Below.next HBX.out hb3)
       have HO1 := off_new S13.out.a (Nat.le_trans HBX.out.size hm3) (Nat.le_trans HBX.out.size hrr3) (Nat.le_trans HBX.out.size hc3)
       have HO2 := off_new S13.out.b (Nat.le_trans HBX.out.size hm3) (Nat.le_trans HBX.out.size hrr3) (Nat.le_trans HBX.out.size hc3)
       have h14 : Tr w k k2 k3 Z1 Z1 (fun _ => (0, 0)) w14 := ⟨S13.out.next HBY.out, hme, HO1.1, HO1.2, HO2.1, HO2.2, ⟨Nat.le_trans S13.out.bel.size (Nat.le_trans HBX.out.size hm3), Nat.le_trans S13.out.bel.size (Nat.le_trans HBX.out.size hc3)⟩, hr3⟩
       have C12 : Hid (Calls Try.prog 21 #[.pointer (some ⟨k.m, 0, none⟩), .slice none 0 0] w14 fun e w2 => e = .returned (.int .i64 0) ∧ Tr w k k2 k3 Z1 Z1 (fun _ => (0, 0)) w2) := tr_nil h14
       clear hme hr3 hm3 hrr3 hc3 hb3 HBX HBY HO1 HO2 h14 S13)
    | (go_at_call 21; refine C12.out.mono ?_; rintro e w15 ⟨rfl, h15⟩; clear C12
       have C13 : Hid (Calls Try.prog 15 #[.pointer (some ⟨k.m, 0, none⟩), .pointer (some ⟨k3.m, 0, none⟩)] w15 fun e w2 => e = .returned (.bool false) ∧ Tr w k k2 k3 Z1 Z1 (fun _ => (0, 0)) w2) := tr_same13 h15
       clear h15)
    | (go_at_call 15; refine C13.out.mono ?_; rintro e w16 ⟨rfl, h16⟩; clear C13
       have C14 : Hid (Calls Try.prog 27 #[v] w16 fun e w2 => ∃ u, e = .returned u ∧ SgsAt (fun g => w16.heap.size ≤ g) w2 u L ∧ Below w16.heap.size w16 w2) := HSG.out _ h16.p.bel
       have S16 := hidD h16
       clear h16)
    | (go_at_call 27; refine C14.out.mono ?_; rintro e w17 ⟨u3, rfl, hs, hb⟩; clear C14
       have C15 : Hid (Calls Try.prog 21 #[.pointer (some ⟨k3.m, 0, none⟩), u3] w17 fun e w2 => e = .returned (.int .i64 lc) ∧ ∃ Z3, Tr w k k2 k3 Z1 Z1 Z3 w2) := by have := tr_loadC S16.out hb hs hl hlb; rw [HLC.out] at this; exact this
       clear hs hb S16)
    | (go_at_call 21; refine C15.out.mono ?_; rintro e w18 ⟨rfl, Z3, h18⟩; clear C15
       have C16 : Hid (Calls Try.prog 27 #[v] w18 fun e w2 => ∃ u, e = .returned u ∧ SgsAt (fun g => w18.heap.size ≤ g) w2 u L ∧ Below w18.heap.size w18 w2) := HSG.out _ h18.p.bel
       have S18 := hidD h18
       clear h18)
    | (go_at_call 27; refine C16.out.mono ?_; rintro e w19 ⟨u4, rfl, hs, hb⟩; clear C16
       have C17 : Hid (Calls Try.prog 21 #[.pointer (some ⟨k.m, 0, none⟩), u4] w19 fun e w2 => e = .returned (.int .i64 lc) ∧ Tr w k k2 k3 Z1 Z1 Z3 w2) := by have := tr_loadA S18.out hb hs hl hlb; rw [HLC.out, HTW.out] at this; exact this
       clear hs hb S18)
    | (go_at_call 21; refine C17.out.mono ?_; rintro e w20 ⟨rfl, h20⟩; clear C17
       have C18 : Hid (Calls Try.prog 15 #[.pointer (some ⟨k.m, 0, none⟩), .pointer (some ⟨k3.m, 0, none⟩)] w20 fun e w2 => e = .returned (.bool false) ∧ Tr w k k2 k3 Z1 Z1 Z3 w2) := tr_same13 h20
       clear h20)
    | (go_at_call 15; refine C18.out.mono ?_; rintro e w21 ⟨rfl, h21⟩; clear C18
       have C19 : Hid (Calls Try.prog 15 #[.pointer (some ⟨k3.m, 0, none⟩), .pointer (some ⟨k.m, 0, none⟩)] w21 fun e w2 => e = .returned (.bool false) ∧ Tr w k k2 k3 Z1 Z1 Z3 w2) := tr_same31 h21
       clear h21)
    | (go_at_call 15; refine C19.out.mono ?_; rintro e w22 ⟨rfl, h22⟩; clear C19
       have C20 : Hid (Calls Try.prog 18 #[.pointer (some ⟨k.m, 0, none⟩), .int .i64 (A : Int)] w22 fun e w2 => e = .returned (.tuple #[.agg #[.int .u64 (D : Int), .int .u8 (C : Int)], .int .i64 0]) ∧ Tr w k k2 k3 Z1 Z1 Z3 w2) := by have := tr_cell h22 A HAc.out.1; rw [HDC.out] at this; exact this
       have HLT : Hid (D < 256 ∧ C < 32) := by have := (h22.p.a.ce.cell (i := A) (by have := HAc.out.1; omega)).2; rw [HDC.out] at this; exact this
       clear h22)
    | (go_at_call 18; refine C20.out.mono ?_; rintro e w23 ⟨rfl, h23⟩; clear C20
       obtain ⟨g0, g1⟩ := wd_at w23 D C
       have h23b := h23.next (pin_map (w := w23) (.cells #[.int .u64 (D : Int), .int .u8 (C : Int)] (58 : TypeId)))
       have C21 : Hid (Calls Try.prog 23 #[.pointer (some ⟨k2.m, 0, none⟩), .int .i64 (A : Int), .agg #[.int .u64 (D : Int), .int .u8 (C : Int)]] (w23.alloc (.cells #[.int .u64 (D : Int), .int .u8 (C : Int)] (58 : TypeId))) fun e w2 => e = .returned (.int .i64 0) ∧ Tr w k k2 k3 Z1 Z1 Z3 w2) := by have := tr_lay h23b A D C HAc.out.1 HLT.out.1 HLT.out.2; rw [← HDC.out, upd_own] at this; exact this
       clear h23 h23b)
    | (go_at_call 23; refine C21.out.mono ?_; rintro e w24 ⟨rfl, h24⟩; clear C21
       have C22 : Hid (Calls Try.prog 27 #[v] w24 fun e w2 => ∃ u, e = .returned u ∧ SgsAt (fun g => w24.heap.size ≤ g) w2 u L ∧ Below w24.heap.size w24 w2) := HSG.out _ h24.p.bel
       have S24 := hidD h24
       clear h24)
    | (go_at_call 27; refine C22.out.mono ?_; rintro e w25 ⟨u5, rfl, hs, hb⟩; clear C22
       have C23 : Hid (Calls Try.prog 21 #[.pointer (some ⟨k2.m, 0, none⟩), u5] w25 fun e w2 => e = .returned (.int .i64 lc) ∧ Tr w k k2 k3 Z1 Z1 Z3 w2) := by have := tr_loadB S24.out hb hs hl hlb; rw [HLC.out, HTW.out] at this; exact this
       clear hs hb S24)
    | (go_at_call 21; refine C23.out.mono ?_; rintro e w26 ⟨rfl, h26⟩; clear C23
       have C24 : Hid (Calls Try.prog 27 #[v] w26 fun e w2 => ∃ u, e = .returned u ∧ SgsAt (fun g => w26.heap.size ≤ g) w2 u L ∧ Below w26.heap.size w26 w2) := HSG.out _ h26.p.bel
       have S26 := hidD h26
       clear h26)
    | (go_at_call 27; refine C24.out.mono ?_; rintro e w27 ⟨u6, rfl, hs, hb⟩; clear C24
       have C25 : Hid (Calls Try.prog 21 #[.pointer (some ⟨k.m, 0, none⟩), u6] w27 fun e w2 => e = .returned (.int .i64 lc) ∧ Tr w k k2 k3 Z1 Z1 Z3 w2) := by have := tr_loadA S26.out hb hs hl hlb; rw [HLC.out, HTW.out] at this; exact this
       clear hs hb S26)
    | (go_at_call 21; refine C25.out.mono ?_; rintro e w28 ⟨rfl, h28⟩; clear C25
       have C26 : Hid (Calls Try.prog 15 #[.pointer (some ⟨k.m, 0, none⟩), .pointer (some ⟨k2.m, 0, none⟩)] w28 fun e w2 => e = .returned (.bool true) ∧ Tr w k k2 k3 Z1 Z1 Z3 w2) := tr_same h28 true (iff_of_true rfl fun i _ => rfl)
       clear h28)
    | (go_at_call 15; refine C26.out.mono ?_; rintro e w29 ⟨rfl, h29⟩; clear C26
       have HF := hidD h29.p.bel
       clear h29))
  go_ret
  exact ⟨rfl, HF.out⟩
end Go.Proofs.Ytjnfnihhihncmaa
