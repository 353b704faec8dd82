/- MemSame: plain facts of loads; two and three memories beside one another. -/
import Derived.Test.YtjnfnihhihncmaaMmv
import Derived.Test.YtjnfnihhihncmaaMmw
namespace Go.Proofs.Ytjnfnihhihncmaa
open Go.RowKit
set_option linter.unusedVariables false

theorem lay_opt (a : Nat) (bs : List UInt8) : ∀ n, ∃ c : Nat → Option (Nat × Nat), ∀ Z, layN Z a bs n = fun i => (c i).getD (Z i)
  | 0 => ⟨fun _ => none, fun Z => rfl⟩
  | n + 1 => by
    obtain ⟨c, hc⟩ := lay_opt a bs n
    refine ⟨fun i => if i = a + n then some (encZ (bs.getD n 0).toNat) else c i, fun Z => funext fun i => ?_⟩
    show upd (layN Z a bs n) (a + n) (encZ (bs.getD n 0).toNat) i = _
    rw [hc Z]; unfold upd
    by_cases h : i = a + n
    · simp [h]
    · simp [h]
theorem load_opt (L : List Sg) : ∀ n, ∃ c : Nat → Option (Nat × Nat), ∀ Z, loadTo Z L n = fun i => (c i).getD (Z i)
  | 0 => ⟨fun _ => none, fun Z => rfl⟩
  | n + 1 => by
    obtain ⟨c, hc⟩ := load_opt L n
    obtain ⟨c2, hc2⟩ := lay_opt (L.getD n (0, [])).1.toNat (L.getD n (0, [])).2 (L.getD n (0, [])).2.length
    refine ⟨fun i => (c2 i).or (c i), fun Z => funext fun i => ?_⟩
    show layN (loadTo Z L n) _ _ _ i = _
    rw [hc2, hc]
    show (c2 i).getD ((c i).getD (Z i)) = ((c2 i).or (c i)).getD (Z i)
    cases c2 i <;> rfl
open Classical in
noncomputable def loadC (R : List Rgn) (L : List Sg) : Int := if ∀ s ∈ L, okA s then (if ∀ s ∈ L, okC R s then 0 else 230) else 1
open Classical in
noncomputable def loadZ (R : List Rgn) (Z : Nat → Nat × Nat) (L : List Sg) : Nat → Nat × Nat := if (∀ s ∈ L, okA s) ∧ (∀ s ∈ L, okC R s) then loadTo Z L L.length else Z
theorem loadZ_opt (R : List Rgn) (L : List Sg) : ∃ c : Nat → Option (Nat × Nat), ∀ Z, loadZ R Z L = fun i => (c i).getD (Z i) := by
  unfold loadZ
  split
  · exact load_opt L L.length
  · exact ⟨fun _ => none, fun Z => rfl⟩
theorem loadZ_twice (R : List Rgn) (Z : Nat → Nat × Nat) (L : List Sg) : loadZ R (loadZ R Z L) L = loadZ R Z L := by
  obtain ⟨c, hc⟩ := loadZ_opt R L
  rw [hc, hc]
  funext i
  cases h : c i <;> simp [h]
theorem loadZ_nil (R : List Rgn) (Z : Nat → Nat × Nat) : loadZ R Z [] = Z := by unfold loadZ; split <;> rfl
theorem loadC_nil (R : List Rgn) : loadC R [] = 0 := by unfold loadC; rw [if_pos (by simp), if_pos (by simp)]
theorem load_fn {w : World} {k : Mk} {Z : Nat → Nat × Nat} {x y : Int} (h : MeAt w k Z x y) (hs : SepR k.R) (L : List Sg) (hl : L.length ≤ 140737488355328) (hb : ∀ s ∈ L, s.2.length ≤ 140737488355328) (v : Value) (hv : SgsAt (fun g => ¬ k.own g) w v L) :
    Calls Try.prog 21 #[.pointer (some ⟨k.m, 0, none⟩), v] w fun e w' => e = .returned (.int .i64 (loadC k.R L)) ∧ MeAt w' k (loadZ k.R Z L) x y ∧ Chg k.own w w' := by
  refine (load_any h hs L hl hb v hv).mono ?_
  rintro e w' (⟨⟨s, hs1, hs2⟩, he, hbl⟩ | ⟨ha, ⟨s, hs1, hs2⟩, he, hbl⟩ | ⟨ha, hc, he, hm, hch⟩)
  · have hn : ¬ ∀ s ∈ L, okA s := fun h => hs2 (h s hs1)
    unfold loadC loadZ
    rw [if_neg hn, if_neg (fun h => hn h.1)]
    exact ⟨he, h.next hbl, Chg.of hbl⟩
  · have hn : ¬ ∀ s ∈ L, okC k.R s := fun h => hs2 (h s hs1)
    unfold loadC loadZ
    rw [if_pos ha, if_neg hn, if_neg (fun h => hn h.2)]
    exact ⟨he, h.next hbl, Chg.of hbl⟩
  · unfold loadC loadZ
    rw [if_pos ha, if_pos hc, if_pos ⟨ha, hc⟩]
    exact ⟨he, hm, hch⟩
def dR : List Rgn := [(0, 256, 1), (256, 1024, 2)]
def xR : List Rgn := [(0, 1024, 1)]
theorem dR_ok : ∀ x ∈ dR, okR x := by unfold okR; decide
theorem dR_sep : SepR dR := ⟨by unfold dR; decide, dR_ok⟩
theorem dR_over : ¬ overR dR := fun ⟨i, h, hv⟩ => by
  have h' : i + 1 < 2 := h
  have hi : i = 0 := by omega
  subst hi
  exact absurd (show (256 : Int) < 256 from hv) (by decide)
theorem xR_ok : ∀ x ∈ xR, okR x := by unfold okR; decide
theorem xR_sep : SepR xR := ⟨by unfold xR; decide, xR_ok⟩
theorem xR_over : ¬ overR xR := fun ⟨i, h, hv⟩ => by have h' : i + 1 < 1 := h; omega
theorem dR_at (A : Nat) (h : A < 1024) : ∃ f t kd, rgo dR (A : Int) = ((f, t, kd), 0) ∧ (kd = 1 ∨ kd = 2) := by
  have h1 : (0 : Int) ≤ A ∧ (A : Int) < 65536 := by omega
  unfold rgo dR findR
  rw [if_pos h1]
  by_cases h2 : (0 : Int) ≤ A ∧ (A : Int) < 256
  · rw [if_pos h2]; exact ⟨0, 256, 1, rfl, .inl rfl⟩
  · rw [if_neg h2]
    unfold findR
    rw [if_pos (show (256 : Int) ≤ A ∧ (A : Int) < 1024 by omega)]; exact ⟨256, 1024, 2, rfl, .inr rfl⟩
theorem cell_dx (a : Int) : cellR dR a ↔ cellR xR a := by
  unfold cellR rgo dR xR
  by_cases h1 : 0 ≤ a ∧ a < 65536
  · rw [if_pos h1, if_pos h1]
    unfold findR
    by_cases h2 : 0 ≤ a ∧ a < 1024
    · by_cases h3 : 0 ≤ a ∧ a < 256
      · rw [if_pos h3, if_pos h2]
      · rw [if_neg h3, if_pos h2]
        unfold findR
        rw [if_pos (show (256 : Int) ≤ a ∧ a < 1024 by omega)]; simp
    · rw [if_neg (show ¬ (0 ≤ a ∧ a < 256) by omega), if_neg h2]
      unfold findR
      rw [if_neg (show ¬ (256 ≤ a ∧ a < 1024) by omega)]
      exact Iff.rfl
  · rw [if_neg h1, if_neg h1]
theorem loadC_dx (L : List Sg) : loadC dR L = loadC xR L := by
  have : (∀ s ∈ L, okC dR s) ↔ (∀ s ∈ L, okC xR s) := by
    unfold okC allR
    exact ⟨fun h s hs a h1 h2 => (cell_dx a).1 (h s hs a h1 h2), fun h s hs a h1 h2 => (cell_dx a).2 (h s hs a h1 h2)⟩
  unfold loadC
  by_cases ha : ∀ s ∈ L, okA s
  · rw [if_pos ha, if_pos ha]
    by_cases h : ∀ s ∈ L, okC dR s
    · rw [if_pos h, if_pos (this.1 h)]
    · rw [if_neg h, if_neg (fun e => h (this.2 e))]
  · rw [if_neg ha, if_neg ha]
theorem turZ_ne (z : Nat × Nat) (a : Nat) : turZ z a ≠ z := fun e => by
  have h1 := congrArg Prod.fst e
  have h2 := congrArg Prod.snd e
  unfold turZ turD turC at h1 h2
  have hx : ∀ d m : Nat, d ^^^ 2 ^ m ≠ d := fun d m e => by
    have h3 : d ^^^ 2 ^ m ^^^ d = d ^^^ d := by rw [e]
    rw [Nat.xor_comm d, Nat.xor_assoc, Nat.xor_self, Nat.xor_zero] at h3
    have := Nat.two_pow_pos m
    omega
  by_cases h : a < 8
  · simp only [if_pos h] at h1; exact hx _ _ h1
  · simp only [if_neg h] at h2; exact hx _ _ h2
/- memories beside one another -/
def Mk.off (k k2 : Mk) : Prop := ¬ k.own k2.m ∧ ¬ k.own k2.r ∧ ¬ k.own k2.c
theorem MeAt.off {w w' : World} {k k2 : Mk} {Z : Nat → Nat × Nat} {x y : Int} (h : MeAt w k2 Z x y) (hc : Chg k.own w w') (ho : k.off k2) : MeAt w' k2 Z x y := h.keep hc ho.1 ho.2.1 ho.2.2
structure Pr (w0 : World) (k k2 : Mk) (Z Z2 : Nat → Nat × Nat) (w : World) : Prop where
  a : MeAt w k Z 0 0
  b : MeAt w k2 Z2 0 0
  ab : k.off k2
  ba : k2.off k
  la : w0.heap.size ≤ k.m ∧ w0.heap.size ≤ k.c
  lb : w0.heap.size ≤ k2.m ∧ w0.heap.size ≤ k2.c
  bel : Below w0.heap.size w0 w
  ra : k.R = dR
  rb : k2.R = dR
theorem own_ge {k : Mk} {B : Nat} (h : B ≤ k.m ∧ B ≤ k.c) : ∀ i, i < B → ¬ k.own i := fun i hi e => e.elim (fun e => by omega) (fun e => by omega)
section
variable {w0 w w' : World} {k k2 k3 : Mk} {Z Z2 Z3 Z' : Nat → Nat × Nat}
theorem Pr.next (h : Pr w0 k k2 Z Z2 w) (hb : Below w.heap.size w w') : Pr w0 k k2 Z Z2 w' := ⟨h.a.next hb, h.b.next hb, h.ab, h.ba, h.la, h.lb, Below.next h.bel hb, h.ra, h.rb⟩
theorem Pr.one (h : Pr w0 k k2 Z Z2 w) (hm : MeAt w' k Z' 0 0) (hc : Chg k.own w w') : Pr w0 k k2 Z' Z2 w' := ⟨hm, h.b.off hc h.ab, h.ab, h.ba, h.la, h.lb, h.bel.trans (hc.below h.bel.size (own_ge h.la)), h.ra, h.rb⟩
theorem Pr.two (h : Pr w0 k k2 Z Z2 w) (hm : MeAt w' k2 Z' 0 0) (hc : Chg k2.own w w') : Pr w0 k k2 Z Z' w' := ⟨h.a.off hc h.ba, hm, h.ab, h.ba, h.la, h.lb, h.bel.trans (hc.below h.bel.size (own_ge h.lb)), h.ra, h.rb⟩
structure Tr (w0 : World) (k k2 k3 : Mk) (Z Z2 Z3 : Nat → Nat × Nat) (w : World) : Prop where
  p : Pr w0 k k2 Z Z2 w
  c : MeAt w k3 Z3 0 0
  ac : k.off k3
  ca : k3.off k
  bc : k2.off k3
  cb : k3.off k2
  lc : w0.heap.size ≤ k3.m ∧ w0.heap.size ≤ k3.c
  rc : k3.R = xR
theorem Tr.next (h : Tr w0 k k2 k3 Z Z2 Z3 w) (hb : Below w.heap.size w w') : Tr w0 k k2 k3 Z Z2 Z3 w' := ⟨h.p.next hb, h.c.next hb, h.ac, h.ca, h.bc, h.cb, h.lc, h.rc⟩
theorem Tr.one (h : Tr w0 k k2 k3 Z Z2 Z3 w) (hm : MeAt w' k Z' 0 0) (hc : Chg k.own w w') : Tr w0 k k2 k3 Z' Z2 Z3 w' := ⟨h.p.one hm hc, h.c.off hc h.ac, h.ac, h.ca, h.bc, h.cb, h.lc, h.rc⟩
theorem Tr.two (h : Tr w0 k k2 k3 Z Z2 Z3 w) (hm : MeAt w' k2 Z' 0 0) (hc : Chg k2.own w w') : Tr w0 k k2 k3 Z Z' Z3 w' := ⟨h.p.two hm hc, h.c.off hc h.bc, h.ac, h.ca, h.bc, h.cb, h.lc, h.rc⟩
theorem Tr.three (h : Tr w0 k k2 k3 Z Z2 Z3 w) (hm : MeAt w' k3 Z' 0 0) (hc : Chg k3.own w w') : Tr w0 k k2 k3 Z Z2 Z' w' :=
  ⟨⟨h.p.a.off hc h.ca, h.p.b.off hc h.cb, h.p.ab, h.p.ba, h.p.la, h.p.lb, h.p.bel.trans (hc.below h.p.bel.size (own_ge h.lc)), h.p.ra, h.p.rb⟩, hm, h.ac, h.ca, h.bc, h.cb, h.lc, h.rc⟩
end
theorem hv_new2 (L T : List Rgn) (hl : L.length ≤ 64) (v : Value) (w : World) (h : RsAt w v L) (hok : ∀ x ∈ L, okR x) (hp : T.Perm L) (ht : T.Pairwise (fun a b => a.1 < b.1)) (hov : ¬ overR T) :
    Calls Try.prog 9 #[v] w fun e w' => ∃ k : Mk, e = .returned (.tuple #[.pointer (some ⟨k.m, 0, none⟩), .int .i64 0]) ∧ MeAt w' k (fun _ => (0, 0)) 0 0 ∧ k.R = T ∧ w.heap.size ≤ k.m ∧ w.heap.size ≤ k.r ∧ w.heap.size ≤ k.c ∧ Below w.heap.size w w' := by
  refine (new_ok L (by omega) v w h hok).mono ?_
  rintro e w' ⟨M, hM, hN⟩
  have := sorted_uniq hM hp ht
  subst this
  rcases hN with ⟨h1, _⟩ | ⟨_, h1, _⟩ | ⟨_, _, k, h1, h2, h3, h4, h5, h6, h7, h8, h9⟩
  · exact absurd h1 hov
  · have := sorted_len hM; omega
  · exact ⟨k, h2, h3, h1, h5, h6, h8, h9⟩
theorem off_new {w : World} {k k2 : Mk} {Z : Nat → Nat × Nat} {x y : Int} (h : MeAt w k Z x y) (h1 : w.heap.size ≤ k2.m) (h2 : w.heap.size ≤ k2.r) (h3 : w.heap.size ≤ k2.c) : k.off k2 ∧ k2.off k := by
  obtain ⟨l1, l2, l3⟩ := h.lt
  refine ⟨⟨?_, ?_, ?_⟩, ⟨?_, ?_, ?_⟩⟩ <;> exact fun e => e.elim (fun e => by omega) (fun e => by omega)
end Go.Proofs.Ytjnfnihhihncmaa
