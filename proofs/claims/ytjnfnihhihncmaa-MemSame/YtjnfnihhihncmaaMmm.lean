/- A memory that a law has made; alive. -/
import Derived.Test.YtjnfnihhihncmaaMml
namespace Go.Proofs.Ytjnfnihhihncmaa
open Go.RowKit
set_option linter.unusedVariables false

theorem sorted_uniq {L M T : List Rgn} (h : SortedTo L M) (hp : T.Perm L) (ht : T.Pairwise (fun a b => a.1 < b.1)) : M = T := by
  have hm : M.Pairwise (fun a b => a.1 ≤ b.1) := List.pairwise_iff_getElem.2 fun i j hi hj hij => h.2 i j hij hj
  refine List.Perm.eq_of_pairwise (le := fun a b => a.1 ≤ b.1) (fun a b ha hb h1 h2 => ?_) hm (ht.imp fun h => Int.le_of_lt h) (h.1.trans hp.symm)
  have ha2 : a ∈ T := (h.1.trans hp.symm).mem_iff.1 ha
  obtain ⟨i, hi, rfl⟩ := List.mem_iff_getElem.1 ha2
  obtain ⟨j, hj, rfl⟩ := List.mem_iff_getElem.1 hb
  have hq := List.pairwise_iff_getElem.1 ht
  rcases Nat.lt_trichotomy i j with hij | rfl | hij
  · have := hq i j hi hj hij; omega
  · rfl
  · have := hq j i hj hi hij; omega
/- a memory of one's own, of regions R, cells Z, counts x and y, made behind w0; nothing is attached -/
structure Hv (w0 : World) (k : Mk) (R : List Rgn) (Z : Nat → Nat × Nat) (x y : Int) (w : World) : Prop where
  me : MeAt w k Z x y
  map : w.heap[k.p]? = some (.map #[] 0)
  lm : w0.heap.size ≤ k.m
  lc : w0.heap.size ≤ k.c
  bel : Below w0.heap.size w0 w
  hR : k.R = R
theorem Hv.chg {w0 w w' : World} {k : Mk} {R : List Rgn} {Z Z' : Nat → Nat × Nat} {x y x' y' : Int} (h : Hv w0 k R Z x y w) (hm : MeAt w' k Z' x' y') (hc : Chg k.own w w') : Hv w0 k R Z' x' y' w' :=
  ⟨hm, (hc.block _ (row_lt h.map) (fun e => e.elim (fun e => hm.ok.2.1 e.symm) (fun e => hm.ok.2.2.2.2.1 e))).trans h.map, h.lm, h.lc, h.bel.trans (hc.below h.bel.size fun i hi e => e.elim (fun e => by have := h.lm; omega) (fun e => by have := h.lc; omega)), h.hR⟩
theorem Hv.next {w0 w w' : World} {k : Mk} {R : List Rgn} {Z : Nat → Nat × Nat} {x y : Int} (h : Hv w0 k R Z x y w) (hb : Below w.heap.size w w') : Hv w0 k R Z x y w' := h.chg (h.me.next hb) (Chg.of hb)
/- the memory stands apart from what was there ahead of it: one that is made anew starts another frame -/
theorem Hv.frame {w0 w1 w : World} {k : Mk} {R : List Rgn} {Z : Nat → Nat × Nat} {x y : Int} (h : Hv w1 k R Z x y w) (hb : Below w0.heap.size w0 w1) : Hv w0 k R Z x y w :=
  ⟨h.me, h.map, Nat.le_trans hb.size h.lm, Nat.le_trans hb.size h.lc, hb.trans (h.bel.mono hb.size), h.hR⟩
theorem hv_new (L T : List Rgn) (hl : L.length ≤ 64) (v : Value) (w : World) (h : RsAt w v L) (hok : ∀ x ∈ L, okR x) (hp : T.Perm L) (ht : T.Pairwise (fun a b => a.1 < b.1)) (hov : ¬ overR T) :
    Calls Try.prog 9 #[v] w fun e w' => ∃ k : Mk, e = .returned (.tuple #[.pointer (some ⟨k.m, 0, none⟩), .int .i64 0]) ∧ Hv w k T (fun _ => (0, 0)) 0 0 w' := by
  refine (new_ok L (by omega) v w h hok).mono ?_
  rintro e w' ⟨M, hM, hN⟩
  have := sorted_uniq hM hp ht
  subst this
  rcases hN with ⟨h1, _⟩ | ⟨_, h1, _⟩ | ⟨_, _, k, h1, h2, h3, h4, h5, h6, h7, h8, h9⟩
  · exact absurd h1 hov
  · have := sorted_len hM; omega
  · exact ⟨k, h2, h3, h4, h5, h8, h9, h1⟩
section
variable {w0 w : World} {k : Mk} {R : List Rgn} {Z : Nat → Nat × Nat} {x y : Int}
theorem Hv.rg (h : Hv w0 k R Z x y w) {a : Int} {q : Rgn × Int} (hq : rgo R a = q) : rgo k.R a = q := by rw [h.hR]; exact hq
theorem hv_write (h : Hv w0 k R Z x y w) (a : Nat) (f t : Int) (hq : rgo R a = ((f, t, 1), 0)) (b : Nat) (hb : b < 256) :
    Calls Try.prog 20 #[.pointer (some ⟨k.m, 0, none⟩), .int .i64 a, .int .u8 (b : Int)] w fun e w' => e = .returned (.int .i64 0) ∧ Hv w0 k R (upd Z a (encZ b)) x y w' :=
  (write_ram h.me a f t (h.rg hq) b hb).mono fun e w' ⟨h1, h2, h3⟩ => ⟨h1, h.chg h2 h3⟩
theorem hv_rom (h : Hv w0 k R Z x y w) (a : Int) (f t : Int) (hq : rgo R a = ((f, t, 2), 0)) (b : Nat) :
    Calls Try.prog 20 #[.pointer (some ⟨k.m, 0, none⟩), .int .i64 a, .int .u8 (b : Int)] w fun e w' => e = .returned (.int .i64 231) ∧ Hv w0 k R Z x y w' :=
  (write_rom _ a b f t w (reg_next h.me a (Below.refl _ _) (h.rg hq))).mono fun e w' ⟨h1, h2⟩ => ⟨h1, h.next h2⟩
theorem hv_turn (h : Hv w0 k R Z x y w) (a : Nat) (f t kd : Int) (hq : rgo R a = ((f, t, kd), 0)) (hkd : kd = 1 ∨ kd = 2) (b : Nat) (hb : b < 13) :
    Calls Try.prog 22 #[.pointer (some ⟨k.m, 0, none⟩), .int .i64 a, .int .i64 b] w fun e w' => e = .returned (.int .i64 0) ∧ Hv w0 k R (upd Z a (turZ (Z a) b)) x y w' :=
  (memTurn_ok h.me a f t kd (h.rg hq) hkd b hb).mono fun e w' ⟨h1, h2, h3⟩ => ⟨h1, h.chg h2 h3⟩
theorem hv_read (h : Hv w0 k R Z x y w) (a : Nat) (f t kd : Int) (hq : rgo R a = ((f, t, kd), 0)) (hkd : kd = 1 ∨ kd = 2) (hx : 0 ≤ x ∧ x < 4611686018427387904) (hy : 0 ≤ y ∧ y < 4611686018427387904) :
    Calls Try.prog 16 #[.pointer (some ⟨k.m, 0, none⟩), .int .i64 a] w fun e w' => e = .returned (.tuple #[.int .u8 ((decS (Z a)).1 : Int), .int .i64 (rdE (Z a))]) ∧ Hv w0 k R (upd Z a (mdZ (Z a))) (x + mX (Z a)) (y + mY (Z a)) w' :=
  (read_cell h.me a f t kd (h.rg hq) hkd hx hy).mono fun e w' ⟨h1, h2, h3⟩ => ⟨h1, h.chg h2 h3⟩
theorem hv_open (h : Hv w0 k R Z x y w) (a : Int) (f t : Int) (hq : rgo R a = ((f, t, 3), 0)) (kl : Lit) (hk : keyOf Try.prog 35 (.agg #[.int .i64 f, .int .i64 t, .int .i64 3]) = some kl) :
    Calls Try.prog 16 #[.pointer (some ⟨k.m, 0, none⟩), .int .i64 a] w fun e w' => e = .returned (.tuple #[.int .u8 255, .int .i64 0]) ∧ Hv w0 k R Z x y w' :=
  (read_open h.me a f t (h.rg hq) 0 h.map kl hk).mono fun e w' ⟨h1, h2⟩ => ⟨h1, h.next h2⟩
theorem hv_peek (h : Hv w0 k R Z x y w) (a : Nat) (f t kd : Int) (hq : rgo R a = ((f, t, kd), 0)) (hkd : kd = 1 ∨ kd = 2) :
    Calls Try.prog 17 #[.pointer (some ⟨k.m, 0, none⟩), .int .i64 a] w fun e w' => e = .returned (.tuple #[.int .u8 ((decS (Z a)).1 : Int), .int .i64 (rdE (Z a))]) ∧ Hv w0 k R Z x y w' :=
  (peek_ok h.me a f t kd (h.rg hq) hkd).mono fun e w' ⟨h1, h2⟩ => ⟨h1, h.next h2⟩
theorem hv_counts (h : Hv w0 k R Z x y w) : Calls Try.prog 14 #[.pointer (some ⟨k.m, 0, none⟩)] w fun e w' => e = .returned (.tuple #[.int .i64 x, .int .i64 y]) ∧ Hv w0 k R Z x y w' :=
  (counts_any h.me).mono fun e w' ⟨h1, h2⟩ => ⟨h1, h.next h2⟩
theorem hv_kind (h : Hv w0 k R Z x y w) (a : Int) (q : Rgn × Int) (hq : rgo R a = q) : Calls Try.prog 26 #[.pointer (some ⟨k.m, 0, none⟩), .int .i64 a] w fun e w' => e = .returned (.int .i64 q.1.2.2) ∧ Hv w0 k R Z x y w' :=
  (kind_any h.me a).mono fun e w' ⟨h1, h2⟩ => ⟨by rw [h1, h.rg hq], h.next h2⟩
end
/- three regions, laid as a list's cells -/
def aR : List Rgn := [(0, 256, 1), (256, 512, 2), (512, 516, 3)]
theorem aR_ok : ∀ x ∈ aR, okR x := by unfold okR; decide
theorem aR_over : ¬ overR aR := fun ⟨i, h, hv⟩ => by
  have h' : i + 1 < 3 := h
  have hi : i = 0 ∨ i = 1 := by omega
  rcases hi with rfl | rfl
  · exact absurd (show (256 : Int) < 256 from hv) (by decide)
  · exact absurd (show (512 : Int) < 512 from hv) (by decide)
theorem row_rs {w : World} {g cap : Nat} {e : TypeId} {L : List Rgn} (h : w.heap[g]? = some (.cells (flatR L).toArray e (0, 0))) : RsAt w (.slice (some ⟨g, 0, none⟩) L.length cap) L := by
  refine ⟨_, cap, rfl, fun h => by simp at h, fun i hi => ⟨g, 0, rfl, row_lt h, ?_⟩⟩
  obtain ⟨c0, c1, c2⟩ := flatR_get L i hi
  simp only [Nat.zero_add]
  refine ⟨?_, ?_, ?_⟩ <;> rw [cell_of_row _ _ _ _ _ _ h, List.getElem?_toArray]
  · exact c0
  · exact c1
  · exact c2
theorem turned7 : rdE (turZ (encZ 7) 0) = 0 ∧ (decS (turZ (encZ 7) 0)).1 = 7 ∧ mX (turZ (encZ 7) 0) = 1 ∧ mY (turZ (encZ 7) 0) = 0 := by
  have := dec_tur 7 0 (by decide)
  refine ⟨?_, ?_, ?_, ?_⟩ <;> simp [rdE, mX, mY, this]
theorem key_a : ∃ kl, keyOf Try.prog 35 (.agg #[.int .i64 512, .int .i64 516, .int .i64 3]) = some kl := Option.isSome_iff_exists.1 (by kernel_rfl)
theorem aR_5 : rgo aR 5 = ((0, 256, 1), 0) := by decide
theorem aR_300 : rgo aR 300 = ((256, 512, 2), 0) := by decide
theorem aR_512 : rgo aR 512 = ((512, 516, 3), 0) := by decide
set_option maxRecDepth 100000 in
set_option maxHeartbeats 3200000 in
theorem alive_any (w : World) : Calls Try.prog 11 #[] w fun e w' => e = .returned (.bool true) ∧ Below w.heap.size w w' := by
  have HB1 := hidD (pin_map (w := w) (.cells #[.int .i64 0, .int .i64 256, .int .i64 1, .int .i64 256, .int .i64 512, .int .i64 2, .int .i64 512, .int .i64 516, .int .i64 3] (35 : TypeId)))
  have HNW : Hid (Calls Try.prog 9 #[.slice (some ⟨w.heap.size, 0, none⟩) 3 3] (w.alloc (.cells #[.int .i64 0, .int .i64 256, .int .i64 1, .int .i64 256, .int .i64 512, .int .i64 2, .int .i64 512, .int .i64 516, .int .i64 3] (35 : TypeId))) fun e w' => ∃ k : Mk, e = .returned (.tuple #[.pointer (some ⟨k.m, 0, none⟩), .int .i64 0]) ∧ Hv w k aR (fun _ => (0, 0)) 0 0 w') :=
    (hv_new aR aR (by decide) _ _ (row_rs (g := w.heap.size) (cap := 3) (L := aR) (heap_alloc_last w (.cells #[.int .i64 0, .int .i64 256, .int .i64 1, .int .i64 256, .int .i64 512, .int .i64 2, .int .i64 512, .int .i64 516, .int .i64 3] (35 : TypeId)))) aR_ok (List.Perm.refl _) (by decide) aR_over).mono fun e w' ⟨k, h1, h2⟩ => ⟨k, h1, h2.frame HB1.out⟩
  obtain ⟨kl, hkl⟩ := key_a
  have HKL := hidD hkl
  clear hkl HB1
  obtain ⟨t1, t2, t3, t4⟩ := turned7
  have HT := hidD (And.intro t1 (And.intro t2 (And.intro t3 t4)))
  clear t1 t2 t3 t4
  go_enter Try.func11, Try.ntmps11
  go_wp2_with (first
    | (go_at_call 9; refine HNW.out.mono ?_; rintro e w1 ⟨k, rfl, hv1⟩
       have C1 : Hid (Calls Try.prog 20 #[.pointer (some ⟨k.m, 0, none⟩), .int .i64 5, .int .u8 7] w1 fun e w' => e = .returned (.int .i64 0) ∧ Hv w k aR (upd (fun _ => (0, 0)) 5 (encZ 7)) 0 0 w') := hv_write hv1 5 0 256 aR_5 7 (by decide)
       clear hv1)
    | (go_at_call 20; refine C1.out.mono ?_; rintro e w2 ⟨rfl, hv2⟩; clear C1
       have C2 : Hid (Calls Try.prog 20 #[.pointer (some ⟨k.m, 0, none⟩), .int .i64 300, .int .u8 1] w2 fun e w' => e = .returned (.int .i64 231) ∧ Hv w k aR (upd (fun _ => (0, 0)) 5 (encZ 7)) 0 0 w') := hv_rom hv2 300 256 512 aR_300 1
       clear hv2)
    | (go_at_call 20; refine C2.out.mono ?_; rintro e w3 ⟨rfl, hv3⟩; clear C2
       have C3 : Hid (Calls Try.prog 22 #[.pointer (some ⟨k.m, 0, none⟩), .int .i64 5, .int .i64 0] w3 fun e w' => e = .returned (.int .i64 0) ∧ Hv w k aR (upd (fun _ => (0, 0)) 5 (turZ (encZ 7) 0)) 0 0 w') := by
         have := hv_turn hv3 5 0 256 1 aR_5 (Or.inl rfl) 0 (by decide)
         rw [upd_same, upd_upd] at this; exact this
       clear hv3)
    | (go_at_call 22; refine C3.out.mono ?_; rintro e w4 ⟨rfl, hv4⟩; clear C3
       have C4 : Hid (Calls Try.prog 16 #[.pointer (some ⟨k.m, 0, none⟩), .int .i64 5] w4 fun e w' => e = .returned (.tuple #[.int .u8 7, .int .i64 0]) ∧ Hv w k aR (upd (upd (fun _ => (0, 0)) 5 (turZ (encZ 7) 0)) 5 (mdZ (turZ (encZ 7) 0))) 1 0 w') := by
         have := hv_read hv4 5 0 256 1 aR_5 (Or.inl rfl) (by decide) (by decide)
         rw [upd_same, HT.out.1, HT.out.2.1, HT.out.2.2.1, HT.out.2.2.2] at this; exact this
       clear hv4)
    | (go_at_call 16; refine C4.out.mono ?_; rintro e w5 ⟨rfl, hv5⟩; clear C4
       have C5 : Hid (Calls Try.prog 16 #[.pointer (some ⟨k.m, 0, none⟩), .int .i64 512] w5 fun e w' => e = .returned (.tuple #[.int .u8 255, .int .i64 0]) ∧ Hv w k aR (upd (upd (fun _ => (0, 0)) 5 (turZ (encZ 7) 0)) 5 (mdZ (turZ (encZ 7) 0))) 1 0 w') := hv_open hv5 512 512 516 aR_512 kl HKL.out
       clear hv5)
    | (go_at_call 16; refine C5.out.mono ?_; rintro e w6 ⟨rfl, hv6⟩; clear C5
       have C6 : Hid (Calls Try.prog 14 #[.pointer (some ⟨k.m, 0, none⟩)] w6 fun e w' => e = .returned (.tuple #[.int .i64 1, .int .i64 0]) ∧ Hv w k aR (upd (upd (fun _ => (0, 0)) 5 (turZ (encZ 7) 0)) 5 (mdZ (turZ (encZ 7) 0))) 1 0 w') := hv_counts hv6
       clear hv6)
    | (go_at_call 14; refine C6.out.mono ?_; rintro e w7 ⟨rfl, hv7⟩; clear C6
       have C7 : Hid (Calls Try.prog 26 #[.pointer (some ⟨k.m, 0, none⟩), .int .i64 512] w7 fun e w' => e = .returned (.int .i64 3) ∧ Hv w k aR (upd (upd (fun _ => (0, 0)) 5 (turZ (encZ 7) 0)) 5 (mdZ (turZ (encZ 7) 0))) 1 0 w') := hv_kind hv7 512 _ aR_512
       clear hv7)
    | (go_at_call 26; refine C7.out.mono ?_; rintro e w8 ⟨rfl, hv8⟩; have HF := hidD hv8.bel; clear C7 hv8))
  go_ret
  exact ⟨rfl, HF.out⟩
end Go.Proofs.Ytjnfnihhihncmaa
