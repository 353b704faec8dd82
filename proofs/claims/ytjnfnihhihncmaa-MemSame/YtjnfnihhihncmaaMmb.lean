/- A memory in the world; which region a place belongs to. -/
import Derived.Test.YtjnfnihhihncmaaMma
import Derived.Laws.Pointers
namespace Go.Proofs.Ytjnfnihhihncmaa
open Go.RowKit
set_option linter.unusedVariables false

/- the regions R lie in block r -/
def RgAt (w : World) (va : Option Addr) (r : Nat) (R : List (Int × Int × Int)) : Prop :=
  r < w.heap.size ∧ ∀ i (h : i < R.length), va = some ⟨r, 0, none⟩ ∧ w.cell? ⟨r, i * 3, none⟩ = some (.int .i64 R[i].1) ∧ w.cell? ⟨r, i * 3 + 1, none⟩ = some (.int .i64 R[i].2.1) ∧ w.cell? ⟨r, i * 3 + 2, none⟩ = some (.int .i64 R[i].2.2)
theorem RgAt.keep {w w' : World} {va : Option Addr} {r : Nat} {R : List (Int × Int × Int)} (h : RgAt w va r R) (hs : w.heap.size ≤ w'.heap.size) (hb : w'.heap[r]? = w.heap[r]?) : RgAt w' va r R :=
  ⟨Nat.lt_of_lt_of_le h.1 hs, fun i hi => by
    obtain ⟨h0, h1, h2, h3⟩ := h.2 i hi
    exact ⟨h0, (World.cell?_of_block (w := w) (a := ⟨r, i * 3, none⟩) hb).trans h1, (World.cell?_of_block (w := w) (a := ⟨r, i * 3 + 1, none⟩) hb).trans h2, (World.cell?_of_block (w := w) (a := ⟨r, i * 3 + 2, none⟩) hb).trans h3⟩⟩
/- the cells Z lie in block c -/
def CeAt (w : World) (c : Nat) (Z : Nat → Nat × Nat) : Prop :=
  ∃ cs : Array Value, w.heap[c]? = some (.cells cs 58 (0, 0)) ∧ cs.size = 131072 ∧ ∀ i, i < 65536 → (cs[i * 2]? = some (.int .u64 ((Z i).1 : Int)) ∧ cs[i * 2 + 1]? = some (.int .u8 ((Z i).2 : Int))) ∧ (Z i).1 < 256 ∧ (Z i).2 < 32
structure Mk where
  m : Nat
  r : Nat
  p : Nat
  c : Nat
  va : Option Addr
  rc : Nat
  R : List (Int × Int × Int)
def meC (k : Mk) (x y : Int) : Array Value := #[.slice k.va k.R.length k.rc, .map (some k.p), .slice (some ⟨k.c, 0, none⟩) 65536 65536, .int .i64 x, .int .i64 y]
def Mk.ok (k : Mk) : Prop := k.m ≠ k.r ∧ k.m ≠ k.p ∧ k.m ≠ k.c ∧ k.r ≠ k.c ∧ k.p ≠ k.c ∧ k.R.length ≤ 64
structure MeAt (w : World) (k : Mk) (Z : Nat → Nat × Nat) (x y : Int) : Prop where
  row : w.heap[k.m]? = some (.cells (meC k x y) 85 (0, 0))
  rg : RgAt w k.va k.r k.R
  ce : CeAt w k.c Z
  ok : k.ok
/- all is as it was but the blocks of S -/
structure Chg (S : Nat → Prop) (a b : World) : Prop where
  os : b.os = a.os
  tape : b.tape = a.tape
  output : b.output = a.output
  size : a.heap.size ≤ b.heap.size
  block : ∀ i, i < a.heap.size → ¬ S i → b.heap[i]? = a.heap[i]?
theorem Chg.refl (S : Nat → Prop) (a : World) : Chg S a a := ⟨rfl, rfl, rfl, Nat.le_refl _, fun _ _ _ => rfl⟩
theorem Chg.trans {S : Nat → Prop} {a b c : World} (h : Chg S a b) (k : Chg S b c) : Chg S a c :=
  ⟨k.os.trans h.os, k.tape.trans h.tape, k.output.trans h.output, Nat.le_trans h.size k.size, fun i hi hn => (k.block i (Nat.lt_of_lt_of_le hi h.size) hn).trans (h.block i hi hn)⟩
theorem Chg.mono {S T : Nat → Prop} {a b : World} (h : Chg S a b) (hs : ∀ i, S i → T i) : Chg T a b := ⟨h.os, h.tape, h.output, h.size, fun i hi hn => h.block i hi fun h' => hn (hs i h')⟩
theorem Chg.of {S : Nat → Prop} {a b : World} (h : Below a.heap.size a b) : Chg S a b := ⟨h.os, h.tape, h.output, h.size, fun i hi _ => h.block i hi⟩
theorem Chg.below {S : Nat → Prop} {a b : World} (h : Chg S a b) {B : Nat} (hB : B ≤ a.heap.size) (hs : ∀ i, i < B → ¬ S i) : Below B a b := ⟨h.os, h.tape, h.output, h.size, fun i hi => h.block i (Nat.lt_of_lt_of_le hi hB) (hs i hi)⟩
theorem Chg.set {S : Nat → Prop} {a b : World} (h : Chg S a b) (q : Addr) (hq : S q.block) (u : Value) : Chg S a (b.setCell q u) :=
  h.trans ⟨rfl, rfl, rfl, by simp [World.setCell], fun i hi hn => Below.heap_setCell _ _ _ _ (fun e => hn (e ▸ hq))⟩
/- the blocks that a memory's calls write -/
def Mk.own (k : Mk) (i : Nat) : Prop := i = k.m ∨ i = k.c
theorem MeAt.lt {w : World} {k : Mk} {Z : Nat → Nat × Nat} {x y : Int} (h : MeAt w k Z x y) : k.m < w.heap.size ∧ k.r < w.heap.size ∧ k.c < w.heap.size :=
  ⟨row_lt h.row, h.rg.1, by obtain ⟨cs, hc, _⟩ := h.ce; exact row_lt hc⟩
theorem MeAt.keep {w w' : World} {k : Mk} {Z : Nat → Nat × Nat} {x y : Int} {S : Nat → Prop} (h : MeAt w k Z x y) (hc : Chg S w w') (h1 : ¬ S k.m) (h2 : ¬ S k.r) (h3 : ¬ S k.c) : MeAt w' k Z x y := by
  obtain ⟨l1, l2, l3⟩ := h.lt
  refine ⟨(hc.block _ l1 h1).trans h.row, h.rg.keep hc.size (hc.block _ l2 h2), ?_, h.ok⟩
  obtain ⟨cs, e, r⟩ := h.ce
  exact ⟨cs, (hc.block _ l3 h3).trans e, r⟩
theorem MeAt.next {w w' : World} {k : Mk} {Z : Nat → Nat × Nat} {x y : Int} (h : MeAt w k Z x y) (hc : Below w.heap.size w w') : MeAt w' k Z x y :=
  h.keep (S := fun _ => False) (Chg.of hc) id id id
theorem MeAt.cells {w : World} {k : Mk} {Z : Nat → Nat × Nat} {x y : Int} (h : MeAt w k Z x y) :
    w.cell? ⟨k.m, 0, none⟩ = some (.slice k.va k.R.length k.rc) ∧ w.cell? ⟨k.m, 1, none⟩ = some (.map (some k.p)) ∧ w.cell? ⟨k.m, 2, none⟩ = some (.slice (some ⟨k.c, 0, none⟩) 65536 65536) ∧ w.cell? ⟨k.m, 3, none⟩ = some (.int .i64 x) ∧ w.cell? ⟨k.m, 4, none⟩ = some (.int .i64 y) := by
  refine ⟨?_, ?_, ?_, ?_, ?_⟩ <;> rw [cell_of_row _ _ _ _ _ _ h.row] <;> rfl
theorem CeAt.cell {w : World} {c : Nat} {Z : Nat → Nat × Nat} (h : CeAt w c Z) {i : Nat} (hi : i < 65536) :
    (w.cell? ⟨c, i * 2, none⟩ = some (.int .u64 ((Z i).1 : Int)) ∧ w.cell? ⟨c, i * 2 + 1, none⟩ = some (.int .u8 ((Z i).2 : Int))) ∧ (Z i).1 < 256 ∧ (Z i).2 < 32 := by
  obtain ⟨cs, e, hs, hz⟩ := h
  obtain ⟨⟨h1, h2⟩, h3⟩ := hz i hi
  exact ⟨⟨(cell_of_row _ _ _ _ _ _ e).trans h1, (cell_of_row _ _ _ _ _ _ e).trans h2⟩, h3⟩

/- which region -/
def findR (a : Int) : List (Int × Int × Int) → Option (Int × Int × Int)
  | [] => none
  | r :: l => if r.1 ≤ a ∧ a < r.2.1 then some r else findR a l
def rgV (r : Int × Int × Int) : Value := .agg #[.int .i64 r.1, .int .i64 r.2.1, .int .i64 r.2.2]
def rgo (R : List (Int × Int × Int)) (a : Int) : (Int × Int × Int) × Int :=
  if 0 ≤ a ∧ a < 65536 then (match findR a R with | some r => (r, 0) | none => ((0, 0, 0), 230)) else ((0, 0, 0), 1)
theorem Try.zeroRg : (Try.prog.info? 35).map (fun i => (i.zero, i.size)) = some (some (.agg #[.int .i64 0, .int .i64 0, .int .i64 0]), 3) := by kernel_rfl
theorem rg_one (f t k : Int) : (#[.int .i64 f, .int .i64 t, .int .i64 k] : Array Value).all (·.oneCell') = true := by simp [Value.oneCell']
theorem rg_zero (w : World) : Hid (∀ cs, Below w.heap.size w ((w.alloc (.cells #[.int .i64 0, .int .i64 0, .int .i64 0] 35)).setRow w.heap.size cs)) := fun cs => below_setRow ((Below.refl _ _).alloc (Nat.le_refl _) _) (Nat.le_refl _) cs

set_option maxRecDepth 100000 in
set_option maxHeartbeats 800000 in
theorem regionOf_nil (a : Int) (w : World) : Calls Try.prog 48 #[.pointer none, .int .i64 a] w fun e w' => e = .returned (.tuple #[rgV (0, 0, 0), .int .i64 2]) ∧ Below w.heap.size w w' := by
  have HB := rg_zero w
  have HR : Hid ((w.alloc (.cells #[.int .i64 0, .int .i64 0, .int .i64 0] (35 : TypeId))).heap[w.heap.size]? = some (.cells #[.int .i64 0, .int .i64 0, .int .i64 0] (35 : TypeId) (0, 0))) := heap_alloc_last _ _
  obtain ⟨hz, hsz⟩ := zero_of_info Try.zeroRg
  have HI : Hid ((Try.prog.info? 35).map (·.size) = some 3) := hsz
  clear hsz
  unfold rgV
  go_enter Try.func48, Try.ntmps48
  go_wp2_with (refine wpList_store_row rfl 35 _ _ rfl w.heap.size #[.int .i64 0, .int .i64 0, .int .i64 0] rfl rfl 35 #[.int .i64 0, .int .i64 0, .int .i64 0] HR.out HI.out rfl (rg_one 0 0 0) ?_)
  refine bodyPost_ret (v := .tuple #[.agg #[.int .i64 0, .int .i64 0, .int .i64 0], .int .i64 2]) ?_ rfl ?_
  · exact res_word (p := 4) (u := 5) (by kernel_rfl) _ _ w.heap.size #[.int .i64 0, .int .i64 0, .int .i64 0] rfl (setRow_heap _ _ _ _ _ _ HR.out) Try.underlying35 HI.out
  exact ⟨rfl, HB.out _⟩
set_option maxRecDepth 100000 in
set_option maxHeartbeats 800000 in
theorem regionOf_out (m : Nat) (a : Int) (ha : ¬ (0 ≤ a ∧ a < 65536)) (w : World) : Calls Try.prog 48 #[.pointer (some ⟨m, 0, none⟩), .int .i64 a] w fun e w' => e = .returned (.tuple #[rgV (0, 0, 0), .int .i64 1]) ∧ Below w.heap.size w w' := by
  have HB := rg_zero w
  have HR : Hid ((w.alloc (.cells #[.int .i64 0, .int .i64 0, .int .i64 0] (35 : TypeId))).heap[w.heap.size]? = some (.cells #[.int .i64 0, .int .i64 0, .int .i64 0] (35 : TypeId) (0, 0))) := heap_alloc_last _ _
  obtain ⟨hz, hsz⟩ := zero_of_info Try.zeroRg
  have HI : Hid ((Try.prog.info? 35).map (·.size) = some 3) := hsz
  have HP : Hid (∀ w, Calls Try.prog 56 #[.int .i64 a] w fun e w' => e = .returned (.bool false) ∧ w' = w) := fun w => by have := isPlace_any a w; rw [decide_eq_false ha] at this; exact this
  clear hsz ha
  unfold rgV
  go_enter Try.func48, Try.ntmps48
  go_wp2_with (first | (go_at_call 56; refine (HP.out _).mono ?_; rintro e w2 ⟨rfl, rfl⟩) | (refine wpList_store_row rfl 35 _ _ rfl w.heap.size #[.int .i64 0, .int .i64 0, .int .i64 0] rfl rfl 35 #[.int .i64 0, .int .i64 0, .int .i64 0] HR.out HI.out rfl (rg_one 0 0 0) ?_))
  refine bodyPost_ret (v := .tuple #[.agg #[.int .i64 0, .int .i64 0, .int .i64 0], .int .i64 1]) ?_ rfl ?_
  · exact res_word (p := 4) (u := 5) (by kernel_rfl) _ _ w.heap.size #[.int .i64 0, .int .i64 0, .int .i64 0] rfl (setRow_heap _ _ _ _ _ _ HR.out) Try.underlying35 HI.out
  exact ⟨rfl, HB.out _⟩
theorem findR_drop (a : Int) (R : List (Int × Int × Int)) (n : Nat) (h : n < R.length) : findR a (R.drop n) = if R[n].1 ≤ a ∧ a < R[n].2.1 then some R[n] else findR a (R.drop (n + 1)) := by
  rw [List.drop_eq_getElem_cons h]; rfl
set_option maxRecDepth 100000 in
set_option maxHeartbeats 1600000 in
theorem regionOf_in {w : World} {k : Mk} {Z : Nat → Nat × Nat} {x y : Int} (h : MeAt w k Z x y) (a : Int) (ha : 0 ≤ a ∧ a < 65536) :
    Calls Try.prog 48 #[.pointer (some ⟨k.m, 0, none⟩), .int .i64 a] w fun e w' => e = .returned (.tuple #[rgV (rgo k.R a).1, .int .i64 (rgo k.R a).2]) ∧ Below w.heap.size w w' := by
  obtain ⟨c0, -⟩ := h.cells
  have HLm := hidD h.lt.1
  have HRG := hidD h.rg
  have hlen : k.R.length ≤ 64 := h.ok.2.2.2.2.2
  obtain ⟨m, r, p, c, va, rc, R⟩ := k
  change w.cell? ⟨m, 0, none⟩ = some (.slice va R.length rc) at c0
  change R.length ≤ 64 at hlen
  change Hid (RgAt w va r R) at HRG
  change Hid (m < w.heap.size) at HLm
  show Calls Try.prog 48 #[.pointer (some ⟨m, 0, none⟩), .int .i64 a] w fun e w' => e = .returned (.tuple #[rgV (rgo R a).1, .int .i64 (rgo R a).2]) ∧ Below w.heap.size w w'
  obtain ⟨X, HX⟩ : ∃ X, Hid (findR a R = X) := ⟨_, rfl⟩
  have HE : Hid (rgo R a = match X with | some q => (q, 0) | none => ((0, 0, 0), 230)) := by show _ = _; have hx : findR a R = X := HX.out; cases X <;> simp [rgo, ha, hx]
  rw [HE.out]
  clear h HE
  have HR : Hid ((w.alloc (.cells #[.int .i64 0, .int .i64 0, .int .i64 0] (35 : TypeId))).heap[w.heap.size]? = some (.cells #[.int .i64 0, .int .i64 0, .int .i64 0] (35 : TypeId) (0, 0))) := heap_alloc_last _ _
  have HB1 : Hid (Below w.heap.size w (w.alloc (.cells #[.int .i64 0, .int .i64 0, .int .i64 0] (35 : TypeId)))) := (Below.refl _ _).alloc (Nat.le_refl _) _
  obtain ⟨hz, hsz⟩ := zero_of_info Try.zeroRg
  have HI : Hid ((Try.prog.info? 35).map (·.size) = some 3) := hsz
  have HP : Hid (∀ w, Calls Try.prog 56 #[.int .i64 a] w fun e w' => e = .returned (.bool true) ∧ w' = w) := fun w => by have := isPlace_any a w; rw [decide_eq_true ha] at this; exact this
  have d0 := (HB1.out.cell (p := ⟨m, 0, none⟩) HLm.out).trans c0
  clear hsz ha
  go_enter Try.func48, Try.ntmps48
  go_wp2_with (go_at_call 56; refine (HP.out _).mono ?_; rintro e w2 ⟨rfl, rfl⟩)
  generalize hW : w.alloc (.cells #[.int .i64 0, .int .i64 0, .int .i64 0] (35 : TypeId)) = W1 at *
  go_loopw [20] (fun i wr => ∃ n : Nat, n ≤ R.length ∧ i = .int .i64 n ∧ Below W1.heap.size W1 wr ∧ findR a (R.drop n) = X) (fun i _ => R.length - (intOf i).toNat)
  case atStart => exact ⟨0, Nat.zero_le _, rfl, Below.refl _ _, HX.out⟩
  case round =>
    obtain ⟨n, hn, rfl, hbel, hfx⟩ := hrel
    have HBW := hidD hbel
    have HRw : Hid (wr.heap[w.heap.size]? = some (.cells #[.int .i64 0, .int .i64 0, .int .i64 0] (35 : TypeId) (0, 0))) := (HBW.out.block _ (row_lt HR.out)).trans HR.out
    have HLw : Hid (w.heap.size < wr.heap.size) := row_lt HRw.out
    have HBB := hidD (HB1.out.trans (HBW.out.mono HB1.out.size))
    clear hbel
    by_cases hlt : n < R.length
    · have hlti : (n : Int) < R.length := by omega
      obtain ⟨hva, k0, k1, k2⟩ := HRG.out.2 n hlt
      subst hva
      have hr1 := HRG.out.1
      rw [findR_drop a R n hlt] at hfx
      have e0 := (HBB.out.cell (p := ⟨r, n * 3, none⟩) hr1).trans k0
      have e1 := (HBB.out.cell (p := ⟨r, n * 3 + 1, none⟩) hr1).trans k1
      have e2 := (HBB.out.cell (p := ⟨r, n * 3 + 2, none⟩) hr1).trans k2
      clear k0 k1 k2
      generalize R[n] = q at *
      obtain ⟨f, t, kd⟩ := q
      change wr.cell? ⟨r, n * 3, none⟩ = some (.int .i64 f) at e0
      change wr.cell? ⟨r, n * 3 + 1, none⟩ = some (.int .i64 t) at e1
      change wr.cell? ⟨r, n * 3 + 2, none⟩ = some (.int .i64 kd) at e2
      change (if f ≤ a ∧ a < t then some (f, t, kd) else findR a (R.drop (n + 1))) = X at hfx
      obtain ⟨g0, g1, g2⟩ := rg_cells wr f t kd
      have HA : Hid ((wr.alloc (.cells #[.int .i64 f, .int .i64 t, .int .i64 kd] 35)).heap[wr.heap.size]? = some (.cells #[.int .i64 f, .int .i64 t, .int .i64 kd] (35 : TypeId) (0, 0))) := heap_alloc_last _ _
      have HBA : Hid (Below wr.heap.size wr (wr.alloc (.cells #[.int .i64 f, .int .i64 t, .int .i64 kd] 35))) := (Below.refl _ _).alloc (Nat.le_refl _) _
      by_cases hin : f ≤ a ∧ a < t
      · rw [if_pos hin] at hfx
        subst hfx
        have HH : Hid (∀ w, Calls Try.prog 70 #[.agg #[.int .i64 f, .int .i64 t, .int .i64 kd], .int .i64 a] w fun e w' => e = .returned (.bool true) ∧ Below w.heap.size w w') := fun w => by have := has_any f t kd a w; rw [decide_eq_true hin] at this; exact this
        go_wp2_with (first
          | (go_at_call 70; refine (HH.out _).mono ?_; rintro e w2 ⟨rfl, hb2⟩; have HB2 := hidD hb2; clear hb2
             have HA2 := hidD ((HB2.out.block _ (row_lt HA.out)).trans HA.out)
             have i0 : w2.cell? ⟨wr.heap.size, 0, none⟩ = some (.int .i64 f) := by rw [cell_of_row _ _ _ _ _ _ HA2.out]; rfl
             have i1 : w2.cell? ⟨wr.heap.size, 1, none⟩ = some (.int .i64 t) := by rw [cell_of_row _ _ _ _ _ _ HA2.out]; rfl
             have i2 : w2.cell? ⟨wr.heap.size, 2, none⟩ = some (.int .i64 kd) := by rw [cell_of_row _ _ _ _ _ _ HA2.out]; rfl
             have HR2 : Hid (w2.heap[w.heap.size]? = some (.cells #[.int .i64 0, .int .i64 0, .int .i64 0] (35 : TypeId) (0, 0))) := (HB2.out.block _ (Nat.lt_of_lt_of_le HLw.out HBA.out.size)).trans ((HBA.out.block _ HLw.out).trans HRw.out))
          | (refine wpList_store_row rfl 35 _ _ rfl w.heap.size #[.int .i64 f, .int .i64 t, .int .i64 kd] rfl rfl 35 #[.int .i64 0, .int .i64 0, .int .i64 0] HR2.out HI.out rfl (rg_one f t kd) ?_))
        refine bodyPost_ret (v := .tuple #[.agg #[.int .i64 f, .int .i64 t, .int .i64 kd], .int .i64 0]) ?_ rfl ?_
        · exact res_word (p := 4) (u := 5) (by kernel_rfl) _ _ w.heap.size #[.int .i64 f, .int .i64 t, .int .i64 kd] rfl (setRow_heap _ _ _ _ _ _ HR2.out) Try.underlying35 HI.out
        exact ⟨rfl, below_setRow (HBB.out.trans ((HBA.out.mono HBB.out.size).trans (HB2.out.mono (Nat.le_trans HBB.out.size HBA.out.size)))) (Nat.le_refl _) _⟩
      · rw [if_neg hin] at hfx
        have HFX := hidD hfx
        have HH : Hid (∀ w, Calls Try.prog 70 #[.agg #[.int .i64 f, .int .i64 t, .int .i64 kd], .int .i64 a] w fun e w' => e = .returned (.bool false) ∧ Below w.heap.size w w') := fun w => by have := has_any f t kd a w; rw [decide_eq_false hin] at this; exact this
        clear hfx
        go_wp2_with (go_at_call 70; refine (HH.out _).mono ?_; rintro e w2 ⟨rfl, hb2⟩; have HB2 := hidD hb2; clear hb2)
        exact ⟨⟨n + 1, by omega, by simp, HBW.out.trans ((HBA.out.mono HBW.out.size).trans (HB2.out.mono (Nat.le_trans HBW.out.size HBA.out.size))), HFX.out⟩, by simp [intOf]; omega⟩
    · have hn2 : n = R.length := by omega
      subst hn2
      rw [List.drop_length] at hfx
      have hx : X = none := hfx.symm
      subst hx
      go_wp2_with (refine wpList_store_row rfl 35 _ _ rfl w.heap.size #[.int .i64 0, .int .i64 0, .int .i64 0] rfl rfl 35 #[.int .i64 0, .int .i64 0, .int .i64 0] HRw.out HI.out rfl (rg_one 0 0 0) ?_)
      refine bodyPost_ret (v := .tuple #[.agg #[.int .i64 0, .int .i64 0, .int .i64 0], .int .i64 230]) ?_ rfl ?_
      · exact res_word (p := 4) (u := 5) (by kernel_rfl) _ _ w.heap.size #[.int .i64 0, .int .i64 0, .int .i64 0] rfl (setRow_heap _ _ _ _ _ _ HRw.out) Try.underlying35 HI.out
      exact ⟨rfl, below_setRow HBB.out (Nat.le_refl _) _⟩
theorem regionOf_any {w : World} {k : Mk} {Z : Nat → Nat × Nat} {x y : Int} (h : MeAt w k Z x y) (a : Int) :
    Calls Try.prog 48 #[.pointer (some ⟨k.m, 0, none⟩), .int .i64 a] w fun e w' => e = .returned (.tuple #[rgV (rgo k.R a).1, .int .i64 (rgo k.R a).2]) ∧ Below w.heap.size w w' := by
  by_cases ha : 0 ≤ a ∧ a < 65536
  · exact regionOf_in h a ha
  · rw [show rgo k.R a = ((0, 0, 0), 1) from if_neg ha]
    exact regionOf_out k.m a ha w
theorem rgo_place {R : List (Int × Int × Int)} {a : Int} {q : Int × Int × Int} (h : rgo R a = (q, 0)) : 0 ≤ a ∧ a < 65536 := by
  by_cases ha : 0 ≤ a ∧ a < 65536
  · exact ha
  · rw [show rgo R a = ((0, 0, 0), 1) from if_neg ha] at h
    simp at h
end Go.Proofs.Ytjnfnihhihncmaa
