/- The walk of ShelfUnder: true for every slice of notes, and nothing that was there has changed. -/
import Derived.Test.YtnjjpahpaeblfaaNotes
import Derived.Test.YtnjjpahpaeblfaaUnderC
import Derived.Test.YtnjjpahpaeblfaaUPlain
namespace Go.Proofs.Ytnjjpahpaeblfaa
open Go.RowKit Go.Maps Go.Sort
set_option linter.unusedVariables false

theorem row_cells4T {w : World} {base cap t : Nat} {a : Option Addr} {T : List Ne} (h : w.ownsRow base t 4 (.slice a T.length cap) T.length (allCells T)) {j : Nat} (hj : j < T.length) : ∃ g, a = some ⟨g, 0, none⟩ ∧ CellsAt w g (j * 4) (T.getD j ne0) := by
  rcases h.2 with ⟨_, h0⟩ | ⟨g, cap', cur, hv, _⟩
  · omega
  · cases hv
    have f : ∀ q u, q < 4 → (neCells (T.getD j ne0))[q]? = some u → w.cell? ⟨g, j * 4 + q, none⟩ = some u := fun q u hq hu => by
      have := h.cells (g := g) rfl (j * 4 + q) u (by rw [allCells_get T j q hj hq]; exact hu)
      rwa [show (⟨g, 0, none⟩ : Addr).add (j * 4 + q) = ⟨g, 0 + (j * 4 + q), none⟩ from Addr.add_lit .., Nat.zero_add] at this
    exact ⟨g, rfl, f 0 _ (by omega) rfl, f 1 _ (by omega) rfl, f 2 _ (by omega) rfl, f 3 _ (by omega) rfl⟩

/-- The i-th of the notes that Notes hands out is one of the shelf's, and each of the shelf's is one of them. -/
theorem notes_mem {w : World} {p b : Nat} {F : Nat → Prop} {S : List Nt} {D : DataW Value} (h : SH w p b F S D) {T : List Ne} (hT : T.map Ne.n = notesOf S) {e : Ne} (he : e ∈ T) : e.n ∈ S ∧ leansOf S e.n.name = e.n.leans := by
  have h1 : e.n ∈ notesOf S := hT ▸ List.mem_map_of_mem he
  obtain ⟨x, hx, hxe⟩ := List.mem_map.1 h1
  have hx' : x ∈ S.map Nt.name := (List.mergeSort_perm _ _).mem_iff.1 hx
  obtain ⟨n, hn, rfl⟩ := List.mem_map.1 hx'
  rw [getNt_in h hn] at hxe
  rw [← hxe]
  exact ⟨hn, h.leansOf_in hn⟩
theorem notes_all {w : World} {p b : Nat} {F : Nat → Prop} {S : List Nt} {D : DataW Value} (h : SH w p b F S D) {T : List Ne} (hT : T.map Ne.n = notesOf S) {n : Nt} (hn : n ∈ S) : ∃ e ∈ T, e.n = n := by
  have h1 : n ∈ notesOf S := List.mem_map.2 ⟨n.name, (List.mergeSort_perm _ _).mem_iff.2 (List.mem_map_of_mem hn), getNt_in h hn⟩
  rw [← hT] at h1
  exact List.mem_map.1 h1

/-- append of a slice of strings, nil or not, onto a slice of the call's own. -/
theorem wpList_append_strs {w : World} {ops : Array Oper} {rest : List Oper} {o : Oper} {a : Act} {Q : Exit → Act → World → Prop} (hgd : o.guard = none) (s x : Operand)
    (ho : o.op = .call { callee := .builtin .append, args := #[s, x], argTypes := #[27, 27] }) (base n : Nat) (v : Value) (xs : List Value) (hs : a.eval s = v) (hown : w.ownsRow base 9 1 v n xs)
    (sl : Value) (ss : List (List UInt8)) (hx : a.eval x = sl) (hsl : StrsAt w sl ss) (hn : n + ss.length ≤ 100000) (hbase : base ≤ w.heap.size)
    (h : ∀ v' w', w'.ownsRow base 9 1 v' (n + ss.length) (xs ++ ss.map encStr) → w.grownBy w' v.ownBlock → wpList Try.prog ops Q rest (a.put o.dst v') w') : wpList Try.prog ops Q (o :: rest) a w := by
  obtain ⟨i0, hi, hz0, hz1, hz2⟩ := info_parts Try.info9
  rcases hsl.source with ⟨rfl, rfl⟩ | ⟨ad, cap, rfl, hc⟩
  · refine wpList_append_own_none hgd s x 27 ho base 9 i0 1 Try.underlying27 hi v n xs hs hown hx (h v w ?_ ?_)
    · simpa using hown
    · exact ⟨rfl, rfl, rfl, Nat.le_refl _, fun _ _ _ => rfl⟩
  · exact wpList_append_own w hgd s x 27 ho base 9 i0 (.string ⟨#[]⟩) 1 16 Try.underlying27 hi hz0 hz1 hz2 rfl (by decide) v n xs hs hown ad ss.length cap (ss.map encStr) hx (by simp) (hc w w.heap.size (Below.refl _ _) (Nat.le_refl _)) (strs_oneCell ss) (by unfold maxLen; omega) (by omega) hbase (fun v' w' h1 h2 _ => h v' w' h1 h2)

theorem bytesLess_lt : ∀ (x y : List UInt8), Op.bytesLess x y = true → x < y
  | [], [], h => by simp [Op.bytesLess] at h
  | [], _ :: _, _ => by simp
  | _ :: _, [], h => by simp [Op.bytesLess] at h
  | a :: x, b :: y, h => by
    simp only [Op.bytesLess, Bool.or_eq_true, Bool.and_eq_true, decide_eq_true_eq, beq_iff_eq] at h
    rw [List.cons_lt_cons_iff]
    rcases h with h | ⟨h1, h2⟩
    · exact .inl h
    · exact .inr ⟨h1, bytesLess_lt x y h2⟩
theorem not_le_go {y y0 : List UInt8} (h : ¬ y ≤ y0) : Op.bytesLess y y0 = false ∧ (y == y0) = false := by
  constructor
  · cases hb : Op.bytesLess y y0 with
    | false => rfl
    | true => exact absurd (List.le_of_lt (bytesLess_lt y y0 hb)) h
  · rw [beq_eq_false_iff_ne]
    intro e
    exact h (e ▸ List.le_refl y)

/-- No text stands ahead of one that is not greater. -/
def Strict (G : List (List UInt8)) : Prop := ∀ i, i + 1 < G.length → ¬ G.getD (i + 1) [] ≤ G.getD i []
theorem strict_sort {U : List (List UInt8)} (h : U.Nodup) : Strict (U.mergeSort leB) := by
  intro i hi hle
  have tr : ∀ a b c : List UInt8, leB a b = true → leB b c = true → leB a c = true := fun a b c h1 h2 => by simp only [leB, decide_eq_true_eq] at *; exact List.le_trans h1 h2
  have to : ∀ a b : List UInt8, (leB a b || leB b a) = true := fun a b => by simp only [leB, Bool.or_eq_true, decide_eq_true_eq]; exact List.le_total a b
  have hp := List.pairwise_mergeSort tr to U
  have hn : (U.mergeSort leB).Nodup := (List.mergeSort_perm U leB).nodup_iff.2 h
  have h1 := List.pairwise_iff_getElem.1 hp i (i + 1) (by omega) hi (by omega)
  rw [List.getD, List.getD, List.getElem?_eq_getElem hi, List.getElem?_eq_getElem (by omega)] at hle
  simp only [leB, decide_eq_true_eq] at h1
  have e := List.le_antisymm h1 hle
  have := (List.getElem_inj (h₀ := by omega) (h₁ := hi) hn).1 e
  omega

theorem under_list (x : List UInt8) (hx : x.length ≤ maxLen) (w : World) (p b : Nat) (F : Nat → Prop) (S : List Nt) (D : DataW Value) (h : SH w p b F S D) :
    Calls Try.prog 25 #[.pointer (some ⟨p, 0, none⟩), .string ⟨x.toArray⟩] w fun e w' => ∃ a' c' G U, e = .returned (.slice a' G.length c') ∧ IsUnder S x U ∧ (∀ y, y ∈ G ↔ y ∈ U) ∧ Strict G ∧ G.length ≤ 512 ∧ StrsOk G ∧ w'.ownsRow w.heap.size 9 1 (.slice a' G.length c') G.length (G.map encStr) ∧ Below w.heap.size w w' := by
  refine (under_any x hx w p b F S D h).mono ?_
  rintro e w' ⟨v, U, rfl, hU, hl, hok, hr, hb⟩
  have hlen : (U.mergeSort leB).length = U.length := List.length_mergeSort _
  have hm : ∀ y, y ∈ U.mergeSort leB ↔ y ∈ U := fun y => (List.mergeSort_perm U leB).mem_iff
  rw [← hlen] at hr
  obtain ⟨a', c', rfl⟩ := row_shape hr
  exact ⟨a', c', _, U, rfl, hU, hm, strict_sort hU.1, by omega, ⟨by have := hok.1; omega, fun y hy => hok.2 y ((hm y).1 hy)⟩, hr, hb⟩

theorem strs_one {w : World} {x : List UInt8} {t : TypeId} : StrsAt (w.alloc (.cells #[.string ⟨x.toArray⟩] t)) (.slice (some ⟨w.heap.size, 0, none⟩) 1 1) [x] :=
  .inr ⟨w.heap.size, 0, 1, rfl, by simp, fun j hj => by obtain rfl : j = 0 := by { simp at hj; omega }; simp [encStr]⟩

def RingTo (S : List Nt) (T : List Ne) (rb : Bool) : Prop := rb = true ↔ ∃ e ∈ T, ∃ U, IsUnder S e.n.name U ∧ e.n.name ∈ U
def LackTo (S : List Nt) (T : List Ne) (ls : List (List UInt8)) (lb : Bool) : Prop := lb = true ↔ (∃ e ∈ T, ∃ l ∈ e.n.leans, l ∉ S.map Nt.name) ∨ ∃ l ∈ ls, l ∉ S.map Nt.name
def WantTo (S : List Nt) (ls : List (List UInt8)) (W : List (List UInt8)) : Prop := ∀ y, y ∈ W ↔ ∃ l ∈ ls, y = l ∨ ∃ Ul, IsUnder S l Ul ∧ y ∈ Ul

theorem take_getD {ls : List (List UInt8)} {q : Nat} (h : q < ls.length) : ls.take (q + 1) = ls.take q ++ [ls.getD q []] := by
  rw [List.take_succ_eq_append_getElem h, List.getD, List.getElem?_eq_getElem h]; rfl
theorem take_getD1 {T : List Ne} {q : Nat} (h : q < T.length) : T.take (q + 1) = T.take q ++ [T.getD q ne0] := by
  rw [List.take_succ_eq_append_getElem h, List.getD, List.getElem?_eq_getElem h]; rfl
theorem WantTo.step {S : List Nt} {ls W U : List (List UInt8)} {l : List UInt8} (h : WantTo S ls W) (hU : IsUnder S l U) {V : List (List UInt8)} (hV : ∀ y, y ∈ V ↔ y ∈ U) : WantTo S (ls ++ [l]) (W ++ [l] ++ V) := by
  intro y
  simp only [List.mem_append, List.mem_singleton]
  constructor
  · rintro ((h1 | h1) | h1)
    · obtain ⟨l', hl', h2⟩ := (h y).1 h1
      exact ⟨l', .inl hl', h2⟩
    · exact ⟨l, .inr rfl, .inl h1⟩
    · exact ⟨l, .inr rfl, .inr ⟨U, hU, (hV y).1 h1⟩⟩
  · rintro ⟨l', hl', h2⟩
    rcases hl' with hl' | rfl
    · exact .inl (.inl ((h y).2 ⟨l', hl', h2⟩))
    · rcases h2 with h2 | ⟨Ul, h3, h4⟩
      · exact .inl (.inr h2)
      · exact .inr ((hV y).2 ((under_mem h3 hU y).1 h4))
theorem LackTo.step {S : List Nt} {T : List Ne} {ls : List (List UInt8)} {lb : Bool} (h : LackTo S T ls lb) {l : List UInt8} {tb : Bool} (ht : tb = (S.map Nt.name).contains l) : LackTo S T (ls ++ [l]) (lb || !tb) := by
  unfold LackTo at h ⊢
  rw [Bool.or_eq_true, h, Bool.not_eq_true', ht]
  constructor
  · rintro ((h1 | ⟨l', h2, h3⟩) | h1)
    · exact .inl h1
    · exact .inr ⟨l', List.mem_append_left _ h2, h3⟩
    · refine .inr ⟨l, by simp, fun hm => ?_⟩
      rw [List.contains_iff_mem.2 hm] at h1
      cases h1
  · rintro (h1 | ⟨l', h2, h3⟩)
    · exact .inl (.inl h1)
    · rcases List.mem_append.1 h2 with h2 | h2
      · exact .inl (.inr ⟨l', h2, h3⟩)
      · rw [List.mem_singleton] at h2
        subst h2
        refine .inr ?_
        cases hc : (S.map Nt.name).contains l' with
        | false => rfl
        | true => exact absurd (List.contains_iff_mem.1 hc) h3
theorem LackTo.over {S : List Nt} {T : List Ne} {e : Ne} {lb : Bool} (h : LackTo S T e.n.leans lb) : LackTo S (T ++ [e]) [] lb := by
  unfold LackTo at h ⊢
  rw [h]
  constructor
  · rintro (⟨e', h1, h2⟩ | h1)
    · exact .inl ⟨e', List.mem_append_left _ h1, h2⟩
    · exact .inl ⟨e, by simp, h1⟩
  · rintro (⟨e', h1, h2⟩ | ⟨l, h1, _⟩)
    · rcases List.mem_append.1 h1 with h1 | h1
      · exact .inl ⟨e', h1, h2⟩
      · rw [List.mem_singleton] at h1; subst h1; exact .inr h2
    · simp at h1
theorem RingTo.step {S : List Nt} {T : List Ne} {e : Ne} {rb ub : Bool} (h : RingTo S T rb) {U : List (List UInt8)} (hU : IsUnder S e.n.name U) (hu : ub = true ↔ e.n.name ∈ U) : RingTo S (T ++ [e]) (rb || ub) := by
  unfold RingTo at h ⊢
  rw [Bool.or_eq_true, h, hu]
  constructor
  · rintro (⟨e', h1, h2⟩ | h1)
    · exact ⟨e', List.mem_append_left _ h1, h2⟩
    · exact ⟨e, by simp, U, hU, h1⟩
  · rintro ⟨e', h1, V, hV, h2⟩
    rcases List.mem_append.1 h1 with h1 | h1
    · exact .inl ⟨e', h1, V, hV, h2⟩
    · rw [List.mem_singleton] at h1; subst h1
      exact .inr ((under_mem hV hU _).1 h2)

set_option maxRecDepth 100000 in
set_option maxHeartbeats 8000000 in
theorem underlaw_any (L : List Ne) (sl : Value) (w : World) (hL : NotesAt w sl L) :
    Calls Try.prog 8 #[sl] w fun e w' => e = .returned (.bool true) ∧ Below w.heap.size w w' := by
  have hlen := hL.2.1
  obtain ⟨i9, hi9, hz0, hz1, hz2⟩ := info_parts Try.info9
  obtain ⟨a, cap, rfl⟩ : ∃ a cap, sl = .slice a L.length cap := by
    rcases hL.1 with ⟨rfl, a, cap, rfl⟩ | ⟨g, off, cap, rfl, _⟩
    · exact ⟨a, cap, rfl⟩
    · exact ⟨_, cap, rfl⟩
  have HL : Hid (∀ w', Below w.heap.size w w' → NotesAt w' (.slice a L.length cap) L) := fun w' hb => hL.below hb (Nat.le_refl _)
  clear hL
  go_enter Try.func8, Try.ntmps8
  go_wp2_with fail
  refine (alive_any w).mono ?_
  rintro e w1 ⟨rfl, hb1⟩
  have HB1 : Hid (Below w.heap.size w w1) := hb1
  have hw1 := hb1.size
  clear hb1
  go_wp2_with fail
  refine (new_any w1).mono ?_
  rintro e w2 ⟨p, b, rfl, hS2, hpw, hbw, hb2⟩
  have HB2 : Hid (Below w.heap.size w w2) := HB1.out.trans (hb2.mono hw1)
  have HS2 := hidIt hS2
  have o1 : w.heap.size ≤ b := by omega
  clear hS2 hb2 hpw hbw hw1
  go_wp2_with fail
  go_loopw [4] (fun i wr => ∃ (k : Nat) (S : List Nt) (F : Nat → Prop) (D : DataW Value), k ≤ L.length ∧ i = .int .i64 k ∧ SH wr p b F S D ∧ Below w.heap.size w wr)
    (fun i _ => L.length - (intOf i).toNat)
  case atStart => exact ⟨0, [], _, _, Nat.zero_le _, rfl, HS2.out, HB2.out⟩
  case round =>
    obtain ⟨k, S, F, D, hk, rfl, hS, hnx⟩ := hrel
    have HS := hidIt hS
    have HNX := hidIt hnx
    have hszn := hnx.size
    clear hS
    by_cases hlt : k < L.length
    · have hNL := HL.out wr hnx
      have hok := hNL.2.2 _ (mem_getD1 hlt)
      rcases hNL.1 with ⟨h0, _⟩ | ⟨g, off, cap', hsl, hg, hcl⟩
      · rw [h0] at hlt; exact absurd hlt (by simp)
      cases hsl
      obtain ⟨hc0, hc1, hc2, hc3⟩ := hcl k hlt
      have HOK := hidIt hok
      clear hcl hNL hok hnx
      generalize L.getD k ne0 = x at *
      go_wp2_with fail
      refine (own_any x.n HOK.out.ok x.a x.cap wr HOK.out.at_).mono ?_
      rintro e w4 ⟨a4, c4, rfl, hr4, _, hb4⟩
      have HB4 : Hid (Below w.heap.size w w4) := HNX.out.trans (hb4.mono hszn)
      have HS4 := hidIt (HS.out.below hb4 (Nat.le_refl _))
      have HR4 := hidIt (StrsAt.of_row hr4)
      clear hb4 hr4
      go_wp2_with fail
      refine (add_agg x.n HOK.out.ok a4 c4 w4 HR4.out p b F S D HS4.out).mono ?_
      rintro e w5 ⟨F5, D5, rfl, hS5, _, _, hg5⟩
      have HB5 : Hid (Below w.heap.size w w5) := HB4.out.grown hg5 HB4.out.size (fun j hj => by cases hj; exact o1)
      have HS5 := hidIt hS5
      clear hS5 hg5
      go_wp2
      go_roundw
      case rel => exact ⟨k + 1, _, F5, D5, by omega, by go_num, HS5.out, HB5.out⟩
      case measure => simp [intOf]; omega
    · clear hnx
      go_wp2_with fail
      refine (notes_any wr p b F S D HS.out).mono ?_
      rintro e w4 ⟨v4, T, rfl, hTn, hTl, hr4, hle4, hb4⟩
      obtain ⟨a4, c4, rfl⟩ := row_shape hr4
      have HB4 : Hid (Below w.heap.size w w4) := HNX.out.trans (hb4.mono hszn)
      have HS4 := hidIt (HS.out.below hb4 (Nat.le_refl _))
      have HTN := hidIt hTn
      have hw4 := HB4.out.size
      have hT64 : T.length ≤ 64 := by rw [hTl]; exact HS.out.few
      have HTL := hidIt hTl
      have HR4 := hidIt hr4
      have HLE4 := hidIt hle4
      clear hb4 hTn hr4 hle4 hTl
      go_wp2_with fail
      refine (order_any w4 p b F S D HS4.out).mono ?_
      rintro e w6 ⟨v6, rfl, hr6, hb6⟩
      have HB6 : Hid (Below w.heap.size w w6) := HB4.out.trans (hb6.mono hw4)
      have HS6 := hidIt (HS4.out.below hb6 (Nat.le_refl _))
      have HR6 := hidIt (HR4.out.kept (grown_of_below hb6 (row := none)) (by cases hq : (Value.slice a4 T.length c4).ownBlock <;> simp))
      have HLE6 : Hid (∀ e ∈ T, StrsAt w6 (.slice e.a e.n.leans.length e.cap) e.n.leans) := fun e he => (StrsAt.of_row (HLE4.out e he)).below hb6 (Nat.le_refl _)
      have HSAY := hidIt (order_says HS6.out.nodup)
      have hw6 := HB6.out.size
      clear hr6 hb6 HS4 HR4 HLE4 HS
      generalize (orderOf S).2 = c at *
      go_wp2_with fail
      go_loopw [8, 9, 10] (fun r l i wq => ∃ (k : Nat) (rb lb : Bool), k ≤ T.length ∧ i = .int .i64 k ∧ r = .bool rb ∧ l = .bool lb ∧ RingTo S (T.take k) rb ∧ LackTo S (T.take k) [] lb ∧ Below w6.heap.size w6 wq) (fun _ _ i _ => T.length - (intOf i).toNat)
      case atStart => exact ⟨0, false, false, Nat.zero_le _, rfl, rfl, rfl, by simp [RingTo], by simp [LackTo], Below.refl _ _⟩
      case round =>
        obtain ⟨k2, rb, lb, hk2, rfl, rfl, rfl, hring, hlack, hnq⟩ := hrel
        have HRING := hidIt hring
        have HLACK := hidIt hlack
        have HNQ := hidIt hnq
        have hszq := hnq.size
        clear hring hlack
        by_cases hlt2 : k2 < T.length
        · obtain ⟨g4, rfl, hcells⟩ := row_cells4T HR6.out hlt2
          have hxT := mem_getD1 hlt2
          have HX := hidIt (notes_mem HS6.out HTN.out hxT)
          have HXL := hidIt (HLE6.out _ hxT)
          have HTK := hidIt (take_getD1 hlt2)
          have hg4 : g4 < w6.heap.size := World.block_lt_of_cell? w6 _ hcells.1
          have HCE := hidIt hcells
          have hls8 : (T.getD k2 ne0).n.leans.length ≤ 8 := HS6.out.leans8 HX.out.1
          have HXN := hidIt (HS6.out.inn _ HX.out.1).1
          clear hcells hxT hnq
          generalize T.getD k2 ne0 = x at *
          obtain ⟨ls, hls⟩ : ∃ ls, ls = x.n.leans := ⟨_, rfl⟩
          have HLS := hidIt hls
          have HCW : Hid (∀ wz, Below w6.heap.size w6 wz → wz.cell? ⟨g4, k2 * 4, none⟩ = some (.string ⟨x.n.name.toArray⟩) ∧ wz.cell? ⟨g4, k2 * 4 + 3, none⟩ = some (.slice x.a ls.length x.cap) ∧ StrsAt wz (.slice x.a ls.length x.cap) ls) := fun wz hb => by
            have := HCE.out.below hb hg4
            rw [hls]
            exact ⟨this.1, this.2.2.2, HXL.out.below hb (Nat.le_refl _)⟩
          rw [← hls] at hls8
          clear hls
          go_wp2_with fail
          go_loopw [9, 11, 12] (fun l v i wz => ∃ (q : Nat) (W : List (List UInt8)) (lb : Bool), q ≤ ls.length ∧ i = .int .i64 q ∧ l = .bool lb ∧ LackTo S (T.take k2) (ls.take q) lb ∧ wz.ownsRow w6.heap.size 9 1 v W.length (W.map encStr) ∧ W.length ≤ q * 513 ∧ WantTo S (ls.take q) W ∧ (∀ y ∈ W, y.length ≤ maxLen) ∧ Below w6.heap.size w6 wz) (fun _ _ i _ => ls.length - (intOf i).toNat)
          case atStart => exact ⟨0, [], lb, Nat.zero_le _, rfl, rfl, by simpa using HLACK.out, World.ownsRow_nil _ _ _ _, by simp, by simp [WantTo], by simp, HNQ.out⟩
          case round =>
            obtain ⟨q, W, lb3, hq, rfl, rfl, hlack3, hrow3, hW3, hwant3, hWok, hnz⟩ := hrel
            have HLK := hidIt hlack3
            have HROW := hidIt hrow3
            have HWANT := hidIt hwant3
            have HWOK := hidIt hWok
            have HNZ := hidIt hnz
            have hszz := hnz.size
            obtain ⟨hcn, hcl3, hstl⟩ := HCW.out wr hnz
            obtain ⟨a7, c7, rfl⟩ := row_shape hrow3
            clear hlack3 hrow3 hwant3 hWok
            by_cases hql : q < ls.length
            · rcases hstl with ⟨h0, _⟩ | ⟨gl, ol, cl, hsl, hgl, hcl⟩
              · rw [h0] at hql; exact absurd hql (by simp)
              rw [Value.slice.injEq] at hsl
              obtain ⟨hxa, _, _⟩ := hsl
              rw [hxa] at hcl3
              have hcx : wr.cell? ⟨gl, ol + q, none⟩ = some (.string ⟨(ls.getD q []).toArray⟩) := hcl q hql
              have hyl : (ls.getD q []).length ≤ maxLen := HXN.out.leans.2 _ (HLS.out ▸ mem_getD hql)
              have HTQ := hidIt (take_getD hql)
              have HCY : Hid (∀ wz, Below w6.heap.size w6 wz → wz.cell? ⟨g4, k2 * 4 + 3, none⟩ = some (.slice (some ⟨gl, ol, none⟩) ls.length x.cap) ∧ wz.cell? ⟨gl, ol + q, none⟩ = some (.string ⟨(ls.getD q []).toArray⟩)) := fun wz hb => by
                obtain ⟨_, h2, h3⟩ := HCW.out wz hb
                rw [hxa] at h2 h3
                rcases h3 with ⟨h0, _⟩ | ⟨gl', ol', cl', hsl', _, hcl'⟩
                · rw [h0] at hql; exact absurd hql (by simp)
                · cases hsl'; exact ⟨h2, hcl' q hql⟩
              clear hcl hcn
              generalize ls.getD q [] = y at *
              have hqli : (q : Int) < ls.length := by omega
              have HBZ := hidIt hnz
              clear hnz
              obtain ⟨tb, htb⟩ : ∃ tb, tb = (S.map Nt.name).contains y := ⟨_, rfl⟩
              have HGET : Hid (∀ wz, SH wz p b F S D → Calls Try.prog 23 #[.pointer (some ⟨p, 0, none⟩), .string ⟨y.toArray⟩] wz fun e w' => ∃ (m : Nt) (a' : Option Addr) (cap' : Nat), e = .returned (.tuple #[.agg #[.string ⟨m.name.toArray⟩, .int .i64 m.words, .int .u32 m.sum, .slice a' m.leans.length cap'], .bool tb]) ∧ Below wz.heap.size wz w') := fun wz hz => (get_any y hyl wz p b F S D hz).mono (by rintro e w' ⟨a', c', rfl, _, hb⟩; exact ⟨_, a', c', by rw [htb], hb⟩)
              have HTB := hidIt htb
              clear htb
              cases lb3
              all_goals
               go_wp2_with (first
                | (at_builtin; refine wpList_append_strs rfl _ _ rfl w6.heap.size W.length _ (W.map encStr) rfl (HROW.out.alloc _) (.slice (some ⟨wr.heap.size, 0, none⟩) 1 1) [y] rfl strs_one (by simp; omega) (by simp; omega) ?_; intro v8 w8 hown8 hg8; have HB8 : Hid (Below w6.heap.size w6 w8) := (HBZ.out.alloc hszz _).grown hg8 (by simp; omega) (fun j hj => (HROW.out.lt j hj).1); obtain ⟨d8, e8⟩ := HCY.out w8 HB8.out; have hs8 := HB8.out.size; have HR8 := hidIt hown8; obtain ⟨a8, c8, rfl⟩ := row_shape hown8; clear hown8 hg8)
                | (go_at_call 25; refine (under_list y hyl w8 p b F S D (HS6.out.below HB8.out (Nat.le_refl _))).mono ?_; rintro e w9 ⟨a9, c9, G, U, rfl, hU, hGU, hst, hG5, hGok, hr9, hb9⟩; have HR9 := hidIt hr9; have HU := hidIt hU; have HGU := hidIt hGU; have HGOK := hidIt hGok; have HB9 := hidIt hb9; have HB69 : Hid (Below w6.heap.size w6 w9) := HB8.out.trans (hb9.mono hs8); have HR89 := hidIt (HR8.out.kept (grown_of_below hb9 (row := none)) (by cases hq : (Value.slice a8 (W.length + [y].length) c8).ownBlock <;> simp)); have hs9 := HB69.out.size; clear hr9 hU hGU hst hGok hb9)
                | (at_builtin; refine wpList_append_strs rfl _ _ rfl w6.heap.size (W.length + [y].length) _ (W.map encStr ++ [y].map encStr) rfl HR89.out (.slice a9 G.length c9) G rfl (StrsAt.of_row HR9.out) (by simp; omega) hs9 ?_; intro v10 w10 hown10 hg10; have HB10 : Hid (Below w6.heap.size w6 w10) := HB69.out.grown hg10 hs9 (fun j hj => (HR89.out.lt j hj).1); obtain ⟨d10, e10⟩ := HCY.out w10 HB10.out; have hs10 := HB10.out.size; have HR10 := hidIt hown10; obtain ⟨a10, c10, rfl⟩ := row_shape hown10; clear hown10 hg10)
                | (go_at_call 23; refine (HGET.out w10 (HS6.out.below HB10.out (Nat.le_refl _))).mono ?_; rintro e w11 ⟨m11, a11, c11, rfl, hb11⟩; have HB11 : Hid (Below w6.heap.size w6 w11) := HB10.out.trans (hb11.mono hs10); have HR11 := hidIt (HR10.out.kept (grown_of_below hb11 (row := none)) (by cases hq : (Value.slice a10 (W.length + [y].length + G.length) c10).ownBlock <;> simp)); have hs11 := HB11.out.size; clear hb11)
                | go_in)
               go_roundw
               case rel =>
                 refine ⟨q + 1, W ++ [y] ++ G, _, by omega, by go_num, rfl, by rw [HTQ.out]; exact HLK.out.step HTB.out, ?_, ?_, by rw [HTQ.out]; exact HWANT.out.step HU.out HGU.out, ?_, HB11.out.alloc hs11 _⟩
                 · have := HR11.out.alloc (.cells #[.string ⟨m11.name.toArray⟩, .int .i64 m11.words, .int .u32 m11.sum, .slice a11 m11.leans.length c11] 32)
                   have e1 : (W ++ [y] ++ G).length = W.length + [y].length + G.length := by simp only [List.length_append]
                   rw [e1, List.map_append, List.map_append]
                   exact this
                 · simp; omega
                 · intro z hz
                   simp only [List.mem_append, List.mem_singleton] at hz
                   rcases hz with (hz | rfl) | hz
                   · exact HWOK.out z hz
                   · exact hyl
                   · exact HGOK.out.2 z hz
               case measure => simp [intOf]; omega
            · have hqe : q = ls.length := by omega
              subst hqe
              rw [List.take_length] at HLK HWANT
              have HXLE := hidIt HX.out.2
              have hnl := HXN.out.name
              have HBZ := hidIt hnz
              clear hnz hstl
              go_wp2_with fail
              refine (under_list x.n.name hnl wr p b F S D (HS6.out.below HBZ.out (Nat.le_refl _))).mono ?_
              rintro e w12 ⟨a12, c12, G, U, rfl, hU, hGU, hst, hG5, hGok, hr12, hb12⟩
              have HWG : Hid (∀ y, y ∈ W ↔ y ∈ G) := fun y => (under_want hU (by rw [HXLE.out, ← HLS.out]; exact HWANT.out) y).trans (hGU y).symm
              have HU := hidIt hU
              have HGU := hidIt hGU
              have HST := hidIt hst
              have HGOK := hidIt hGok
              have HG12 := hidIt (StrsAt.of_row hr12)
              have HW12 := hidIt ((StrsAt.of_row HROW.out).below hb12 (Nat.le_refl _))
              have HB12 : Hid (Below w6.heap.size w6 w12) := HBZ.out.trans (hb12.mono hszz)
              have hW4 : W.length ≤ 5000 := by omega
              have hs12 := HB12.out.size
              clear hU hGU hst hGok hr12 hb12
              go_wp2_with fail
              go_loop [16] (fun i => ∃ q : Nat, q ≤ W.length ∧ i = .int .i64 q) (fun i => W.length - (intOf i).toNat)
              case atStart => exact ⟨0, Nat.zero_le _, rfl⟩
              case round =>
                obtain ⟨q, hq4, rfl⟩ := hrel
                by_cases hql : q < W.length
                · rcases HW12.out with ⟨h0, _⟩ | ⟨gw, ow, cw, hsw, hgw, hcw⟩
                  · rw [h0] at hql; exact absurd hql (by simp)
                  cases hsw
                  have hcx : w12.cell? ⟨gw, ow + q, none⟩ = some (.string ⟨(W.getD q []).toArray⟩) := hcw q hql
                  have hct : G.contains (W.getD q []) = true := List.contains_iff_mem.2 ((HWG.out _).1 (mem_getD hql))
                  have HAM := hidIt (among_any G (by omega) (W.getD q []) a12 c12 w12 HG12.out)
                  rw [hct] at HAM
                  clear hcw hct
                  generalize W.getD q [] = y at *
                  go_wp2_with (go_at_call 27; refine HAM.out.mono ?_; rintro e w' ⟨rfl, rfl⟩)
                  go_round
                  case rel => exact ⟨q + 1, by omega, by go_num⟩
                  case measure => simp [intOf]; omega
                · go_wp2_with fail
                  go_loopw [17] (fun i wz => ∃ q : Nat, q ≤ G.length ∧ i = .int .i64 q ∧ Below w12.heap.size w12 wz) (fun i _ => G.length - (intOf i).toNat)
                  case atStart => exact ⟨0, Nat.zero_le _, rfl, Below.refl _ _⟩
                  case round =>
                    obtain ⟨q5, hq5, rfl, hn5⟩ := hrel
                    have HN5 := hidIt hn5
                    have hs5 := hn5.size
                    by_cases hql5 : q5 < G.length
                    · rcases HG12.out.below hn5 (Nat.le_refl _) with ⟨h0, _⟩ | ⟨gg, og, cg, hsg, hgg, hcg⟩
                      · rw [h0] at hql5; exact absurd hql5 (by simp)
                      rw [Value.slice.injEq] at hsg
                      obtain ⟨rfl, _, rfl⟩ := hsg
                      have hcx : wr.cell? ⟨gg, og + q5, none⟩ = some (.string ⟨(G.getD q5 []).toArray⟩) := hcg q5 hql5
                      have hct : W.contains (G.getD q5 []) = true := List.contains_iff_mem.2 ((HWG.out _).2 (mem_getD hql5))
                      have HAM : Hid (∀ wz, Below wr.heap.size wr wz → Calls Try.prog 27 #[.slice a7 W.length c7, .string ⟨(G.getD q5 []).toArray⟩] wz fun e w' => e = .returned (.bool true) ∧ w' = wz) := fun wz hz => by
                        have := among_any W (by omega) (G.getD q5 []) a7 c7 wz ((HW12.out.below hn5 (Nat.le_refl _)).below hz (Nat.le_refl _))
                        rwa [hct] at this
                      have hqli5 : (q5 : Int) < G.length := by omega
                      clear hct
                      cases q5 with
                      | zero =>
                        clear hcg hn5
                        have hcx0 : wr.cell? ⟨gg, og, none⟩ = some (.string ⟨(G.getD 0 []).toArray⟩) := hcx
                        clear hcx
                        generalize G.getD 0 [] = y at *
                        have hql0 : (0 : Int) < G.length := by omega
                        go_wp2_with fail
                        go_quiet ((go_at_call 27; exact Calls.quiet_of_same (HAM.out _ (below_drewN (Below.refl _ _) _))))
                        go_wp2
                        go_roundw
                        case rel => exact ⟨1, by omega, by go_num, below_drewN HN5.out _⟩
                        case measure => simp [intOf]; omega
                      | succ r =>
                        have hcy : wr.cell? ⟨gg, og + r, none⟩ = some (.string ⟨(G.getD r []).toArray⟩) := hcg r (by omega)
                        obtain ⟨hns1, hns2⟩ := not_le_go (HST.out r hql5)
                        clear hcg hn5
                        generalize G.getD (r + 1) [] = y at *
                        generalize G.getD r [] = y0 at *
                        have hr1 : (0 : Int) < (r : Int) + 1 := by omega
                        go_wp2_with fail
                        go_quiet ((go_at_call 27; exact Calls.quiet_of_same (HAM.out _ (below_drewN (Below.refl _ _) _))))
                        go_wp2
                        go_roundw
                        case rel => exact ⟨r + 1 + 1, by omega, by go_num, below_drewN HN5.out _⟩
                        case measure => simp [intOf]; omega
                    · obtain ⟨hcnm, _, _⟩ := HCW.out wr (HB12.out.trans (hn5.mono hs12))
                      obtain ⟨ub, hub⟩ : ∃ ub, ub = G.contains x.n.name := ⟨_, rfl⟩
                      have HAM := hidIt (among_any G (by omega) x.n.name a12 c12 wr (HG12.out.below hn5 (Nat.le_refl _)))
                      rw [← hub] at HAM
                      have HUB : Hid (ub = true ↔ x.n.name ∈ U) := by
                        show _ ↔ _
                        rw [hub, List.contains_iff_mem]; exact HGU.out _
                      clear hub hn5
                      cases rb
                      all_goals
                       go_wp2_with (go_at_call 27; refine HAM.out.mono ?_; rintro e w' ⟨rfl, rfl⟩)
                       go_roundw
                       case rel => exact ⟨k2 + 1, _, lb3, by omega, by go_num, rfl, rfl, by rw [HTK.out]; exact HRING.out.step HU.out HUB.out, by rw [HTK.out]; exact LackTo.over (HLS.out ▸ HLK.out), HB12.out.trans (HN5.out.mono hs12)⟩
                       case measure => simp [intOf]; omega
        · have hke : k2 = T.length := by omega
          subst hke
          rw [List.take_length] at HRING HLACK
          have HLB : Hid (lb = lacksB S) := by
            show lb = lacksB S
            have h0 := HLACK.out
            unfold LackTo at h0
            rw [Bool.eq_iff_iff, h0, lacksB, List.any_eq_true]
            constructor
            · rintro (⟨e, he, l, hl1, hl2⟩ | ⟨l, hl1, _⟩)
              · refine ⟨e.n, (notes_mem HS6.out HTN.out he).1, ?_⟩
                rw [List.any_eq_true]
                refine ⟨l, hl1, ?_⟩
                cases hcc : (S.map Nt.name).contains l with
                | false => rfl
                | true => exact absurd (List.contains_iff_mem.1 hcc) hl2
              · simp at hl1
            · rintro ⟨n, hn, h⟩
              rw [List.any_eq_true] at h
              obtain ⟨l, hl1, hl2⟩ := h
              obtain ⟨e, he, rfl⟩ := notes_all HS6.out HTN.out hn
              refine .inl ⟨e, he, l, hl1, fun hm => ?_⟩
              rw [List.contains_iff_mem.2 hm] at hl2
              cases hl2
          have HRB : Hid (rb = true ↔ ringP S) := by
            show _ ↔ _
            have h0 := HRING.out
            unfold RingTo at h0
            rw [h0]
            constructor
            · rintro ⟨e, he, U, h1, h2⟩
              exact ⟨e.n, (notes_mem HS6.out HTN.out he).1, U, h1, h2⟩
            · rintro ⟨n, hn, U, h1, h2⟩
              obtain ⟨e, he, rfl⟩ := notes_all HS6.out HTN.out hn
              exact ⟨e, he, U, h1, h2⟩
          rcases HSAY.out with ⟨h1, h2⟩ | ⟨h1, h2, h3⟩ | ⟨h1, h2, h3⟩
          · obtain rfl : lb = true := HLB.out.trans h1
            subst h2
            clear hnq h1
            go_wp2
            go_ret
            exact ⟨rfl, HB6.out.trans (HNQ.out.mono hw6)⟩
          · obtain rfl : lb = false := HLB.out.trans h1
            obtain rfl : rb = true := HRB.out.2 h2
            subst h3
            clear hnq h1 h2
            go_wp2
            go_ret
            exact ⟨rfl, HB6.out.trans (HNQ.out.mono hw6)⟩
          · obtain rfl : lb = false := HLB.out.trans h1
            obtain rfl : rb = false := by
              cases rb with
              | false => rfl
              | true => exact absurd (HRB.out.1 rfl) h2
            subst h3
            clear hnq h1 h2
            go_wp2
            go_ret
            exact ⟨rfl, HB6.out.trans (HNQ.out.mono hw6)⟩
end Go.Proofs.Ytnjjpahpaeblfaa
