/- What Order of package shelf answers: the names, each behind those that it leans on, the least first; or the error. -/
import Derived.Test.YtnjjpahpaeblfabNext
namespace Go.Proofs.Ytnjjpahpaeblfab
open Go.RowKit Go.Maps Go.Sort
set_option linter.unusedVariables false

theorem row_ne_map {w : World} {base e size n m nn : Nat} {v : Value} {xs : List Value} {H : Type} {R : Value → Option (DataW H × List MemPlace)} {D : DataW H} (hr : w.ownsRow base e size v n xs) (hm : w.ownsMap Try.prog 9 R m nn D) : some m ≠ v.ownBlock := by
  intro e
  obtain ⟨es, clock, hb, _⟩ := hm
  rcases hr.2 with ⟨rfl, _⟩ | ⟨g, cap, cur, rfl, _, hg, _⟩
  · simp [Value.ownBlock] at e
  · simp [Value.ownBlock] at e
    subst e
    rw [hb] at hg
    cases hg

theorem namesOf_ok {w : World} {p b : Nat} {F : Nat → Prop} {S : List Nt} {D : DataW Value} (h : SH w p b F S D) : StrsOk (namesOf S) := by
  refine ⟨by rw [namesOf_length]; have := h.few; omega, fun x hx => ?_⟩
  have hx' : x ∈ S.map Nt.name := (List.mergeSort_perm _ _).mem_iff.1 hx
  obtain ⟨n, hn, rfl⟩ := List.mem_map.1 hx'
  exact (h.inn n hn).1.name

theorem row_cells {w : World} {base g cap : Nat} {ss : List (List UInt8)} (h : w.ownsRow base 9 1 (.slice (some ⟨g, 0, none⟩) ss.length cap) ss.length (ss.map encStr)) : ∀ j, j < ss.length → w.cell? ⟨g, j, none⟩ = some (encStr (ss.getD j [])) := by
  intro j hj
  have := h.cells (g := g) rfl j (encStr (ss.getD j [])) (by rw [List.getElem?_map, List.getElem?_eq_getElem hj]; simp [List.getD, List.getElem?_eq_getElem hj])
  rw [show (⟨g, 0, none⟩ : Addr).add j = ⟨g, 0 + j, none⟩ from Addr.add_lit ..] at this
  simpa using this

theorem orderTo_succ_none {S : List Nt} {k : Nat} {o : List (List UInt8)} (h : orderTo S k = some o) (hn : nextOf S o = none) : orderTo S (k + 1) = none := by simp [orderTo, h, hn]
theorem orderTo_succ_some {S : List Nt} {k : Nat} {o : List (List UInt8)} {x : List UInt8} (h : orderTo S k = some o) (hn : nextOf S o = some x) : orderTo S (k + 1) = some (o ++ [x]) := by simp [orderTo, h, hn]

set_option maxRecDepth 100000 in
set_option maxHeartbeats 2000000 in
theorem order_any (w : World) (p b : Nat) (F : Nat → Prop) (S : List Nt) (D : DataW Value) (h : SH w p b F S D) :
    Calls Try.prog 14 #[.pointer (some ⟨p, 0, none⟩)] w fun e w' => ∃ v, e = .returned (.tuple #[v, .int .i64 (orderOf S).2]) ∧ w'.ownsRow w.heap.size 9 1 v (orderOf S).1.length ((orderOf S).1.map encStr) ∧ Below w.heap.size w w' := by
  obtain ⟨i0, hi, hz0, hz1, hz2⟩ := info_parts Try.info9
  have hmm := @run_makeMap Try.prog
  have HH : Hid (∀ w', Below w.heap.size w w' → SH w' p b F S D) := fun w' hb => h.below hb (Nat.le_refl _)
  have hnlen : S.length ≤ 64 := h.few
  have HNO : Hid (StrsOk (namesOf S)) := namesOf_ok h
  have hnl : (namesOf S).length = S.length := namesOf_length S
  have HNL : Hid ((namesOf S).length = S.length) := hnl
  clear hnl
  cases hL : lacksB S with
  | true =>
    have HO : Hid (orderOf S = ([], 12)) := by show orderOf S = _; simp [orderOf, hL]
    have HC : Hid (Calls Try.prog 21 #[.pointer (some ⟨p, 0, none⟩)] w fun e w' => e = .returned (.bool true) ∧ Below w.heap.size w w') := hL ▸ lacks_any w p b F S D h
    clear h
    go_enter Try.func14, Try.ntmps14
    go_wp2_with (go_at_call 21; refine HC.out.mono ?_; rintro e w1 ⟨rfl, hb1⟩)
    go_ret2
    rw [HO.out]
    exact ⟨_, rfl, World.ownsRow_nil _ _ _ _, hb1⟩
  | false =>
    have HOn : Hid (orderTo S S.length = none → orderOf S = ([], 11)) := fun e => by simp [orderOf, hL, e]
    have HOs : Hid (∀ o, orderTo S S.length = some o → orderOf S = (o, 0)) := fun o e => by simp [orderOf, hL, e]
    have HC : Hid (Calls Try.prog 21 #[.pointer (some ⟨p, 0, none⟩)] w fun e w' => e = .returned (.bool false) ∧ Below w.heap.size w w') := hL ▸ lacks_any w p b F S D h
    clear h
    go_enter Try.func14, Try.ntmps14
    go_wp2_with (first
      | (go_at_call 21; refine HC.out.mono ?_; rintro e w1 ⟨rfl, hb1⟩)
      | (go_at_call 18; refine (names_any w1 p b F S D (HH.out w1 hb1)).mono ?_; rintro e w2 ⟨gN, cN, rfl, hrN, hb2⟩; have HR2 : Hid (w2.ownsRow w1.heap.size 9 1 (.slice (some ⟨gN, 0, none⟩) S.length cN) S.length ((namesOf S).map encStr)) := hrN; have HB2 : Hid (Below w.heap.size w w2) := hb1.trans (hb2.mono hb1.size); clear hrN)
      | (at_make; refine wpList_make_own _ rfl _ _ 24 rfl w2.heap.size 9 i0 (.string ⟨#[]⟩) 1 Try.underlying24 hi hz0 hz1 _ _ _ S.length rfl rfl rfl (by rw [hz2]; omega) (by unfold maxLen; omega) (Nat.le_refl _) ?_; intro w3 hrow3 hg3)
      | go_in)
    have HB3 : Hid (Below w.heap.size w w3) := HB2.out.grown hg3 HB2.out.size (fun j hj => by cases hj)
    have hw2 := HB2.out.size
    have hw1 := hb1.size
    have hw3 := hg3.size
    have HR3 : Hid (∀ o, (w3.alloc o).ownsRow w1.heap.size 9 1 (.slice (some ⟨gN, 0, none⟩) S.length cN) S.length ((namesOf S).map encStr)) := fun o => (HR2.out.kept hg3 (Or.inr (by simp [Value.ownBlock]))).alloc o
    have hgN : gN < w2.heap.size := (HR2.out.lt gN rfl).2
    go_loopw [5, 21] (fun v i wr => ∃ (k : Nat) (o : List (List UInt8)) (DP : DataW Unit), k ≤ S.length ∧ i = .int .i64 k ∧ orderTo S k = some o ∧ wr.ownsRow w2.heap.size 9 1 v k (o.map encStr) ∧ wr.ownsMap Try.prog 9 (plainElem Try.prog 3) w3.heap.size k DP ∧ PlacedIs DP o ∧
        wr.ownsRow w1.heap.size 9 1 (.slice (some ⟨gN, 0, none⟩) S.length cN) S.length ((namesOf S).map encStr) ∧ Below w.heap.size w wr ∧ w3.heap.size < wr.heap.size)
      (fun _ i _ => S.length - (intOf i).toNat)
    case atStart =>
      exact ⟨0, [], .map [], Nat.zero_le _, rfl, rfl, hrow3.alloc _, World.ownsMap_made _ _ _ _, PlacedIs.start, HR3.out _, HB3.out.alloc HB3.out.size _, by simp⟩
    case round =>
      obtain ⟨k, o, DP, hk, rfl, hoT, hrow, hown, hP, hrN, hnx, hszr⟩ := hrel
      have HT : Hid (orderTo S k = some o) := hoT
      have HP : Hid (PlacedIs DP o) := hP
      have hol : o.length = k := orderTo_length S k o hoT
      have HOL : Hid (o.length = k) := hol
      clear hoT hP hol
      have hszn := hnx.size
      by_cases hlt : k < S.length
      · have hSH := HH.out wr hnx
        have hrN' : wr.ownsRow w1.heap.size 9 1 (.slice (some ⟨gN, 0, none⟩) (namesOf S).length cN) (namesOf S).length ((namesOf S).map encStr) := by rw [HNL.out]; exact hrN
        have hc0 := next_any (namesOf S) HNO.out gN cN wr p b F S D hSH (row_cells hrN') w3.heap.size k DP o hown HP.out
        rw [HNL.out] at hc0
        cases hnx0 : (namesOf S).find? (readyB S o) with
        | none =>
          rw [hnx0] at hc0
          have HC2 : Hid (Calls Try.prog 22 #[.pointer (some ⟨p, 0, none⟩), .slice (some ⟨gN, 0, none⟩) S.length cN, .map (some w3.heap.size)] wr fun e w' => e = .returned (.tuple #[.string ⟨#[]⟩, .bool false]) ∧ w' = wr) := hc0
          have HE : Hid (orderOf S = ([], 11)) := HOn.out (orderTo_none S (k + 1) S.length (orderTo_succ_none HT.out hnx0) (by omega))
          clear hc0 hnx0 hSH hrN'
          go_wp2_with (go_at_call 22; refine HC2.out.mono ?_; rintro e w' ⟨rfl, rfl⟩)
          go_ret2
          rw [HE.out]
          exact ⟨_, rfl, World.ownsRow_nil _ _ _ _, hnx⟩
        | some x =>
          rw [hnx0] at hc0
          have HC2 : Hid (Calls Try.prog 22 #[.pointer (some ⟨p, 0, none⟩), .slice (some ⟨gN, 0, none⟩) S.length cN, .map (some w3.heap.size)] wr fun e w' => e = .returned (.tuple #[.string ⟨x.toArray⟩, .bool true]) ∧ w' = wr) := hc0
          have HE : Hid (orderTo S (k + 1) = some (o ++ [x])) := orderTo_succ_some HT.out hnx0
          have hxl : x.length ≤ maxLen := HNO.out.2 x (List.mem_of_find?_eq_some hnx0)
          have hkey := key_str hxl
          have hw1 : (Lit.int .i64 ((k : Int) + 1)).wf = true := WalkArith.wf_i64 (by omega)
          have HI : Hid (IsMap DP) := hown.isMap
          clear hc0 hnx0 hSH hrN'
          go_wp2_with (first
            | (go_at_call 22; refine HC2.out.mono ?_; rintro e w' ⟨rfl, rfl⟩)
            | (at_builtin; refine wpList_append_own _ rfl _ _ 24 rfl w2.heap.size 9 i0 (.string ⟨#[]⟩) 1 16 Try.underlying24 hi hz0 hz1 hz2 rfl (by decide) _ _ _ rfl (hrow.alloc _) ⟨w'.heap.size, 0, none⟩ 1 1 [encStr x] rfl rfl (cell_one_new _ _ _) (by simp [Value.oneCell', encStr]) (by unfold maxLen; omega) (by omega) (by simp; omega) ?_; intro v' w5 hown5 hg5 hnil5; have HOW : Hid (w5.ownsMap Try.prog 9 (plainElem Try.prog 3) w3.heap.size k DP) := (hown.alloc _).kept hg5 (row_ne_map hrow hown); have HRN : Hid (w5.ownsRow w1.heap.size 9 1 (.slice (some ⟨gN, 0, none⟩) S.length cN) S.length ((namesOf S).map encStr)) := (hrN.alloc _).kept hg5 (Or.inr (row_ne_low hrow hgN)); have HB5 : Hid (Below w.heap.size w w5) := (hnx.alloc hszn _).grown hg5 (by simp; omega) (fun j hj => by have := (hrow.lt j hj).1; omega); obtain ⟨a5, c5, rfl⟩ := row_shape hown5; clear hnil5)
            | (at_mapUpdate; refine wpList_mapUpdate_own _ rfl _ _ _ 52 rfl 9 3 law9 Try.underlying52 (plainElem Try.prog 3) w3.heap.size k _ rfl HOW.out (by unfold maxLen; omega) _ _ _ rfl rfl hkey _ [] (plainElem_int Try.underlying3 hw1) ?_; intro w6 hown6 hg6)
            | go_in)
          have h5 := hg5.size
          have h6 := hg6.size
          simp at h5
          go_roundw
          case rel =>
            refine ⟨k + 1, o ++ [x], _, by omega, by go_num, HE.out, ?_, hown6, HP.out.step HI.out x _ (by omega), HRN.out.kept hg6 (Or.inr (row_ne_map HRN.out HOW.out).symm), HB5.out.grown hg6 HB5.out.size (fun j hj => by cases hj; omega), by omega⟩
            have : w5.ownsRow w2.heap.size 9 1 (.slice a5 (k + 1) c5) (k + 1) ((o ++ [x]).map encStr) := by simpa using hown5
            exact this.kept hg6 (Or.inr (row_ne_map this HOW.out).symm)
          case measure => simp [intOf]; omega
      · go_wp2
        go_ret2
        have hkl : k = S.length := by omega
        rw [hkl] at HT HOL
        rw [HOs.out o HT.out]
        refine ⟨_, rfl, row_mono ?_ (show w.heap.size ≤ w2.heap.size by omega), hnx⟩
        show wr.ownsRow w2.heap.size 9 1 _ o.length (o.map encStr)
        rw [HOL.out, ← hkl]
        exact hrow
end Go.Proofs.Ytnjjpahpaeblfab
