/- What Notes of package shelf answers: all notes in the order of their names, in new memory. -/
import Derived.Test.YtnjjpahpaeblfabGet
import Derived.Test.YtnjjpahpaeblfabBehindW
namespace Go.Proofs.Ytnjjpahpaeblfab
open Go.RowKit Go.Maps Go.Sort
set_option linter.unusedVariables false

def notesOf (S : List Nt) : List Nt := (namesOf S).map (getNt S)
theorem Try.info30 : (Try.prog.info? 30).map (fun i => (i.zero, i.size, i.bytes)) = some (some (.agg #[.string ⟨#[]⟩, .int .i64 0, .int .u32 0, .slice none 0 0]), 4, 56) := by kernel_rfl

theorem row_ne_type {w : World} {b1 b2 t1 t2 s1 s2 n1 n2 : Nat} {v1 v2 : Value} {x1 x2 : List Value} (h1 : w.ownsRow b1 t1 s1 v1 n1 x1) (h2 : w.ownsRow b2 t2 s2 v2 n2 x2) (hne : t1 ≠ t2) : v1.ownBlock = none ∨ v1.ownBlock ≠ v2.ownBlock := by
  rcases h1.2 with ⟨rfl, _⟩ | ⟨g, cap, cur, rfl, _, hg, _⟩
  · exact .inl rfl
  · refine .inr (fun e => ?_)
    rcases h2.2 with ⟨rfl, _⟩ | ⟨g', cap', cur', rfl, _, hg', _⟩
    · cases e
    · simp only [Value.ownBlock, Option.some.injEq] at e
      subst e
      rw [hg] at hg'
      cases hg'
      exact hne rfl

/-- The leans of a list of notes, each in a row of its own. -/
def LeansAt (w : World) (base : Nat) (T : List Ne) : Prop := ∀ e ∈ T, w.ownsRow base 9 1 (.slice e.a e.n.leans.length e.cap) e.n.leans.length (e.n.leans.map encStr)

set_option maxRecDepth 100000 in
set_option maxHeartbeats 2000000 in
theorem notes_any (w : World) (p b : Nat) (F : Nat → Prop) (S : List Nt) (D : DataW Value) (h : SH w p b F S D) :
    Calls Try.prog 8 #[.pointer (some ⟨p, 0, none⟩)] w fun e w' => ∃ v T, e = .returned v ∧ T.map Ne.n = notesOf S ∧ T.length = S.length ∧ w'.ownsRow w.heap.size 30 4 v T.length (allCells T) ∧ LeansAt w' w.heap.size T ∧ Below w.heap.size w w' := by
  obtain ⟨i0, hi, hz0, hz1, hz2⟩ := info_parts Try.info30
  have hcell := h.cell
  have hown := h.own
  have hp : p < w.heap.size := World.block_lt_of_cell? w _ h.cell
  have hnlen : S.length ≤ 64 := h.few
  have HSZ := hidIt h.size
  have hsz64 : Maps.size D ≤ 64 := by rw [h.size]; exact h.few
  have HH := hidIt h
  have HNO := hidIt (namesOf_ok h)
  have HNL := hidIt (namesOf_length S)
  clear h
  go_enter Try.func8, Try.ntmps8
  go_wp2_with (first
    | (at_len; refine wpList_len_own _ rfl _ 44 rfl 9 30 Try.underlying44 noteR b S.length D rfl hown ?_)
    | (at_make; refine wpList_make_own _ rfl _ _ 34 rfl w.heap.size 30 i0 _ 4 Try.underlying34 hi hz0 hz1 _ _ _ (Maps.size D) rfl rfl rfl (by rw [hz2]; omega) (by unfold maxLen; omega) (Nat.le_refl _) ?_; intro w1 hrow1 hg1; have HB1 : Hid (Below w.heap.size w w1) := (Below.refl _ _).grown hg1 (Nat.le_refl _) (fun j hj => by cases hj); have HROW1 := hidIt hrow1; have hs1 := hg1.size; clear hrow1 hg1)
    | (go_at_call 18; refine (names_any w1 p b F S D (HH.out.below HB1.out (Nat.le_refl _))).mono ?_; rintro e w2 ⟨gN, cN, rfl, hrN, hb2⟩; have HR2 := hidIt hrN; have HB2 : Hid (Below w.heap.size w w2) := HB1.out.trans (hb2.mono hs1); have HW2 := hidIt (HROW1.out.kept (grown_of_below hb2 (row := none)) (Or.inr (by simp [Value.ownBlock]))); clear hrN hb2)
    | go_in)
  go_loopw [3, 17] (fun v i wr => ∃ (k : Nat) (T : List Ne), k ≤ S.length ∧ i = .int .i64 k ∧ T.length = k ∧ T.map Ne.n = ((namesOf S).take k).map (getNt S) ∧ wr.ownsRow w.heap.size 30 4 v T.length (allCells T) ∧ LeansAt wr w.heap.size T ∧ wr.ownsRow w1.heap.size 9 1 (.slice (some ⟨gN, 0, none⟩) S.length cN) S.length ((namesOf S).map encStr) ∧ Below w.heap.size w wr)
    (fun _ i _ => S.length - (intOf i).toNat)
  case atStart => exact ⟨0, [], Nat.zero_le _, rfl, rfl, by simp, HW2.out, fun e he => by simp at he, HR2.out, HB2.out⟩
  case round =>
    obtain ⟨k, T, hk, rfl, hTk, hTn, hrow, hLe, hrN, hnx⟩ := hrel
    have HTN := hidIt hTn
    have HTK := hidIt hTk
    have HROW := hidIt hrow
    have HLE := hidIt hLe
    have HRN := hidIt hrN
    have HNX := hidIt hnx
    have hszn := hnx.size
    have hT64 : T.length ≤ 64 := by omega
    obtain ⟨a5, c5, rfl⟩ := row_shape hrow
    by_cases hlt : k < S.length
    · have hlt' : k < (namesOf S).length := by rw [HNL.out]; exact hlt
      have hrN' : wr.ownsRow w1.heap.size 9 1 (.slice (some ⟨gN, 0, none⟩) (namesOf S).length cN) (namesOf S).length ((namesOf S).map encStr) := by rw [HNL.out]; exact hrN
      have hcx := row_cells hrN' k hlt'
      have hxl := HNO.out.2 _ (mem_getD hlt')
      have hcp : wr.cell? ⟨p, 0, none⟩ = some (.map (some b)) := (hnx.cell (p := ⟨p, 0, none⟩) hp).trans hcell
      obtain ⟨hok, q, c, hlook, hst⟩ := (HH.out.below hnx (Nat.le_refl _)).lookG ((namesOf S).getD k []) hxl
      have hl2 := (hlook wr (HH.out.below hnx (Nat.le_refl _)).own).2
      have HTS : Hid (((namesOf S).take (k + 1)).map (getNt S) = ((namesOf S).take k).map (getNt S) ++ [getNt S ((namesOf S).getD k [])]) := by
        show List.map _ _ = _
        rw [List.take_succ_eq_append_getElem hlt', List.map_append, List.getD, List.getElem?_eq_getElem hlt']; rfl
      have hcx' : wr.cell? ⟨gN, k, none⟩ = some (.string ⟨((namesOf S).getD k []).toArray⟩) := hcx
      generalize getNt S ((namesOf S).getD k []) = m at *
      generalize (namesOf S).getD k [] = x at *
      have HC := hidIt (copyNote_agg m hok q c wr hst)
      clear hcx hrN' hlook hst hok hTn hTk hrow hLe hrN hnx
      go_wp2_with (first
        | (go_at_call 17; refine HC.out.mono ?_; rintro e w3 ⟨a3, c3, rfl, hr3, hb3⟩; have HR3 := hidIt hr3; have HB3 := hidIt hb3; have HW3 := hidIt (HROW.out.kept (grown_of_below hb3 (row := none)) (by cases hq : (Value.slice a5 T.length c5).ownBlock <;> simp)); have hs3 := hb3.size; clear hr3 hb3)
        | (at_builtin; refine wpList_append_own _ rfl _ _ 34 rfl w.heap.size 30 i0 _ 4 56 Try.underlying34 hi hz0 hz1 hz2 rfl (by decide) _ T.length (allCells T) rfl (HW3.out.alloc _) ⟨w3.heap.size, 0, none⟩ 1 1 (neCells ⟨m, a3, c3⟩) rfl rfl (cells4_new _ _ _ _ _ _) (ne_oneCell ⟨m, a3, c3⟩) (by unfold maxLen; omega) (by omega) (by simp; omega) ?_; intro v' w4 hown4 hg4 hnil4; clear hnil4)
        | go_in)
      have hs4 := hg4.size
      simp at hs4
      go_roundw
      case rel =>
        have hG : ∀ {base n : Nat} {v : Value} {xs : List Value}, w3.ownsRow base 9 1 v n xs → w4.ownsRow base 9 1 v n xs := fun {base n v xs} h => (h.alloc _).kept hg4 (row_ne_type h HW3.out (by decide))
        refine ⟨k + 1, T ++ [⟨m, a3, c3⟩], by omega, by go_num, by simp; exact HTK.out, ?_, ?_, ?_, ?_, ?_⟩
        · rw [List.map_append, HTN.out, HTS.out]; rfl
        · rw [allCells_snoc]; simpa using hown4
        · intro e he
          rcases List.mem_append.1 he with he | he
          · exact hG ((HLE.out e he).kept (grown_of_below HB3.out (row := none)) (by cases hq : (Value.slice e.a e.n.leans.length e.cap).ownBlock <;> simp))
          · rw [List.mem_singleton] at he
            subst he
            exact hG (row_mono HR3.out hszn)
        · exact hG (HRN.out.kept (grown_of_below HB3.out (row := none)) (by simp [Value.ownBlock]))
        · exact ((HNX.out.trans (HB3.out.mono hszn)).alloc (by omega) _).grown hg4 (by simp; omega) (fun j hj => (HW3.out.lt j hj).1)
      case measure => simp [intOf]; omega
    · go_wp2
      go_ret
      have hkl : k = S.length := by omega
      refine ⟨_, T, rfl, ?_, by omega, HROW.out, HLE.out, HNX.out⟩
      rw [HTN.out, hkl, ← HNL.out, List.take_length]
      rfl
end Go.Proofs.Ytnjjpahpaeblfab
