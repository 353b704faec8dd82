/- What Append, Residue and Table of the document, and sameLongs of the statements, answer. -/
import Derived.Test.YtjhaaphgaplhlaaRfs
import Derived.Test.YtjhaaphgaplhlaaApp
import Derived.Test.YtjhaaphgaplhlaaTof
import Derived.Test.YtjhaaphgaplhlaaAfM
namespace Go.Proofs.Ytjhaaphgaplhlaa
open Go.RowKit
set_option linter.unusedVariables false

set_option maxRecDepth 100000 in
set_option maxHeartbeats 400000 in
theorem refAppend_model (m : Mw) (hm : MwOk m) (hv : ¬ m.Valid) (sl : Value) (w : World) : Calls Try.prog 33 #[m.v, sl] w fun e w' => e = .returned (.tuple #[.slice none 0 0, .int .i64 40]) ∧ Below w.heap.size w w' := by
  have HV := hidD (fun sl w => refSum_none m hm hv sl w)
  clear hv hm
  obtain ⟨nm, W, P, I, inn, out, X⟩ := m
  simp only [Mw.v] at *
  have HB : Hid (∀ o, Below w.heap.size w (w.alloc o)) := fun o => (Below.refl w.heap.size w).alloc (Nat.le_refl _) o
  go_enter Try.func33, Try.ntmps33
  go_wp2_with (go_at_call 19; refine (HV.out _ _).mono ?_; rintro e w2 ⟨rfl, hb2⟩)
  refine bodyPost_ret (v := .tuple #[.slice none 0 0, .int .i64 40]) (by simp [results, Try.results33, go_sem]) rfl ⟨rfl, ?_⟩
  exact (HB.out _).trans (hb2.mono (by simp))

set_option maxRecDepth 100000 in
set_option maxHeartbeats 400000 in
theorem refAppend_arg (m : Md) (hm : MdOk m) (ha : ¬ (m.w % 8 = 0 ∧ m.inn = m.out)) (bs : List UInt8) (hl : bs.length ≤ 9223372036854775807) (sl : Value) (w : World) (hs : ByAt w sl bs) : Calls Try.prog 33 #[m.v, sl] w fun e w' => e = .returned (.tuple #[.slice none 0 0, .int .i64 1]) ∧ Below w.heap.size w w' := by
  have HV : Hid (∀ w', Below w.heap.size w w' → Calls Try.prog 19 #[m.v, sl] w' fun e w2 => e = .returned (.tuple #[.int .u64 (sumS m bs : Nat), .int .i64 0]) ∧ Below w'.heap.size w' w2) := fun w' h => refSum_some m hm bs hl sl w' (hs.below h (Nat.le_refl _))
  have HA := hidD (MdAt.new m w 36)
  have HB0 : Hid (Below w.heap.size w (w.alloc (.cells m.cells 36))) := (Below.refl w.heap.size w).alloc (Nat.le_refl _) _
  have HSZ : Hid (w.heap.size < (w.alloc (.cells m.cells 36)).heap.size) := by show _ < _; simp
  have hhi := hm.hi
  clear hm hs
  generalize sumS m bs = S at *
  obtain ⟨nm, ww, P, I, inn, out, X⟩ := m
  simp only [Md.v, Md.cells] at *
  obtain ⟨r, hr⟩ : ∃ r, ww % 8 = r := ⟨_, rfl⟩
  have hrem : (ww : Int).tmod 8 = (r : Int) := by rw [Int.tmod_eq_emod_of_nonneg (by omega)]; omega
  rw [hr] at ha
  clear hr
  by_cases h0 : r = 0
  · subst h0
    have hio : ¬ inn = out := fun h => ha ⟨rfl, h⟩
    have hrem : (ww : Int).tmod 8 = 0 := hrem
    clear ha
    cases inn <;> cases out
    any_goals exact absurd rfl hio
    all_goals go_enter Try.func33, Try.ntmps33
    all_goals go_wp2_with (go_at_call 19; refine (HV.out _ HB0.out).mono ?_; rintro e w2 ⟨rfl, hb2⟩; obtain ⟨k0, k1, k2, k3, k4, k5, k6⟩ := HA.out.below hb2 HSZ.out)
    all_goals refine bodyPost_ret (v := .tuple #[.slice none 0 0, .int .i64 1]) (by simp [results, Try.results33, go_sem]) rfl ⟨rfl, Below.next HB0.out hb2⟩
  · have hri : ¬ (r : Int) = 0 := by omega
    clear ha
    go_enter Try.func33, Try.ntmps33
    go_wp2_with (go_at_call 19; refine (HV.out _ HB0.out).mono ?_; rintro e w2 ⟨rfl, hb2⟩; obtain ⟨k0, k1, k2, k3, k4, k5, k6⟩ := HA.out.below hb2 HSZ.out)
    refine bodyPost_ret (v := .tuple #[.slice none 0 0, .int .i64 1]) (by simp [results, Try.results33, go_sem]) rfl ⟨rfl, Below.next HB0.out hb2⟩

set_option maxRecDepth 100000 in
set_option maxHeartbeats 1000000 in
theorem refAppend_some (m : Md) (hm : MdOk m) (h8 : m.w % 8 = 0) (hio : m.inn = m.out) (bs : List UInt8) (hl : bs.length ≤ 140737488355200) (sl : Value) (w : World) (hs : ByAt w sl bs) : Calls Try.prog 33 #[m.v, sl] w fun e w' => ∃ v, e = .returned (.tuple #[v, .int .i64 0]) ∧ w'.ownsRow w.heap.size 5 1 v (appS m bs).length ((appS m bs).map encB) ∧ Below w.heap.size w w' := by
  have HV : Hid (∀ w', Below w.heap.size w w' → Calls Try.prog 19 #[m.v, sl] w' fun e w2 => e = .returned (.tuple #[.int .u64 (sumS m bs : Nat), .int .i64 0]) ∧ Below w'.heap.size w' w2) := fun w' h => refSum_some m hm bs (by omega) sl w' (hs.below h (Nat.le_refl _))
  have HBY : Hid (∀ w', Below w.heap.size w w' → ByAt w' sl bs) := fun w' h => hs.below h (Nat.le_refl _)
  have HA := hidD (MdAt.new m w 36)
  have HB0 : Hid (Below w.heap.size w (w.alloc (.cells m.cells 36))) := (Below.refl w.heap.size w).alloc (Nat.le_refl _) _
  have HSZ : Hid (w.heap.size < (w.alloc (.cells m.cells 36)).heap.size) := by show _ < _; simp
  have hlo := hm.lo
  have hhi := hm.hi
  obtain ⟨cnt, hcnt⟩ : ∃ cnt, m.w / 8 = cnt := ⟨_, rfl⟩
  have HW8 : Hid (m.w = 8 * cnt) := by show _ = _; omega
  have hc8 : cnt ≤ 8 := by omega
  have hrem : (m.w : Int).tmod 8 = 0 := by rw [Int.tmod_eq_emod_of_nonneg (by omega)]; omega
  have HAP : Hid (appS m bs = bs ++ tailS m.out cnt (sumS m bs)) := by show _ = _; rw [← hcnt]; rfl
  generalize appS m bs = AP at *
  generalize sumS m bs = S at *
  clear hm hs hcnt h8
  obtain ⟨i0, hi, hz0, hz1, hz2⟩ := info_parts Try.info5
  obtain ⟨nm, ww, P, I, inn, out, X⟩ := m
  simp only [Md.v, Md.cells] at *
  subst hio
  obtain ⟨T, hT⟩ : ∃ T, tailS inn cnt S = T := ⟨_, rfl⟩
  have HTL : Hid (T.length = cnt) := by rw [← hT]; exact tail_length _ _ _
  have HTG : Hid (∀ k, k < cnt → T.getD k 0 = UInt8.ofNat (S / 2 ^ (plcS inn cnt k * 8) % 256)) := fun k hk => by rw [← hT]; exact tail_get hk
  rw [hT] at HAP
  clear hT
  have HMADE : Hid (∀ w2 : World, (w2.alloc (.cells #[] 5)).ownsRow w2.heap.size 5 1 (.slice (some ⟨w2.heap.size, 0, none⟩) 0 0) 0 []) := fun w2 => World.ownsRow_made (base := w2.heap.size) (e := 5) (size := 1) w2 #[] 0 (Nat.le_refl _) (by decide) rfl
  go_enter Try.func33, Try.ntmps33
  go_wp2_with (first
    | (go_at_call 19; refine (HV.out _ HB0.out).mono ?_; rintro e w2 ⟨rfl, hb2⟩; obtain ⟨k0, k1, k2, k3, k4, k5, k6⟩ := HA.out.below hb2 HSZ.out; have HX2 := hidD (HA.out.below hb2 HSZ.out); have HG2 := hidD (Nat.lt_of_lt_of_le HSZ.out hb2.size); have HB2 := hidD (Below.next HB0.out hb2); clear hb2)
    | (at_builtin; refine wpList_append_by rfl _ _ rfl w2.heap.size _ 0 [] rfl (HMADE.out w2) sl bs rfl (HBY.out _ (Below.more HB2.out _)) (by omega) (by simp) ?_; intro v3 w3 hown3 hg3; have HO3 := hidD hown3; have HR3 := hidD (row_grown (HMADE.out w2) ((Below.refl w2.heap.size w2).alloc (Nat.le_refl _) _) hg3 (by simp)); clear hown3 hg3 k0 k1 k2 k3 k4 k5 k6))
  go_loopw [8, 9] (fun o i wr => ∃ k : Nat, k ≤ cnt ∧ i = .int .i64 ((8 * k : Nat) : Int) ∧ wr.ownsRow w2.heap.size 5 1 o (bs.length + k) ((bs ++ T.take k).map encB) ∧ Below w2.heap.size w2 wr) (fun _ i _ => 8 * cnt - (intOf i).toNat)
  case atStart => exact ⟨0, Nat.zero_le _, rfl, by simpa using HO3.out, HR3.out⟩
  case round =>
    obtain ⟨k, hk, rfl, hown, hbel⟩ := hrel
    obtain ⟨ad, cd, hde⟩ := row_shape hown
    subst hde
    have HOW := hidD hown
    have HBL := hidD hbel
    obtain ⟨k0, k1, k2, k3, k4, k5, k6⟩ := HX2.out.below hbel HG2.out
    simp only at k0 k1 k2 k3 k4 k5 k6
    have hwz := hbel.size
    have HOA : Hid (∀ o, (wr.alloc o).ownsRow w2.heap.size 5 1 (.slice ad (bs.length + k) cd) (bs.length + k) ((bs ++ T.take k).map encB)) := fun o => row_below HOW.out ((Below.refl _ _).alloc (Nat.le_refl _) o)
    clear hown
    by_cases hlt : k < cnt
    · have hlti : ((8 * k : Nat) : Int) < ww := by have := HW8.out; omega
      obtain ⟨e, he⟩ : ∃ e, plcS inn cnt k * 8 = e := ⟨_, rfl⟩
      have hv : (S : Int) / 2 ^ e % 256 = (((T.getD k 0).toNat : Nat) : Int) := by
        have h1 : (S : Int) / 2 ^ e = ((S / 2 ^ e : Nat) : Int) := by simp
        rw [HTG.out k hlt, he, h1, UInt8.toNat_ofNat']
        omega
      have he8 : e ≤ 64 := by
        rw [← he]; unfold plcS; split <;> omega
      have HE := hidD he
      have HTK : Hid ((bs ++ T.take (k + 1)).map encB = (bs ++ T.take k).map encB ++ [.int .u8 (((T.getD k 0).toNat : Nat) : Int)]) := by
        show _ = _
        rw [List.map_append, take_next (by have := HTL.out; omega), ← List.append_assoc, ← List.map_append]; rfl
      clear hbel he
      generalize (T.getD k 0).toNat = tv at *
      generalize hi8 : 8 * k = i8 at *
      have HI8 := hidD hi8
      clear hi8
      cases inn
      · have hp1 : (ww : Int) - 8 - (i8 : Int) = (e : Int) := by have := HE.out; have := HI8.out; have := HW8.out; unfold plcS at *; simp only [Bool.false_eq_true, if_false] at *; omega
        go_wp2_with (at_builtin; refine wpList_append_own _ rfl _ _ 22 rfl w2.heap.size 5 i0 (.int .u8 0) 1 1 Try.underlying22 hi hz0 hz1 hz2 rfl (by decide) (.slice ad (bs.length + k) cd) (bs.length + k) ((bs ++ T.take k).map encB) rfl (HOA.out _) ⟨wr.heap.size, 0, none⟩ 1 1 [.int .u8 (tv : Int)] rfl rfl (new_cell1 wr _ _) (by simp [Value.oneCell']) (by unfold maxLen; omega) (by omega) (by simp; omega) ?_; intro v4 w4 hown4 hg4 hnil4; have HB4 := hidD (row_grown (HOA.out _) (HBL.out.alloc hwz _) hg4 (by simp; omega)); clear hg4 hnil4)
        go_roundw
        case rel => exact ⟨k + 1, by omega, by have := HI8.out; go_num, by rw [HTK.out]; exact hown4, HB4.out⟩
        case measure => have := HI8.out; simp [intOf]; omega
      · have hp1 : (i8 : Int) = (e : Int) := by have := HE.out; have := HI8.out; unfold plcS at *; simp only [if_true] at *; omega
        have HP1 := hidD hp1
        clear hp1
        have hie : i8 = e := by have := HP1.out; omega
        subst hie
        go_wp2_with (at_builtin; refine wpList_append_own _ rfl _ _ 22 rfl w2.heap.size 5 i0 (.int .u8 0) 1 1 Try.underlying22 hi hz0 hz1 hz2 rfl (by decide) (.slice ad (bs.length + k) cd) (bs.length + k) ((bs ++ T.take k).map encB) rfl (HOA.out _) ⟨wr.heap.size, 0, none⟩ 1 1 [.int .u8 (tv : Int)] rfl rfl (new_cell1 wr _ _) (by simp [Value.oneCell']) (by unfold maxLen; omega) (by omega) (by simp; omega) ?_; intro v4 w4 hown4 hg4 hnil4; have HB4 := hidD (row_grown (HOA.out _) (HBL.out.alloc hwz _) hg4 (by simp; omega)); clear hg4 hnil4)
        go_roundw
        case rel => exact ⟨k + 1, by omega, by have := HI8.out; go_num, by rw [HTK.out]; exact hown4, HB4.out⟩
        case measure => have := HI8.out; simp [intOf]; omega
    · obtain rfl : k = cnt := by omega
      have hle : ¬ (((8 * k : Nat) : Int) < ww) := by have := HW8.out; omega
      generalize 8 * k = i8 at *
      go_wp2_with fail
      refine bodyPost_ret (v := .tuple #[.slice ad (bs.length + k) cd, .int .i64 0]) (by simp [results, Try.results33, go_sem]) rfl ⟨_, rfl, ?_, Below.next HB2.out hbel⟩
      rw [HAP.out, List.length_append, HTL.out]
      have := HOW.out
      rw [List.take_of_length_le (by rw [HTL.out]; exact Nat.le_refl _)] at this
      exact row_mono this HB2.out.size
end Go.Proofs.Ytjhaaphgaplhlaa
