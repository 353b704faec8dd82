/- What rightLeans of package shelf answers, for every own name and every slice of strings. -/
import Derived.Test.YtnjjpahpaeblfabName
import Derived.WalkArith
namespace Go.Proofs.Ytnjjpahpaeblfab
open Go.RowKit Go.Maps
set_option linter.unusedVariables false

theorem law9 : Keyed Try.prog 9 := string_keyed Try.underlying9

/-- A slice value reads as these strings. -/
def StrsAt (w : World) (sl : Value) (ss : List (List UInt8)) : Prop :=
  (ss = [] ∧ ∃ a cap, sl = .slice a 0 cap ∧ (a = none → cap = 0)) ∨
  ∃ g off cap, sl = .slice (some ⟨g, off, none⟩) ss.length cap ∧ g < w.heap.size ∧ ∀ j, j < ss.length → w.cell? ⟨g, off + j, none⟩ = some (encStr (ss.getD j []))
/-- Lengths that a form reads. -/
def StrsOk (ss : List (List UInt8)) : Prop := ss.length ≤ 8796093022208 ∧ ∀ x ∈ ss, x.length ≤ maxLen

theorem StrsAt.below {B : Nat} {w w' : World} {sl : Value} {ss : List (List UInt8)} (h : StrsAt w sl ss) (hb : Below B w w') (hB : w.heap.size ≤ B) : StrsAt w' sl ss := by
  rcases h with h | ⟨g, off, cap, rfl, hg, hc⟩
  · exact .inl h
  · refine .inr ⟨g, off, cap, rfl, Nat.lt_of_lt_of_le hg hb.size, fun j hj => ?_⟩
    rw [hb.cell (p := ⟨g, off + j, none⟩) (Nat.lt_of_lt_of_le hg hB)]
    exact hc j hj

def cntD (ls : List (List UInt8)) (k : Nat) (x : List UInt8) : Int := if (ls.take k).contains x then 1 else 0
theorem cntD_bd (ls : List (List UInt8)) (k : Nat) (x : List UInt8) : 0 ≤ cntD ls k x ∧ cntD ls k x ≤ 1 := by unfold cntD; split <;> omega

theorem zero3 (w : World) : (zeroValue 3).run Try.prog w = .ok (.int .i64 0) w := by kernel_rfl
theorem key_str {x : List UInt8} (h : x.length ≤ maxLen) : keyOf Try.prog 9 (.string ⟨x.toArray⟩) = some (.string x) := by
  simp [keyOf, Try.underlying9, mapKey, ByteArray.size, h]

/-- The counts: what the map of counts reads as behind k rounds without a fault. -/
def CntIs (D : DataW Unit) (ls : List (List UInt8)) (k : Nat) : Prop := ∀ x, D.atKey (.string x) (.lit (.int .i64 0)) = .lit (.int .i64 (cntD ls k x))

theorem CntIs.start (ls : List (List UInt8)) : CntIs (.map []) ls 0 := by
  intro x
  simp [cntD, DataW.atKey]

theorem CntIs.step {D : DataW Unit} {ls : List (List UInt8)} {k : Nat} (h : CntIs D ls k) (hD : IsMap D) (hk : k < ls.length) (hn : (ls.take k).contains (ls.getD k []) = false) : CntIs (D.put (.string (ls.getD k [])) (.lit (.int .i64 1))) ls (k + 1) := by
  intro x
  have ht : ls.take (k + 1) = ls.take k ++ [ls.getD k []] := by
    rw [List.take_succ_eq_append_getElem hk]; simp [List.getD, List.getElem?_eq_getElem hk]
  by_cases e : x = ls.getD k []
  · subst e
    rw [atKey_put_same hD (by simp [WideAt.IsKeyLit])]
    simp [cntD, ht]
  · rw [atKey_put_other (by simpa using e), h x]
    have : cntD ls (k + 1) x = cntD ls k x := by
      have e1 : (ls.take k ++ [ls.getD k []]).contains x = (ls.take k).contains x := by
        rw [Bool.eq_iff_iff]
        simp only [List.contains_eq_mem, List.mem_append, List.mem_singleton, e, or_false]
      simp only [cntD, ht, e1]
    rw [this]

set_option maxHeartbeats 1000000 in
theorem rightLeans_empty (own : List UInt8) (a : Option Addr) (cap : Nat) (w : World) : Calls Try.prog 25 #[encStr own, .slice a 0 cap] w fun e w' => e = .returned (.bool true) ∧ Below w.heap.size w w' := by
  have hmm := @run_makeMap Try.prog
  unfold encStr
  go_enter Try.func25, Try.ntmps25
  go_wp2
  refine wp_loop_rounds 1 ?_
  rw [rounds_succ]
  go_wp2
  go_ret
  exact ⟨rfl, (Below.refl _ _).alloc (Nat.le_refl _) _⟩

theorem isName_str (l : List UInt8) (w : World) (hl : l.length ≤ maxLen) : Calls Try.prog 24 #[.string ⟨l.toArray⟩] w fun e w' => e = .returned (.bool (nmB l)) ∧ w' = w := isName_any l w hl

set_option maxRecDepth 100000 in
set_option maxHeartbeats 1000000 in
theorem rightLeans_some (own : List UInt8) (ls : List (List UInt8)) (hok : StrsOk ls) (ho : own.length ≤ maxLen) (g off cap : Nat) (w : World) (hg : g < w.heap.size)
    (hc : ∀ j, j < ls.length → w.cell? ⟨g, off + j, none⟩ = some (encStr (ls.getD j []))) : Calls Try.prog 25 #[encStr own, .slice (some ⟨g, off, none⟩) ls.length cap] w fun e w' => e = .returned (.bool (rlB own ls)) ∧ Below w.heap.size w w' := by
  obtain ⟨hlen, hls⟩ := hok
  have HC : Hid (∀ j, j < ls.length → w.cell? ⟨g, off + j, none⟩ = some (encStr (ls.getD j []))) := hc
  have HL : Hid (∀ x ∈ ls, x.length ≤ maxLen) := hls
  clear hc hls
  have hmm := @run_makeMap Try.prog
  unfold encStr
  go_enter Try.func25, Try.ntmps25
  go_wp2
  go_loopw [11] (fun i wr => ∃ (k : Nat) (D : DataW Unit), k ≤ ls.length ∧ i = .int .i64 k ∧ wr.ownsMap Try.prog 9 (plainElem Try.prog 3) w.heap.size k D ∧ CntIs D ls k ∧ Below w.heap.size w wr ∧ ∀ j, j < k → goodAt own ls j = true)
    (fun i _ => ls.length - (intOf i).toNat)
  case atStart => exact ⟨0, .map [], Nat.zero_le _, rfl, World.ownsMap_made _ _ _ _, CntIs.start ls, (Below.refl _ _).alloc (Nat.le_refl _) _, fun j hj => by omega⟩
  case round =>
    obtain ⟨k, D, hk, rfl, hown, hD, hnx, hall⟩ := hrel
    have HA : Hid (∀ j, j < k → goodAt own ls j = true) := hall
    have HD : Hid (CntIs D ls k) := hD
    clear hall hD
    by_cases hlt : k < ls.length
    · have hcx : wr.cell? ⟨g, off + k, none⟩ = some (.string ⟨(ls.getD k []).toArray⟩) := (hnx.cell (p := ⟨g, off + k, none⟩) hg).trans (HC.out k hlt)
      have hxl : (ls.getD k []).length ≤ maxLen := HL.out _ (by rw [List.getD, List.getElem?_eq_getElem hlt]; exact List.getElem_mem hlt)
      have hkey := key_str hxl
      obtain ⟨c, hrun, hat, hwc⟩ := hown.lookup_int law9 Try.underlying52 Try.underlying3 (zero3 wr) hkey
      have hcc : c = cntD ls k (ls.getD k []) := by have := HD.out (ls.getD k []); rw [hat] at this; simpa using this
      have hbd := cntD_bd ls k (ls.getD k [])
      rw [← hcc] at hbd
      obtain ⟨hb0, hb1⟩ := hbd
      have HX : Hid (c = cntD ls k (ls.getD k [])) := hcc
      have HT : Hid (D.atKey (.string (ls.getD k [])) (.lit (.int .i64 0)) = .lit (.int .i64 c)) := hat
      clear hcc hat hwc
      have HG : Hid (goodAt own ls k = (nmB (ls.getD k []) && !(ls.getD k [] == own) && !((ls.take k).contains (ls.getD k [])))) := rfl
      generalize hx : ls.getD k [] = x at *
      have Hx : Hid (ls.getD k [] = x) := hx
      clear hx
      have hw1 : (Lit.int .i64 (c + 1)).wf = true := WalkArith.wf_i64 (by omega)
      have HI : Hid (IsMap D) := hown.isMap
      cases hN : nmB x with
      | false =>
        have HF : Hid (rlB own ls = false) := rlB_false hlt (by rw [HG.out, hN]; rfl)
        clear HG
        go_wp2_with (first
          | (at_mapUpdate; refine wpList_mapUpdate_own _ rfl _ _ _ 52 rfl 9 3 law9 Try.underlying52 (plainElem Try.prog 3) w.heap.size k _ rfl hown (by unfold maxLen; omega) _ _ _ rfl rfl hkey _ [] (plainElem_int Try.underlying3 hw1) ?_; intro w1 hown1 hgrow1)
          | (go_at_call 24; refine (isName_str x _ hxl).mono ?_; rintro e w' ⟨rfl, rfl⟩)
          | go_in)
        go_ret
        exact ⟨ret_bool HF.out.symm, hnx.grown hgrow1 hnx.size (fun j hj => by cases hj; exact Nat.le_refl _)⟩
      | true =>
        by_cases hxo : x = own
        · have HF : Hid (rlB own ls = false) := rlB_false hlt (by rw [HG.out, hN, hxo]; simp)
          clear HG
          subst hxo
          go_wp2_with (first
            | (at_mapUpdate; refine wpList_mapUpdate_own _ rfl _ _ _ 52 rfl 9 3 law9 Try.underlying52 (plainElem Try.prog 3) w.heap.size k _ rfl hown (by unfold maxLen; omega) _ _ _ rfl rfl hkey _ [] (plainElem_int Try.underlying3 hw1) ?_; intro w1 hown1 hgrow1)
            | (go_at_call 24; refine (isName_str x _ hxl).mono ?_; rintro e w' ⟨rfl, rfl⟩)
            | go_in)
          go_ret
          exact ⟨ret_bool HF.out.symm, hnx.grown hgrow1 hnx.size (fun j hj => by cases hj; exact Nat.le_refl _)⟩
        · have hne : (x == own) = false := by simpa using hxo
          have HG2 : Hid (goodAt own ls k = !((ls.take k).contains x)) := by
            show goodAt own ls k = _
            rw [HG.out, hN]; simp [hxo]
          clear HG
          cases hcn : (ls.take k).contains x with
          | true =>
            have HF : Hid (rlB own ls = false) := rlB_false hlt (by rw [HG2.out, hcn]; rfl)
            obtain rfl : c = 1 := by rw [HX.out]; simp only [cntD, hcn]; rfl
            go_wp2_with (first
              | (at_mapUpdate; refine wpList_mapUpdate_own _ rfl _ _ _ 52 rfl 9 3 law9 Try.underlying52 (plainElem Try.prog 3) w.heap.size k _ rfl hown (by unfold maxLen; omega) _ _ _ rfl rfl hkey _ [] (plainElem_int Try.underlying3 hw1) ?_; intro w1 hown1 hgrow1; obtain ⟨c2, hrun2, hat2, hwc2⟩ := hown1.lookup_int law9 Try.underlying52 Try.underlying3 (zero3 w1) hkey; rw [atKey_put_same HI.out (by simp [WideAt.IsKeyLit])] at hat2; obtain rfl : c2 = 1 + 1 := by simpa using hat2.symm)
              | (go_at_call 24; refine (isName_str x _ hxl).mono ?_; rintro e w' ⟨rfl, rfl⟩)
              | go_in)
            go_ret
            exact ⟨ret_bool HF.out.symm, hnx.grown hgrow1 hnx.size (fun j hj => by cases hj; exact Nat.le_refl _)⟩
          | false =>
            have HO : Hid (goodAt own ls k = true) := by show goodAt own ls k = true; rw [HG2.out, hcn]; rfl
            obtain rfl : c = 0 := by rw [HX.out]; simp only [cntD, hcn]; rfl
            go_wp2_with (first
              | (at_mapUpdate; refine wpList_mapUpdate_own _ rfl _ _ _ 52 rfl 9 3 law9 Try.underlying52 (plainElem Try.prog 3) w.heap.size k _ rfl hown (by unfold maxLen; omega) _ _ _ rfl rfl hkey _ [] (plainElem_int Try.underlying3 hw1) ?_; intro w1 hown1 hgrow1; obtain ⟨c2, hrun2, hat2, hwc2⟩ := hown1.lookup_int law9 Try.underlying52 Try.underlying3 (zero3 w1) hkey; rw [atKey_put_same HI.out (by simp [WideAt.IsKeyLit])] at hat2; obtain rfl : c2 = 0 + 1 := by simpa using hat2.symm)
              | (go_at_call 24; refine (isName_str x _ hxl).mono ?_; rintro e w' ⟨rfl, rfl⟩)
              | go_in)
            go_roundw
            case rel =>
              refine ⟨k + 1, _, by omega, by go_num, hown1, ?_, hnx.grown hgrow1 hnx.size (fun j hj => by cases hj; exact Nat.le_refl _), fun j hj => ?_⟩
              · have := HD.out.step HI.out hlt (by rw [Hx.out]; exact hcn)
                rw [Hx.out] at this
                exact this
              · by_cases e : j = k
                · subst e; exact HO.out
                · exact HA.out j (by omega)
            case measure => simp [intOf]; omega
    · go_wp2
      go_ret
      have hkl : k = ls.length := by omega
      subst hkl
      exact ⟨ret_bool ((rlB_iff own ls).2 HA.out).symm, hnx⟩

theorem rightLeans_any (own : List UInt8) (ls : List (List UInt8)) (hok : StrsOk ls) (ho : own.length ≤ maxLen) (sl : Value) (w : World) (h : StrsAt w sl ls) :
    Calls Try.prog 25 #[encStr own, sl] w fun e w' => e = .returned (.bool (rlB own ls)) ∧ Below w.heap.size w w' := by
  rcases h with ⟨rfl, a, cap, rfl, _⟩ | ⟨g, off, cap, rfl, hg, hc⟩
  · exact rightLeans_empty own a cap w
  · exact rightLeans_some own ls hok ho g off cap w hg hc
end Go.Proofs.Ytnjjpahpaeblfab
