/- What copyOf, slices.Reverse at bytes, and coefficients answer. -/
import Derived.Test.YtdpkeffkpecmjaaRpa
import Derived.Test.YtdpkeffkpecmjaaDvd
namespace Go.Proofs.Ytdpkeffkpecmjaa
open Go.RowKit
set_option linter.unusedVariables false

set_option maxRecDepth 100000 in
set_option maxHeartbeats 800000 in
theorem copyOf_any (p : List UInt8) (hpl : p.length ≤ 281474976710656) (vp : Value) (w : World) (hp : SlAt w vp p) :
    Calls Try.prog 44 #[vp] w fun e w' => e = .returned (.slice (some ⟨w.heap.size, 0, none⟩) p.length p.length) ∧ RowAt w' w.heap.size p ∧ Below w.heap.size w w' := by
  obtain ⟨⟨a, ca, rfl, hca1, hca2⟩, hpb⟩ := hp
  have HSRC := hidD (fun (w' : World) (h : Below w.heap.size w w') => SlAt.src (hpb.next h))
  have HSP := hidD (splice_same p)
  have HONE := hidD (bytes_oneCell p)
  have HPM : Hid ((p.map encB).length = p.length) := List.length_map _
  clear hpb hca1 hca2
  generalize hlp : p.length = lp at *
  have HLP := hidD hlp
  clear hlp
  obtain ⟨i0, hi, hz0, hz1, hz2⟩ := info_parts Try.info5
  have hi5 : (Try.prog.info? 5).map (·.size) = some 1 := by rw [hi]; simp [hz1]
  go_enter Try.func44, Try.ntmps44
  go_wp2_with (first
    | (at_make; refine wpList_make_full _ rfl _ _ 22 rfl w.heap.size 5 i0 (.int .u8 0) 1 Try.underlying22 hi hz0 hz1 _ _ _ _ lp rfl rfl (by omega) (by omega) (by rw [hz2]; omega) (by unfold maxLen; omega) (Nat.le_refl _) ?_; intro w3 hown3 hg3; have HR3 := hidD (row_replicate (row_of_made hown3)); have HB3 : Hid (Below w.heap.size w w3) := ((Below.refl w.heap.size w).grown hg3 (Nat.le_refl _) (fun k hk => by cases hk)); clear hown3 hg3)
    | (refine wpList_copy_splice rfl _ _ 22 22 rfl 5 Try.underlying22 hi5 (some ⟨w.heap.size, 0, none⟩) a lp lp lp ca rfl rfl w.heap.size 0 (List.replicate lp (.int .u8 0)) 5 HR3.out (p.map encB) (by rw [HPM.out]; exact (Nat.min_self _).symm) (fun h0 => ⟨rfl, HSRC.out _ HB3.out h0⟩) (by rw [HPM.out, List.length_replicate]; omega) HONE.out w.heap.size w HB3.out (Nat.le_refl _) ?_; intro w4 hg4 hb4; have HB4 := hidD hb4; clear hb4))
  all_goals
    have HR4 : Hid (RowAt w4 w.heap.size p) := by
      have := hg4.out
      rw [HSP.out] at this
      exact this
    clear hg4
    go_wp2_with fail
    go_ret
    exact ⟨rfl, HR4.out, HB4.out⟩

/-- A list of which the first k and the last k are exchanged. -/
def revTo (p : List UInt8) (k : Nat) : List UInt8 := (List.range p.length).map fun i => if i < k ∨ p.length ≤ i + k then cf p (p.length - 1 - i) else cf p i
theorem revTo_length (p : List UInt8) (k : Nat) : (revTo p k).length = p.length := by simp [revTo]
theorem revTo_zero (p : List UInt8) : revTo p 0 = p := cf_ext (revTo_length p 0) fun i hi => by
  rw [revTo_length] at hi
  rw [revTo, cf_map, if_pos hi, if_neg (by omega)]
theorem cf_reverse (p : List UInt8) (i : Nat) (h : i < p.length) : cf p.reverse i = cf p (p.length - 1 - i) := by
  unfold cf
  rw [List.getD_eq_getElem?_getD, List.getD_eq_getElem?_getD, List.getElem?_reverse h]
theorem revTo_end (p : List UInt8) (k : Nat) (h : p.length ≤ 2 * k + 1) : revTo p k = p.reverse := cf_ext (by simp [revTo]) fun i hi => by
  rw [revTo_length] at hi
  rw [revTo, cf_map, if_pos hi, cf_reverse p i hi]
  split
  · rfl
  · congr 1; omega
theorem revTo_step (p : List UInt8) (k : Nat) (h : 2 * k + 1 < p.length) : ((revTo p k).set k (cf (revTo p k) (p.length - 1 - k))).set (p.length - 1 - k) (cf (revTo p k) k) = revTo p (k + 1) := cf_ext (by simp [revTo]) fun i hi => by
  rw [List.length_set, List.length_set, revTo_length] at hi
  rw [cf_set _ _ _ _ (by rw [List.length_set, revTo_length]; omega), cf_set _ _ _ _ (by rw [revTo_length]; omega)]
  simp only [revTo, cf_map]
  rw [if_pos (show k < p.length by omega), if_pos (show p.length - 1 - k < p.length by omega), if_pos hi, if_pos hi, if_neg (show ¬ (k < k ∨ p.length ≤ k + k) by omega), if_neg (show ¬ (p.length - 1 - k < k ∨ p.length ≤ p.length - 1 - k + k) by omega)]
  by_cases h1 : i = p.length - 1 - k
  · rw [if_pos h1, if_pos (by omega)]; congr 1; omega
  · rw [if_neg h1]
    by_cases h2 : i = k
    · rw [if_pos h2, if_pos (by omega)]; congr 1; omega
    · rw [if_neg h2]
      by_cases h3 : i < k ∨ p.length ≤ i + k
      · rw [if_pos h3, if_pos (by omega)]
      · rw [if_neg h3, if_neg (by omega)]

set_option maxRecDepth 100000 in
set_option maxHeartbeats 1600000 in
theorem reverse_any (p : List UInt8) (hpl : p.length ≤ 281474976710656) (g : Nat) (w : World) (hr : RowAt w g p) :
    Calls Try.prog 56 #[.slice (some ⟨g, 0, none⟩) p.length p.length] w fun e w' => e = .returned (.tuple #[]) ∧ RowAt w' g p.reverse ∧ But g w w' := by
  have HLN := hidD (revTo_length p)
  have HST := hidD (revTo_step p)
  have HEN := hidD (revTo_end p)
  have HR0 : Hid (RowAt w g (revTo p 0)) := by rw [revTo_zero]; exact hr
  clear hr
  generalize hlp : p.length = n at *
  clear hlp
  go_enter Try.func56, Try.ntmps56
  go_wp2_with fail
  go_loopw [2, 3] (fun i j wr => ∃ k : Nat, 2 * k ≤ n ∧ i = .int .i64 k ∧ j = .int .i64 ((n : Int) - 1 - k) ∧ RowAt wr g (revTo p k) ∧ But g w wr) (fun i _ _ => n - (intOf i).toNat)
  case atStart => exact ⟨0, by omega, rfl, by go_num, HR0.out, But.refl _ _⟩
  case round =>
    obtain ⟨k, hk, rfl, rfl, hrow, hbut⟩ := hrel
    have HBU := hidD hbut
    have HRW := hidD hrow
    by_cases hlt : 2 * k + 1 < n
    · have hm : (n : Int) - 1 - k = ((n - 1 - k : Nat) : Int) := by omega
      have HS := hidD (HST.out k hlt)
      have hc1 : wr.cell? ⟨g, k, none⟩ = some (.int .u8 ((cf (revTo p k) k).toNat : Int)) := hrow.cell (by rw [HLN.out]; omega)
      have hc2 : wr.cell? ⟨g, n - 1 - k, none⟩ = some (.int .u8 ((cf (revTo p k) (n - 1 - k)).toNat : Int)) := hrow.cell (by rw [HLN.out]; omega)
      have hf1 := hrow.frozen k
      have hf2 := hrow.frozen (n - 1 - k)
      rw [hm]
      have hlt1 : (k : Int) < ((n - 1 - k : Nat) : Int) := by omega
      have hlt2 : (k : Int) < n := by omega
      have hlt3 : ((n - 1 - k : Nat) : Int) < n := by omega
      have HN := hidD ((hrow.set k (cf (revTo p k) (n - 1 - k))).set (n - 1 - k) (cf (revTo p k) k))
      rw [HS.out] at HN
      have HNX : Hid (((n - 1 - k : Nat) : Int) - 1 = (n : Int) - 1 - ((k + 1 : Nat) : Int)) := by show _ = _; omega
      have hmm : n - 1 - k ≤ 281474976710656 := by omega
      have hne : ¬ k = n - 1 - k := by omega
      clear hm
      generalize n - 1 - k = m at *
      generalize cf (revTo p k) k = x at *
      generalize cf (revTo p k) m = y at *
      clear hrow hbut
      go_wp2_with fail
      go_region
      all_goals
        go_wp2
        go_roundw
        case rel => exact ⟨k + 1, by omega, by go_num, by rw [← HNX.out], HN.out, ((HBU.out.trans (But.of ((Below.refl wr.heap.size wr).drew) (Nat.le_of_lt HRW.out.lt))).put k _).put m _⟩
        case measure => simp [intOf]; omega
    · have hlt1 : ¬ (k : Int) < (n : Int) - 1 - k := by omega
      clear hrow hbut
      go_wp2_with fail
      refine bodyPost_end (v := .tuple #[]) (by simp [results, Try.results56, go_sem]) rfl ?_
      refine ⟨rfl, ?_, HBU.out⟩
      have := HRW.out
      rw [HEN.out k (by omega)] at this
      exact this

set_option maxRecDepth 100000 in
set_option maxHeartbeats 800000 in
theorem coefficients_any (p : List UInt8) (hpl : p.length ≤ 281474976710656) (vp : Value) (w : World) (hp : SlAt w vp p) :
    Calls Try.prog 35 #[vp] w fun e w' => e = .returned (.slice (some ⟨w.heap.size, 0, none⟩) p.length p.length) ∧ RowAt w' w.heap.size p.reverse ∧ Below w.heap.size w w' := by
  have HC := hidD (copyOf_any p hpl vp w hp)
  have HR := hidD (reverse_any p hpl)
  clear hp
  generalize p.length = n at *
  go_enter Try.func35, Try.ntmps35
  go_wp2_with (first
    | (go_at_call 44; refine HC.out.mono ?_; rintro e w2 ⟨rfl, hr2, hb2⟩; have HR2 := hidD hr2; have HB2 := hidD hb2; clear hr2 hb2)
    | (go_at_call 56; refine (HR.out _ _ HR2.out).mono ?_; rintro e w3 ⟨rfl, hr3, hb3⟩; have HR3 := hidD hr3; have HB3 := hidD hb3; clear hr3 hb3))
  all_goals
    go_ret
    exact ⟨rfl, HR3.out, HB2.out.trans HB3.out.bel⟩
end Go.Proofs.Ytdpkeffkpecmjaa
