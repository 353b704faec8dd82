/- The walk of DigitsHeads, whole. -/
import Derived.Test.YtmmlmpcalhfigabHdsT
namespace Go.Proofs.Ytmmlmpcalhfigab
open Go.RowKit
set_option linter.unusedVariables false
set_option maxRecDepth 100000 in
set_option maxHeartbeats 6400000 in
theorem heads_good (s : List UInt8) (c : UInt8) (hs : s.length ≤ 140737488351232) (v K n : Nat) (h : headS s = (v, K, n, 0)) (w : World) : Calls Try.prog 3 #[.string ⟨s.toArray⟩, .int .u8 (c.toNat : Int)] w fun e w' => e = .returned (.bool true) ∧ Below w.heap.size w w' := by
  have hs' : s.length ≤ maxLen := by unfold maxLen; omega
  have HLV := hidD (fun (w : World) => live_any w)
  have HH := hidD (fun (w : World) => head_any s hs' w)
  obtain ⟨_, _, hn1, hn2⟩ := head_inv h
  have HRD := hidD (fun (w : World) => read_any (s.take n) (by rw [List.length_take]; omega) w)
  rw [heads_read h] at HRD
  rw [h] at HH
  have hcb : c.toNat ≤ 255 := by have := c.toNat_lt; omega
  have HDG := hidD (fun (w : World) => digit_any c.toNat hcb w)
  have hdr := digV_range c.toNat
  have HE := hidD (take_ba s n)
  have hlen : n ≤ s.length := hn2
  have hn1' : 1 ≤ n := by omega
  have hex := take_ba s n
  have hPl : (s.take n).length ≤ 140737488351232 := by rw [List.length_take]; omega
  have HBH := hidD (fun (hc : ofB c.toNat K = false) (hx : ¬ (s.take n = [48] ∧ (c.toNat = 120 ∨ c.toNat = 88))) => heads_behind h c hc hx)
  have hof : ofB c.toNat K = (decide (0 ≤ digV c.toNat) && decide (digV c.toNat < (K : Int))) := rfl
  have HOTH := hidD (fun (hP : ¬ s.take n = [48]) hd hof => heads_other s c hs v K n h hP hd hof w)
  generalize s.take n = P at *
  by_cases hd : 0 ≤ digV c.toNat ∧ digV c.toNat < (K : Int)
  · obtain ⟨hd0, hd1⟩ := hd
    clear HBH hof
    go_enter Try.func3, Try.ntmps3
    go_wp2_with (first
      | (go_at_call 5; refine (HLV.out _).mono ?_; rintro e w1 ⟨rfl, hb1⟩)
      | (go_at_call 6; refine (HH.out _).mono ?_; rintro e w' ⟨rfl, hw⟩; rw [hw]; clear hw w')
      | (go_at_call 8; refine (HRD.out _).mono ?_; rintro e w' ⟨rfl, hw⟩; rw [hw]; clear hw w')
      | (go_at_call 9; refine (HDG.out _).mono ?_; rintro e w' ⟨rfl, hw⟩; rw [hw]; clear hw w')
      | (go_at_call 7; refine (no_any _ _).mono ?_; rintro e w' ⟨rfl, hw⟩; rw [hw]; clear hw w'))
    go_ret
    exact ⟨rfl, hb1⟩
  have hofF : ofB c.toNat K = false := by
    rw [hof]
    by_cases h0 : 0 ≤ digV c.toNat
    · rw [decide_eq_true h0, decide_eq_false (fun h => hd ⟨h0, h⟩)]; rfl
    · rw [decide_eq_false h0]; rfl
  have hdd : (decide (0 ≤ digV c.toNat) && decide (digV c.toNat < (K : Int))) = false := hof ▸ hofF
  have HBH2 := hidD (HBH.out hofF)
  have HOF := hidD hofF
  clear hof hofF HBH
  by_cases hP : P = [48]
  · subst hP
    by_cases hx120 : c.toNat = 120
    · obtain rfl : c = 120 := UInt8.toNat_inj.1 hx120
      clear HBH2 HDG HOF hdd hd hdr hcb hx120
      have HDG := hidD (fun (w : World) => digit_any 120 (by decide) w)
      rw [show digV 120 = -1 by decide] at HDG
      show Calls Try.prog 3 #[.string ⟨s.toArray⟩, .int .u8 120] w _
      go_enter Try.func3, Try.ntmps3
      go_wp2_with (first
        | (go_at_call 5; refine (HLV.out _).mono ?_; rintro e w1 ⟨rfl, hb1⟩)
        | (go_at_call 6; refine (HH.out _).mono ?_; rintro e w' ⟨rfl, hw⟩; rw [hw]; clear hw w')
        | (go_at_call 8; refine (HRD.out _).mono ?_; rintro e w' ⟨rfl, hw⟩; rw [hw]; clear hw w')
        | (go_at_call 9; refine (HDG.out _).mono ?_; rintro e w' ⟨rfl, hw⟩; rw [hw]; clear hw w')
        | (go_at_call 7; refine (no_any _ _).mono ?_; rintro e w' ⟨rfl, hw⟩; rw [hw]; clear hw w'))
      go_ret
      exact ⟨rfl, hb1⟩
    by_cases hx88 : c.toNat = 88
    · obtain rfl : c = 88 := UInt8.toNat_inj.1 hx88
      clear HBH2 HDG HOF hdd hd hdr hcb hx88
      have HDG := hidD (fun (w : World) => digit_any 88 (by decide) w)
      rw [show digV 88 = -1 by decide] at HDG
      show Calls Try.prog 3 #[.string ⟨s.toArray⟩, .int .u8 88] w _
      go_enter Try.func3, Try.ntmps3
      go_wp2_with (first
        | (go_at_call 5; refine (HLV.out _).mono ?_; rintro e w1 ⟨rfl, hb1⟩)
        | (go_at_call 6; refine (HH.out _).mono ?_; rintro e w' ⟨rfl, hw⟩; rw [hw]; clear hw w')
        | (go_at_call 8; refine (HRD.out _).mono ?_; rintro e w' ⟨rfl, hw⟩; rw [hw]; clear hw w')
        | (go_at_call 9; refine (HDG.out _).mono ?_; rintro e w' ⟨rfl, hw⟩; rw [hw]; clear hw w')
        | (go_at_call 7; refine (no_any _ _).mono ?_; rintro e w' ⟨rfl, hw⟩; rw [hw]; clear hw w'))
      go_ret
      exact ⟨rfl, hb1⟩
    have hx1 : ¬ ((c.toNat : Int) = 120) := by omega
    have hx2 : ¬ ((c.toNat : Int) = 88) := by omega
    have hx1b : ((c.toNat : Int) == 120) = false := by simp; omega
    have hx2b : ((c.toNat : Int) == 88) = false := by simp; omega
    have HH2 := hidD (fun (w : World) => head_any ([48] ++ c :: s) (by unfold maxLen; simp; omega) w)
    rw [HBH2.out (by simp [hx120, hx88])] at HH2
    clear HBH2 hx120 hx88 HOF hcb
    have hcv : ∀ w1 : World, (convert (29 : TypeId) (9 : TypeId) (.slice (some ⟨w1.heap.size, 0, none⟩) 1 1)).run Try.prog (w1.alloc (.cells #[.int .u8 (c.toNat : Int)] (5 : TypeId))).drew = .ok (.string ⟨#[c]⟩) (w1.alloc (.cells #[.int .u8 (c.toNat : Int)] (5 : TypeId))).drew := fun w1 => by
      refine run_convert_bytes_back _ (29 : TypeId) (9 : TypeId) (5 : TypeId) ⟨w1.heap.size, 0, none⟩ 1 [c] Try.underlying29 Try.underlying5 Try.underlying9 (fun j hj => ?_)
      obtain rfl : j = 0 := by simpa using hj
      rw [Go.WideShapes.add_plain]
      show (w1.alloc _).cell? _ = _
      rw [World.cell?_alloc_new]
      rfl
    have hcs : digV c.toNat < 0 ∨ (0 ≤ digV c.toNat ∧ (K : Int) ≤ digV c.toNat) := by omega
    clear hd hdd
    generalize digV c.toNat = dv at *
    rcases hcs with h0 | ⟨h0, h1⟩
    ·
      go_enter Try.func3, Try.ntmps3
      go_wp2_with (first
        | (go_at_call 5; refine (HLV.out _).mono ?_; rintro e w1 ⟨rfl, hb1⟩)
        | (go_at_call 6; refine (HH.out _).mono ?_; rintro e w' ⟨rfl, hw⟩; rw [hw]; clear hw w')
        | (go_at_call 8; refine (HRD.out _).mono ?_; rintro e w' ⟨rfl, hw⟩; rw [hw]; clear hw w')
        | (go_at_call 9; refine (HDG.out _).mono ?_; rintro e w' ⟨rfl, hw⟩; rw [hw]; clear hw w')
        | (go_at_call 7; refine (no_any _ _).mono ?_; rintro e w' ⟨rfl, hw⟩; rw [hw]; clear hw w'))
      go_region_with (go_at_call 6; refine (HH2.out _).mono ?_; rintro e w' ⟨rfl, hw⟩; rw [hw]; clear hw w')
      go_wp2_with (go_at_call 7; refine (no_any _ _).mono ?_; rintro e w' ⟨rfl, hw⟩; rw [hw]; clear hw w')
      go_ret
      exact ⟨by simp, hb1.trans (((Below.refl w1.heap.size w1).alloc (Nat.le_refl _) _).drew.mono hb1.size)⟩
    ·
      go_enter Try.func3, Try.ntmps3
      go_wp2_with (first
        | (go_at_call 5; refine (HLV.out _).mono ?_; rintro e w1 ⟨rfl, hb1⟩)
        | (go_at_call 6; refine (HH.out _).mono ?_; rintro e w' ⟨rfl, hw⟩; rw [hw]; clear hw w')
        | (go_at_call 8; refine (HRD.out _).mono ?_; rintro e w' ⟨rfl, hw⟩; rw [hw]; clear hw w')
        | (go_at_call 9; refine (HDG.out _).mono ?_; rintro e w' ⟨rfl, hw⟩; rw [hw]; clear hw w')
        | (go_at_call 7; refine (no_any _ _).mono ?_; rintro e w' ⟨rfl, hw⟩; rw [hw]; clear hw w'))
      go_region_with (go_at_call 6; refine (HH2.out _).mono ?_; rintro e w' ⟨rfl, hw⟩; rw [hw]; clear hw w')
      go_wp2_with (go_at_call 7; refine (no_any _ _).mono ?_; rintro e w' ⟨rfl, hw⟩; rw [hw]; clear hw w')
      go_ret
      exact ⟨by simp, hb1.trans (((Below.refl w1.heap.size w1).alloc (Nat.le_refl _) _).drew.mono hb1.size)⟩
  · exact HOTH.out hP hd HOF.out

theorem heads_any (s : List UInt8) (c : UInt8) (hs : s.length ≤ 140737488351232) (w : World) : Calls Try.prog 3 #[.string ⟨s.toArray⟩, .int .u8 (c.toNat : Int)] w fun e w' => e = .returned (.bool true) ∧ Below w.heap.size w w' := by
  by_cases h : (headS s).2.2.2 = 0
  · exact heads_good s c hs (headS s).1 (headS s).2.1 (headS s).2.2.1 (by rw [← h]) w
  · exact heads_bad s c.toNat (by unfold maxLen; omega) h w
end Go.Proofs.Ytmmlmpcalhfigab
