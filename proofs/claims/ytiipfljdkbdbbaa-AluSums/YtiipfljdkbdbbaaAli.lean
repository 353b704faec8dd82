/- Add of the document, by the bits 7 of a and b (false, true). -/
import Derived.Test.YtiipfljdkbdbbaaAle
import Derived.Test.YtiipfljdkbdbbaaOvf
namespace Go.Proofs.Ytiipfljdkbdbbaa
open Go.RowKit
set_option linter.unusedVariables false

set_option maxRecDepth 100000 in
set_option maxHeartbeats 1600000 in
theorem refAdd_noFT (a b p : Nat) (ha : a < 256) (hb : b < 256) (hp : p < 256) (hD : dD p = false) (qa : b7 a = false) (qb : b7 b = true) : W1 17 #[.int .u8 (a : Int), .int .u8 (b : Int), .int .u8 (p : Int)] (.tuple #[.int .u8 (addV a b p : Int), .int .u8 (addF a b p : Int)]) := by
  intro w
  have h8 := and8 p hp
  rw [hD] at h8
  rw [if_neg (by decide)] at h8
  have hc1 := and1N p hp
  have hc := cy_lt p
  have hs := sB_lt (p := p) ha hb
  have e1 : (a : Int) + b + (cyN p : Int) = ((sB a b p : Nat) : Int) := by unfold sB; omega
  have hg := hidD (gt_nat 255 (sB a b p))
  have hov := hidD (ov_of (s := sB a b p % 256) qa qb)
  rw [b7_mod] at hov
  unfold addV addF bf
  rw [hD, if_neg (by decide), if_neg (by decide)]
  generalize sB a b p = s at *
  have e2 : (s : Int) % 256 = ((s % 256 : Nat) : Int) := by omega
  have hr : s % 256 < 256 := Nat.mod_lt _ (by decide)
  generalize s % 256 = r at *
  have ha4 : a < 1024 := by omega
  have hb4 : b < 1024 := by omega
  have hs4 : s < 1024 := by omega
  go_enter Try.func17, Try.ntmps17
  go_wp2_with (first | (go_at_call 50; refine (refHigh_any _ (by first | assumption | omega) _).mono ?_; rintro e w2 ⟨rfl, rfl⟩; try rw [qa] ; try rw [qb]) | (go_at_call 43; refine (refSet_any _ _ _ (by repeat' (first | assumption | decide | apply wi_lt | apply fl_lt)) (by repeat' (first | assumption | decide | apply wi_lt | apply fl_lt)) _).mono ?_; rintro e w2 ⟨rfl, rfl⟩) | (go_at_call 14; refine (refFlags_any _ _ (by repeat' (first | assumption | decide | apply wi_lt | apply fl_lt)) (by repeat' (first | assumption | decide | apply wi_lt | apply fl_lt)) _).mono ?_; rintro e w2 ⟨rfl, rfl⟩))
  go_ret2
  exact ⟨by rw [hov.out, ← hg.out]; first | rfl | (simp; done), rfl⟩

set_option maxRecDepth 100000 in
set_option maxHeartbeats 1600000 in
theorem refAdd_lowFT (a b p : Nat) (ha : a < 256) (hb : b < 256) (hp : p < 256) (hD : dD p = true) (h1 : ¬ 159 < hA a b p) (qa : b7 a = false) (qb : b7 b = true) : W1 17 #[.int .u8 (a : Int), .int .u8 (b : Int), .int .u8 (p : Int)] (.tuple #[.int .u8 (addV a b p : Int), .int .u8 (addF a b p : Int)]) := by
  intro w
  have h8 := and8 p hp
  rw [hD, if_pos rfl] at h8
  have hc1 := and1N p hp
  have hal := and15N a ha
  have hbl := and15N b hb
  have hah := and240N a ha
  have hbh := and240N b hb
  have hc := cy_lt p
  have hla := lo_lt a
  have hlb := lo_lt b
  have hha := hi_lt ha
  have hhb := hi_lt hb
  have hL := lA_lt a b p
  have hdg := dig_lt hL
  have hH := hA_lt p ha hb
  have hs := sB_lt (p := p) ha hb
  have e0 : (a : Int) + b + (cyN p : Int) = ((sB a b p : Nat) : Int) := by unfold sB; omega
  have e1 : (loN a : Int) + (loN b : Int) + (cyN p : Int) = ((lA a b p : Nat) : Int) := by unfold lA; omega
  have e2 : (hiN a : Int) + (hiN b : Int) + (dig (lA a b p) : Int) = ((hA a b p : Nat) : Int) := by unfold hA; omega
  have hv : addV a b p = (hA a b p) % 256 := by unfold addV fixA; rw [hD, if_pos rfl, if_neg h1]
  have hf : addF a b p = wi (wi (wi (wi p 2 (decide (sB a b p % 256 = 0))) 128 (b7 (hA a b p))) 64 (ov a b (hA a b p % 256))) 1 (decide (255 < hA a b p)) := by unfold addF adF fixA b7; rw [hD, if_pos rfl, if_neg h1]
  have hov := hidD (ov_of (s := hA a b p % 256) qa qb)
  rw [b7_mod] at hov
  rw [hv, hf, hov.out]
  clear hv hf hov
  have hZ := hidD (is_zero (sB a b p % 256))
  generalize sB a b p = s at *
  have e4 : (s : Int) % 256 = ((s % 256 : Nat) : Int) := by omega
  have hr4 : s % 256 < 256 := Nat.mod_lt _ (by decide)
  generalize s % 256 = z at *
  generalize hA a b p = h at *
  have hdv : dig (lA a b p) = if lA a b p ≤ 9 then lA a b p else (lA a b p + 6) % 16 + 16 := rfl
  generalize lA a b p = L at *
  generalize dig L = G at *
  have hi : ¬ (159 : Int) < (h : Int) := by omega
  have hg := hidD (gt_nat 255 (h))
  have e3 : (h : Int) % 256 = ((h % 256 : Nat) : Int) := by omega
  rw [show h % 256 = h from by omega] at *
  clear e3
  have ha4 : a < 1024 := by omega
  have hb4 : b < 1024 := by omega
  have hh4 : h < 1024 := by omega
  rcases Nat.lt_or_ge 9 L with h9 | h9
  · have hi9 : (9 : Int) < (L : Int) := by omega
    rw [if_neg (by omega)] at hdv
    have e6 : ((L : Int) + 6) % 16 + 16 = ((G : Nat) : Int) := by omega
    clear hdv
    go_enter Try.func17, Try.ntmps17
    go_wp2_with (first | (go_at_call 50; refine (refHigh_any _ (by first | assumption | omega) _).mono ?_; rintro e w2 ⟨rfl, rfl⟩; try rw [qa] ; try rw [qb]) | (go_at_call 43; refine (refSet_any _ _ _ (by repeat' (first | assumption | decide | apply wi_lt | apply fl_lt)) (by repeat' (first | assumption | decide | apply wi_lt | apply fl_lt)) _).mono ?_; rintro e w2 ⟨rfl, rfl⟩))
    go_ret2
    refine ⟨?_, rfl⟩
    rw [← hg.out, ← hZ.out]; first | rfl | (simp; done)
  · have hi9 : ¬ (9 : Int) < (L : Int) := by omega
    rw [if_pos h9] at hdv
    subst hdv
    go_enter Try.func17, Try.ntmps17
    go_wp2_with (first | (go_at_call 50; refine (refHigh_any _ (by first | assumption | omega) _).mono ?_; rintro e w2 ⟨rfl, rfl⟩; try rw [qa] ; try rw [qb]) | (go_at_call 43; refine (refSet_any _ _ _ (by repeat' (first | assumption | decide | apply wi_lt | apply fl_lt)) (by repeat' (first | assumption | decide | apply wi_lt | apply fl_lt)) _).mono ?_; rintro e w2 ⟨rfl, rfl⟩))
    go_ret2
    refine ⟨?_, rfl⟩
    rw [← hg.out, ← hZ.out]; first | rfl | (simp; done)

set_option maxRecDepth 100000 in
set_option maxHeartbeats 1600000 in
theorem refAdd_upFT (a b p : Nat) (ha : a < 256) (hb : b < 256) (hp : p < 256) (hD : dD p = true) (h1 : 159 < hA a b p) (qa : b7 a = false) (qb : b7 b = true) : W1 17 #[.int .u8 (a : Int), .int .u8 (b : Int), .int .u8 (p : Int)] (.tuple #[.int .u8 (addV a b p : Int), .int .u8 (addF a b p : Int)]) := by
  intro w
  have h8 := and8 p hp
  rw [hD, if_pos rfl] at h8
  have hc1 := and1N p hp
  have hal := and15N a ha
  have hbl := and15N b hb
  have hah := and240N a ha
  have hbh := and240N b hb
  have hc := cy_lt p
  have hla := lo_lt a
  have hlb := lo_lt b
  have hha := hi_lt ha
  have hhb := hi_lt hb
  have hL := lA_lt a b p
  have hdg := dig_lt hL
  have hH := hA_lt p ha hb
  have hs := sB_lt (p := p) ha hb
  have e0 : (a : Int) + b + (cyN p : Int) = ((sB a b p : Nat) : Int) := by unfold sB; omega
  have e1 : (loN a : Int) + (loN b : Int) + (cyN p : Int) = ((lA a b p : Nat) : Int) := by unfold lA; omega
  have e2 : (hiN a : Int) + (hiN b : Int) + (dig (lA a b p) : Int) = ((hA a b p : Nat) : Int) := by unfold hA; omega
  have hv : addV a b p = (hA a b p + 96) % 256 := by unfold addV fixA; rw [hD, if_pos rfl, if_pos h1]
  have hf : addF a b p = wi (wi (wi (wi p 2 (decide (sB a b p % 256 = 0))) 128 (b7 (hA a b p))) 64 (ov a b (hA a b p % 256))) 1 (decide (255 < hA a b p + 96)) := by unfold addF adF fixA b7; rw [hD, if_pos rfl, if_pos h1]
  have hov := hidD (ov_of (s := hA a b p % 256) qa qb)
  rw [b7_mod] at hov
  rw [hv, hf, hov.out]
  clear hv hf hov
  have hZ := hidD (is_zero (sB a b p % 256))
  generalize sB a b p = s at *
  have e4 : (s : Int) % 256 = ((s % 256 : Nat) : Int) := by omega
  have hr4 : s % 256 < 256 := Nat.mod_lt _ (by decide)
  generalize s % 256 = z at *
  generalize hA a b p = h at *
  have hdv : dig (lA a b p) = if lA a b p ≤ 9 then lA a b p else (lA a b p + 6) % 16 + 16 := rfl
  generalize lA a b p = L at *
  generalize dig L = G at *
  have hi : (159 : Int) < (h : Int) := by omega
  have hg := hidD (gt_nat 255 (h + 96))
  have e3 : (h : Int) % 256 = ((h % 256 : Nat) : Int) := by omega
  have e5 : (h : Int) + 96 = ((h + 96 : Nat) : Int) := by omega
  have h96 : h + 96 < 1000 := by omega
  generalize h + 96 = h4 at *
  have e4 : (h4 : Int) % 256 = ((h4 % 256 : Nat) : Int) := by omega
  generalize h4 % 256 = r4 at *
  generalize h % 256 = r at *
  have ha4 : a < 1024 := by omega
  have hb4 : b < 1024 := by omega
  have hh4 : h < 1024 := by omega
  rcases Nat.lt_or_ge 9 L with h9 | h9
  · have hi9 : (9 : Int) < (L : Int) := by omega
    rw [if_neg (by omega)] at hdv
    have e6 : ((L : Int) + 6) % 16 + 16 = ((G : Nat) : Int) := by omega
    clear hdv
    go_enter Try.func17, Try.ntmps17
    go_wp2_with (first | (go_at_call 50; refine (refHigh_any _ (by first | assumption | omega) _).mono ?_; rintro e w2 ⟨rfl, rfl⟩; try rw [qa] ; try rw [qb]) | (go_at_call 43; refine (refSet_any _ _ _ (by repeat' (first | assumption | decide | apply wi_lt | apply fl_lt)) (by repeat' (first | assumption | decide | apply wi_lt | apply fl_lt)) _).mono ?_; rintro e w2 ⟨rfl, rfl⟩))
    go_ret2
    refine ⟨?_, rfl⟩
    rw [← hg.out, ← hZ.out]; first | rfl | (simp; done)
  · have hi9 : ¬ (9 : Int) < (L : Int) := by omega
    rw [if_pos h9] at hdv
    subst hdv
    go_enter Try.func17, Try.ntmps17
    go_wp2_with (first | (go_at_call 50; refine (refHigh_any _ (by first | assumption | omega) _).mono ?_; rintro e w2 ⟨rfl, rfl⟩; try rw [qa] ; try rw [qb]) | (go_at_call 43; refine (refSet_any _ _ _ (by repeat' (first | assumption | decide | apply wi_lt | apply fl_lt)) (by repeat' (first | assumption | decide | apply wi_lt | apply fl_lt)) _).mono ?_; rintro e w2 ⟨rfl, rfl⟩))
    go_ret2
    refine ⟨?_, rfl⟩
    rw [← hg.out, ← hZ.out]; first | rfl | (simp; done)

end Go.Proofs.Ytiipfljdkbdbbaa
