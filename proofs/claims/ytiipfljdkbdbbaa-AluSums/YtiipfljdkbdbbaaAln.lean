/- Sub of the document, by the bits 7 of a and b (true, true). -/
import Derived.Test.YtiipfljdkbdbbaaAle
import Derived.Test.YtiipfljdkbdbbaaOvs
namespace Go.Proofs.Ytiipfljdkbdbbaa
open Go.RowKit
set_option linter.unusedVariables false

set_option maxRecDepth 100000 in
set_option maxHeartbeats 1600000 in
theorem refSub_noTT (a b p : Nat) (ha : a < 256) (hb : b < 256) (hp : p < 256) (hD : dD p = false) (qa : b7 a = true) (qb : b7 b = true) : W1 19 #[.int .u8 (a : Int), .int .u8 (b : Int), .int .u8 (p : Int)] (.tuple #[.int .u8 (subV a b p : Int), .int .u8 (subF a b p : Int)]) := by
  intro w
  have h8 := and8 p hp
  rw [hD] at h8
  rw [if_neg (by decide)] at h8
  have hc1 := and1N p hp
  have hc := cy_lt p
  have hlo1 := hidD (sb_ge a b p ha hb)
  have e2 : ((a : Int) - (b : Int) - 1 + (cyN p : Int)) % 256 = ((sB a (255 - b) p % 256 : Nat) : Int) := sb_mod a b p ha hb
  have hov := hidD (ovs_of (s := sB a (255 - b) p % 256) hb qa qb)
  have hr : sB a (255 - b) p % 256 < 256 := Nat.mod_lt _ (by decide)
  have hv : subV a b p = sB a (255 - b) p % 256 := by unfold subV; rw [hD, if_neg (by decide)]
  rw [hv]
  unfold subF bf
  rw [hov.out, ← hlo1.out]
  clear hov hlo1
  generalize sB a (255 - b) p % 256 = r at *
  generalize hd : (a : Int) - (b : Int) - 1 + (cyN p : Int) = d at *
  have hd1 : -256 ≤ d ∧ d < 256 := by omega
  have ha4 : a < 1024 := by omega
  have hb4 : b < 1024 := by omega
  have hr4 : r < 1024 := by omega
  go_enter Try.func19, Try.ntmps19
  go_wp2_with (first | (go_at_call 50; refine (refHigh_any _ (by first | assumption | omega) _).mono ?_; rintro e w2 ⟨rfl, rfl⟩; try rw [qa] ; try rw [qb]) | (go_at_call 43; refine (refSet_any _ _ _ (by repeat' (first | assumption | decide | apply wi_lt | apply fl_lt)) (by repeat' (first | assumption | decide | apply wi_lt | apply fl_lt)) _).mono ?_; rintro e w2 ⟨rfl, rfl⟩) | (go_at_call 14; refine (refFlags_any _ _ (by repeat' (first | assumption | decide | apply wi_lt | apply fl_lt)) (by repeat' (first | assumption | decide | apply wi_lt | apply fl_lt)) _).mono ?_; rintro e w2 ⟨rfl, rfl⟩))
  go_ret2
  exact ⟨by first | rfl | (simp; done), rfl⟩

set_option maxRecDepth 100000 in
set_option maxHeartbeats 1600000 in
theorem refSub_posTT (a b p : Nat) (ha : a < 256) (hb : b < 256) (hp : p < 256) (hD : dD p = true) (h1 : ¬ hS a b p < 0) (qa : b7 a = true) (qb : b7 b = true) : W1 19 #[.int .u8 (a : Int), .int .u8 (b : Int), .int .u8 (p : Int)] (.tuple #[.int .u8 (subV a b p : Int), .int .u8 (subF a b p : Int)]) := by
  intro w
  have h8 := and8 p hp
  rw [hD, if_pos rfl] at h8
  have hc1 := and1N p hp
  have hc := cy_lt p
  have hlo1 := hidD (sb_ge a b p ha hb)
  have e2 : ((a : Int) - (b : Int) - 1 + (cyN p : Int)) % 256 = ((sB a (255 - b) p % 256 : Nat) : Int) := sb_mod a b p ha hb
  have hov := hidD (ovs_of (s := sB a (255 - b) p % 256) hb qa qb)
  have hr : sB a (255 - b) p % 256 < 256 := Nat.mod_lt _ (by decide)
  have hal := and15N a ha
  have hbl := and15N b hb
  have hah := and240N a ha
  have hbh := and240N b hb
  have hla := lo_lt a
  have hlb := lo_lt b
  have hha := hi_lt ha
  have hhb := hi_lt hb
  have hl := lS_lt a b p
  have hbo := bor_lt hl.1 hl.2
  have hl1 := hl.1
  have hl2 := hl.2
  have f1 : (loN a : Int) - (loN b : Int) - 1 + (cyN p : Int) = lS a b p := rfl
  have f2 : (hiN a : Int) - (hiN b : Int) + bor (lS a b p) = hS a b p := rfl
  have hb1 : -256 ≤ hS a b p ∧ hS a b p < 256 := by unfold hS; omega
  have hv : ((subV a b p : Nat) : Int) = hS a b p := by unfold subV fixS; rw [hD, if_pos rfl, if_neg h1]; omega
  rw [hv]
  clear hv hl
  unfold subF bf
  rw [hov.out, ← hlo1.out]
  clear hov hlo1
  generalize sB a (255 - b) p % 256 = r at *
  generalize hd : (a : Int) - (b : Int) - 1 + (cyN p : Int) = d at *
  have hd1 : -256 ≤ d ∧ d < 256 := by omega
  have ha4 : a < 1024 := by omega
  have hb4 : b < 1024 := by omega
  have hr4 : r < 1024 := by omega
  generalize hS a b p = h at *
  have hbv : bor (lS a b p) = if 0 ≤ lS a b p then lS a b p else (lS a b p - 6 + 32) % 16 - 16 := rfl
  generalize lS a b p = l at *
  generalize bor l = O at *
  by_cases hl0 : l < 0
  · rw [if_neg (by omega)] at hbv
    have f3 : (l - 6 + 32) % 16 - 16 = O := hbv.symm
    clear hbv
    go_enter Try.func19, Try.ntmps19
    go_wp2_with (first | (go_at_call 50; refine (refHigh_any _ (by first | assumption | omega) _).mono ?_; rintro e w2 ⟨rfl, rfl⟩; try rw [qa] ; try rw [qb]) | (go_at_call 43; refine (refSet_any _ _ _ (by repeat' (first | assumption | decide | apply wi_lt | apply fl_lt)) (by repeat' (first | assumption | decide | apply wi_lt | apply fl_lt)) _).mono ?_; rintro e w2 ⟨rfl, rfl⟩) | (go_at_call 14; refine (refFlags_any _ _ (by repeat' (first | assumption | decide | apply wi_lt | apply fl_lt)) (by repeat' (first | assumption | decide | apply wi_lt | apply fl_lt)) _).mono ?_; rintro e w2 ⟨rfl, rfl⟩))
    go_ret2
    exact ⟨by first | rfl | (simp; done), rfl⟩
  · rw [if_pos (by omega)] at hbv
    subst hbv
    go_enter Try.func19, Try.ntmps19
    go_wp2_with (first | (go_at_call 50; refine (refHigh_any _ (by first | assumption | omega) _).mono ?_; rintro e w2 ⟨rfl, rfl⟩; try rw [qa] ; try rw [qb]) | (go_at_call 43; refine (refSet_any _ _ _ (by repeat' (first | assumption | decide | apply wi_lt | apply fl_lt)) (by repeat' (first | assumption | decide | apply wi_lt | apply fl_lt)) _).mono ?_; rintro e w2 ⟨rfl, rfl⟩) | (go_at_call 14; refine (refFlags_any _ _ (by repeat' (first | assumption | decide | apply wi_lt | apply fl_lt)) (by repeat' (first | assumption | decide | apply wi_lt | apply fl_lt)) _).mono ?_; rintro e w2 ⟨rfl, rfl⟩))
    go_ret2
    exact ⟨by first | rfl | (simp; done), rfl⟩

set_option maxRecDepth 100000 in
set_option maxHeartbeats 1600000 in
theorem refSub_negTT (a b p : Nat) (ha : a < 256) (hb : b < 256) (hp : p < 256) (hD : dD p = true) (h1 : hS a b p < 0) (qa : b7 a = true) (qb : b7 b = true) : W1 19 #[.int .u8 (a : Int), .int .u8 (b : Int), .int .u8 (p : Int)] (.tuple #[.int .u8 (subV a b p : Int), .int .u8 (subF a b p : Int)]) := by
  intro w
  have h8 := and8 p hp
  rw [hD, if_pos rfl] at h8
  have hc1 := and1N p hp
  have hc := cy_lt p
  have hlo1 := hidD (sb_ge a b p ha hb)
  have e2 : ((a : Int) - (b : Int) - 1 + (cyN p : Int)) % 256 = ((sB a (255 - b) p % 256 : Nat) : Int) := sb_mod a b p ha hb
  have hov := hidD (ovs_of (s := sB a (255 - b) p % 256) hb qa qb)
  have hr : sB a (255 - b) p % 256 < 256 := Nat.mod_lt _ (by decide)
  have hal := and15N a ha
  have hbl := and15N b hb
  have hah := and240N a ha
  have hbh := and240N b hb
  have hla := lo_lt a
  have hlb := lo_lt b
  have hha := hi_lt ha
  have hhb := hi_lt hb
  have hl := lS_lt a b p
  have hbo := bor_lt hl.1 hl.2
  have hl1 := hl.1
  have hl2 := hl.2
  have f1 : (loN a : Int) - (loN b : Int) - 1 + (cyN p : Int) = lS a b p := rfl
  have f2 : (hiN a : Int) - (hiN b : Int) + bor (lS a b p) = hS a b p := rfl
  have hb1 : -256 ≤ hS a b p ∧ hS a b p < 256 := by unfold hS; omega
  have hv : ((subV a b p : Nat) : Int) = (hS a b p - 96) % 256 := by unfold subV fixS; rw [hD, if_pos rfl, if_pos h1]; omega
  rw [hv]
  clear hv hl
  unfold subF bf
  rw [hov.out, ← hlo1.out]
  clear hov hlo1
  generalize sB a (255 - b) p % 256 = r at *
  generalize hd : (a : Int) - (b : Int) - 1 + (cyN p : Int) = d at *
  have hd1 : -256 ≤ d ∧ d < 256 := by omega
  have ha4 : a < 1024 := by omega
  have hb4 : b < 1024 := by omega
  have hr4 : r < 1024 := by omega
  generalize hS a b p = h at *
  have hbv : bor (lS a b p) = if 0 ≤ lS a b p then lS a b p else (lS a b p - 6 + 32) % 16 - 16 := rfl
  generalize lS a b p = l at *
  generalize bor l = O at *
  by_cases hl0 : l < 0
  · rw [if_neg (by omega)] at hbv
    have f3 : (l - 6 + 32) % 16 - 16 = O := hbv.symm
    clear hbv
    go_enter Try.func19, Try.ntmps19
    go_wp2_with (first | (go_at_call 50; refine (refHigh_any _ (by first | assumption | omega) _).mono ?_; rintro e w2 ⟨rfl, rfl⟩; try rw [qa] ; try rw [qb]) | (go_at_call 43; refine (refSet_any _ _ _ (by repeat' (first | assumption | decide | apply wi_lt | apply fl_lt)) (by repeat' (first | assumption | decide | apply wi_lt | apply fl_lt)) _).mono ?_; rintro e w2 ⟨rfl, rfl⟩) | (go_at_call 14; refine (refFlags_any _ _ (by repeat' (first | assumption | decide | apply wi_lt | apply fl_lt)) (by repeat' (first | assumption | decide | apply wi_lt | apply fl_lt)) _).mono ?_; rintro e w2 ⟨rfl, rfl⟩))
    go_ret2
    exact ⟨by first | rfl | (simp; done), rfl⟩
  · rw [if_pos (by omega)] at hbv
    subst hbv
    go_enter Try.func19, Try.ntmps19
    go_wp2_with (first | (go_at_call 50; refine (refHigh_any _ (by first | assumption | omega) _).mono ?_; rintro e w2 ⟨rfl, rfl⟩; try rw [qa] ; try rw [qb]) | (go_at_call 43; refine (refSet_any _ _ _ (by repeat' (first | assumption | decide | apply wi_lt | apply fl_lt)) (by repeat' (first | assumption | decide | apply wi_lt | apply fl_lt)) _).mono ?_; rintro e w2 ⟨rfl, rfl⟩) | (go_at_call 14; refine (refFlags_any _ _ (by repeat' (first | assumption | decide | apply wi_lt | apply fl_lt)) (by repeat' (first | assumption | decide | apply wi_lt | apply fl_lt)) _).mono ?_; rintro e w2 ⟨rfl, rfl⟩))
    go_ret2
    exact ⟨by first | rfl | (simp; done), rfl⟩

end Go.Proofs.Ytiipfljdkbdbbaa
