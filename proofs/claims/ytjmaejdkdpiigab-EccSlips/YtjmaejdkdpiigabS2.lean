/- What the statements' own slips answers. -/
import Derived.Test.YtjmaejdkdpiigabS1
import Derived.Deep.Cut
import Derived.Deep.CutRange
namespace Go.Proofs.Ytjmaejdkdpiigab
open Go.RowKit
set_option linter.unusedVariables false

theorem set_back (t : List UInt8) (p : Nat) (c : UInt8) (hp : p < t.length) : (t.set p c).set p (t.getD p 0) = t := by
  rw [List.set_set]
  apply List.ext_getElem (by simp)
  intro i h1 h2
  rw [List.getElem_set]
  split
  · rename_i e; subst e; simp [List.getD, hp]
  · rfl
theorem byte_ch (t : List UInt8) (p : Nat) : byteAt t p = (t.getD p 0).toNat := rfl
theorem nat_beq (a b : Nat) : ((a : Int) == (b : Int)) = decide (a = b) := by
  by_cases h : a = b
  · rw [decide_eq_true h, h]; simp
  · rw [decide_eq_false h]; exact beq_eq_false_iff_ne.mpr (by omega)
theorem undef_bool {b : Bool} (h : some undef = some (Value.bool b)) : False := by injection h with h1; cases h1
theorem RowF.drew {w : World} {g : Nat} {L : List UInt8} (h : RowF w g L) (n : Nat) : RowF (w.drewN n) g L := h
def nineB (X Y : Nat) : Bool := decide (X = 48 ∧ Y = 57 ∨ X = 57 ∧ Y = 48)
theorem sw_bool (X Y : Nat) : decide (X = Y ∨ X = 48 ∧ Y = 57 ∨ X = 57 ∧ Y = 48) = (decide (X = Y) || nineB X Y) := by unfold nineB; rw [Bool.decide_or]
def BelAll (g1 g2 : Nat) (w w' : World) : Prop := ∀ (a : World) B, B ≤ g1 → B ≤ g2 → Below B a w → Below B a w'
theorem BelAll.put1 {g1 g2 : Nat} {w w' : World} (h : BelAll g1 g2 w w') (k : Nat) (v : Value) : BelAll g1 g2 w (w'.setCell ⟨g1, k, none⟩ v) := fun a B h1 h2 hb => below_setCell (h a B h1 h2 hb) h1 k v
theorem BelAll.put2 {g1 g2 : Nat} {w w' : World} (h : BelAll g1 g2 w w') (k : Nat) (v : Value) : BelAll g1 g2 w (w'.setCell ⟨g2, k, none⟩ v) := fun a B h1 h2 hb => below_setCell (h a B h1 h2 hb) h2 k v
theorem BelAll.draw {g1 g2 : Nat} {w w' : World} (h : BelAll g1 g2 w w') (n : Nat) : BelAll g1 g2 w (w'.drewN n) := fun a B h1 h2 hb => below_drewN (h a B h1 h2 hb) n

set_option maxRecDepth 100000 in
set_option maxHeartbeats 6400000 in
theorem slips_any (t u : List UInt8) (hlr : lrP t) (hvr : vrP u) (hlen : u.length = t.length) (hN : t.length ≤ 140737488355328) (g1 g2 cap1 cap2 : Nat) (hg : g1 ≠ g2) (p : Nat) (hp : p < t.length) (c : UInt8) (hc : 48 ≤ c.toNat ∧ c.toNat ≤ 57) (w : World) (h1 : RowF w g1 t) (h2 : RowF w g2 u) : Calls Try.prog 10 #[.slice (some ⟨g1, 0, none⟩) t.length cap1, .slice (some ⟨g2, 0, none⟩) u.length cap2, .int .i64 (p : Int), .int .u8 (c.toNat : Int)] w fun e w' => e = .returned (.bool true) ∧ BelAll g1 g2 w w' := by
  have hpi : (p : Int) < t.length := by omega
  have hpu : p < u.length := by omega
  have hpui : (p : Int) < u.length := by omega
  have HL1 : Hid (∀ w, Calls Try.prog 8 #[.string ⟨(t.set p c).toArray⟩] w fun e w' => e = .returned (.bool (decide (c.toNat = byteAt t p))) ∧ w' = w) := fun w => by have := luhnRight_any (t.set p c) (by rw [List.length_set]; exact hN) w; rw [lr_set hlr p c hp hc] at this; exact this
  have HV1 : Hid (∀ w, Calls Try.prog 9 #[.string ⟨(u.set p c).toArray⟩] w fun e w' => e = .returned (.bool (decide (c.toNat = byteAt u p))) ∧ w' = w) := fun w => by have := verhoeffRight_any (u.set p c) (by rw [List.length_set]; omega) w; rw [vr_set hvr p c hpu hc] at this; exact this
  have c1 := h1.cell hp
  have f1 := h1.frozen hp
  have r1 := h1.set hp c
  have x1 := r1.text cap1
  rw [List.length_set] at x1
  have s1 : RowF (w.setCell ⟨g1, p, none⟩ (.int .u8 (c.toNat : Int))) g2 u := h2.put (Ne.symm hg) _ _
  have f2 := r1.frozen (k := p) (by rw [List.length_set]; exact hp)
  have r2 := r1.set (k := p) (by rw [List.length_set]; exact hp) (t.getD p 0)
  rw [set_back t p c hp, ← byte_ch] at r2
  have s2 : RowF ((w.setCell ⟨g1, p, none⟩ (.int .u8 (c.toNat : Int))).setCell ⟨g1, p, none⟩ (.int .u8 (byteAt t p : Int))) g2 u := s1.put (Ne.symm hg) _ _
  have HB2 : Hid (BelAll g1 g2 w ((w.setCell ⟨g1, p, none⟩ (.int .u8 (c.toNat : Int))).setCell ⟨g1, p, none⟩ (.int .u8 (byteAt t p : Int)))) := (BelAll.put1 (BelAll.put1 (fun a B _ _ hb => hb) _ _) _ _)
  have e1 := nat_beq c.toNat (byteAt t p)
  have hX := byteAt_le t p
  have hcb : c.toNat ≤ 255 := by omega
  have HR2 := hidD r2
  have HS2 := hidD s2
  have HLR := hidD hlr
  have HVR := hidD hvr
  clear r2 s2 h1 h2 r1 s1 hlr hvr
  generalize hB1 : decide (c.toNat = byteAt t p) = B1 at *
  clear hB1
  go_enter Try.func10, Try.ntmps10
  go_upto_region 6 with (go_at_call 8; refine (HL1.out _).mono ?_; rintro e wx ⟨rfl, hbx⟩)
  have hr2 := HR2.out
  have hs2 := HS2.out
  generalize (w.setCell ⟨g1, p, none⟩ (.int .u8 (c.toNat : Int))).setCell ⟨g1, p, none⟩ (.int .u8 (byteAt t p : Int)) = w2 at *
  clear c1 f1 x1 f2 e1 HL1 HR2 HS2
  have c2 := hs2.cell hpu
  have f3 := hs2.frozen hpu
  have r3 := hs2.set hpu c
  have x3 := r3.text cap2
  rw [List.length_set, hlen] at x3
  have s3 : RowF (w2.setCell ⟨g2, p, none⟩ (.int .u8 (c.toNat : Int))) g1 t := hr2.put hg _ _
  have f4 := r3.frozen (k := p) (by rw [List.length_set]; exact hpu)
  have r4 := r3.set (k := p) (by rw [List.length_set]; exact hpu) (u.getD p 0)
  rw [set_back u p c hpu, ← byte_ch] at r4
  have s4 : RowF ((w2.setCell ⟨g2, p, none⟩ (.int .u8 (c.toNat : Int))).setCell ⟨g2, p, none⟩ (.int .u8 (byteAt u p : Int))) g1 t := s3.put hg _ _
  have HB4 : Hid (BelAll g1 g2 w ((w2.setCell ⟨g2, p, none⟩ (.int .u8 (c.toNat : Int))).setCell ⟨g2, p, none⟩ (.int .u8 (byteAt u p : Int)))) := BelAll.put2 (BelAll.put2 HB2.out _ _) _ _
  have e2 := nat_beq c.toNat (byteAt u p)
  have hXu := byteAt_le u p
  have HR4 := hidD r4
  have HS4 := hidD s4
  clear r3 s3 r4 s4 hr2 hs2 HB2
  generalize decide (c.toNat = byteAt u p) = B2 at *
  go_upto_region 11 with (go_at_call 9; refine (HV1.out _).mono ?_; rintro e wx ⟨rfl, hbx⟩)
  have hr4 := HS4.out
  have hs4 := HR4.out
  generalize (w2.setCell ⟨g2, p, none⟩ (.int .u8 (c.toNat : Int))).setCell ⟨g2, p, none⟩ (.int .u8 (byteAt u p : Int)) = w4 at *
  clear c2 f3 x3 f4 e2 HV1 HR4 HS4
  by_cases hlast : p + 1 = t.length
  · have hl : ((p : Int) + 1 == (t.length : Int)) = true := by rw [← hlast]; simp
    clear hlast
    go_wp2_with fail
    go_ret
    exact ⟨rfl, HB4.out⟩
  · have hl : ((p : Int) + 1 == (t.length : Int)) = false := beq_eq_false_iff_ne.mpr (by omega)
    have hp1 : p + 1 < t.length := by omega
    have hp1u : p + 1 < u.length := by omega
    clear hlast
    go_upto_region 13 with fail
    have k1 := hr4.cell hp
    have k2 := hr4.cell hp1
    have hp1i : (p : Int) + 1 < t.length := by omega
    go_quiet (fail)
    have q4 := hr4.drew nq
    have q4u := hs4.drew nq
    have HB5 : Hid (BelAll g1 g2 w (w4.drewN nq)) := BelAll.draw HB4.out nq
    clear k1 k2 hr4 hs4 HB4
    generalize w4.drewN nq = w5 at *
    have c5 := q4.cell hp
    have f5 := q4.frozen hp
    have r5 := q4.set hp (t.getD (p + 1) 0)
    rw [← byte_ch] at r5
    have c6 := r5.cell (k := p + 1) (by rw [List.length_set]; exact hp1)
    have f6 := r5.frozen (k := p + 1) (by rw [List.length_set]; exact hp1)
    have r6 := r5.set (k := p + 1) (by rw [List.length_set]; exact hp1) (t.getD p 0)
    rw [← byte_ch] at r6
    have R6 : Hid (RowF ((w5.setCell ⟨g1, p, none⟩ (.int .u8 (byteAt t (p + 1) : Int))).setCell ⟨g1, p + 1, none⟩ (.int .u8 (byteAt t p : Int))) g1 (swL t p)) := r6
    have S6 : Hid (RowF ((w5.setCell ⟨g1, p, none⟩ (.int .u8 (byteAt t (p + 1) : Int))).setCell ⟨g1, p + 1, none⟩ (.int .u8 (byteAt t p : Int))) g2 u) := (q4u.put (Ne.symm hg) _ _).put (Ne.symm hg) _ _
    have HB6 : Hid (BelAll g1 g2 w ((w5.setCell ⟨g1, p, none⟩ (.int .u8 (byteAt t (p + 1) : Int))).setCell ⟨g1, p + 1, none⟩ (.int .u8 (byteAt t p : Int)))) := BelAll.put1 (BelAll.put1 HB5.out _ _) _ _
    have hY := byteAt_le t (p + 1)
    have HL2 : Hid (∀ w, Calls Try.prog 8 #[.string ⟨(swL t p).toArray⟩] w fun e w' => e = .returned (.bool (decide (byteAt t p = byteAt t (p + 1)) || nineB (byteAt t p) (byteAt t (p + 1)))) ∧ w' = w) := fun w => by have := luhnRight_any (swL t p) (by rw [sw_len]; exact hN) w; rw [lr_sw HLR.out p hp1, sw_bool] at this; exact this
    have HV2 : Hid (∀ w, Calls Try.prog 9 #[.string ⟨(swL u p).toArray⟩] w fun e w' => e = .returned (.bool (decide (byteAt u p = byteAt u (p + 1)))) ∧ w' = w) := fun w => by have := verhoeffRight_any (swL u p) (by rw [sw_len]; omega) w; rw [vr_sw HVR.out p hp1u] at this; exact this
    clear r5 r6 q4 q4u HB5
    go_upto_region 15 with fail
    have q6 := R6.out
    have q6u := S6.out
    clear c5 f5 c6 f6 R6 S6
    generalize (w5.setCell ⟨g1, p, none⟩ (.int .u8 (byteAt t (p + 1) : Int))).setCell ⟨g1, p + 1, none⟩ (.int .u8 (byteAt t p : Int)) = w6 at *
    have x6 := q6.text cap1
    rw [sw_len] at x6
    go_cut [12] from 74 (fun x wx => x = .bool (nineB (byteAt t p) (byteAt t (p + 1))) ∧ wx = w6)
    case first =>
      clear HL2 HV2 x6 q6 q6u
      by_cases x48 : byteAt t p = 48
      · have b1 : (((byteAt t p : Nat) : Int) == 48) = true := by rw [x48]; rfl
        by_cases y57 : byteAt t (p + 1) = 57
        · have b2 : (((byteAt t (p + 1) : Nat) : Int) == 57) = true := by rw [y57]; rfl
          have hn : Hid (nineB (byteAt t p) (byteAt t (p + 1)) = true) := decide_eq_true (Or.inl ⟨x48, y57⟩)
          clear x48 y57
          go_wp2_with fail
          all_goals try (apply False.elim; apply undef_bool; assumption)
          go_meet
          exact ⟨by rw [hn.out], rfl⟩
        · have b2 : (((byteAt t (p + 1) : Nat) : Int) == 57) = false := beq_eq_false_iff_ne.mpr (by omega)
          have b3 : (((byteAt t p : Nat) : Int) == 57) = false := beq_eq_false_iff_ne.mpr (by omega)
          have hn : Hid (nineB (byteAt t p) (byteAt t (p + 1)) = false) := decide_eq_false (by omega)
          clear x48 y57
          go_wp2_with fail
          all_goals try (apply False.elim; apply undef_bool; assumption)
          go_meet
          exact ⟨by rw [hn.out], rfl⟩
      · have b1 : (((byteAt t p : Nat) : Int) == 48) = false := beq_eq_false_iff_ne.mpr (by omega)
        by_cases x57 : byteAt t p = 57
        · have b3 : (((byteAt t p : Nat) : Int) == 57) = true := by rw [x57]; rfl
          by_cases y48 : byteAt t (p + 1) = 48
          · have b4 : (((byteAt t (p + 1) : Nat) : Int) == 48) = true := by rw [y48]; rfl
            have hn : Hid (nineB (byteAt t p) (byteAt t (p + 1)) = true) := decide_eq_true (Or.inr ⟨x57, y48⟩)
            clear x48 x57 y48
            go_wp2_with fail
            all_goals try (apply False.elim; apply undef_bool; assumption)
            go_meet
            exact ⟨by rw [hn.out], rfl⟩
          · have b4 : (((byteAt t (p + 1) : Nat) : Int) == 48) = false := beq_eq_false_iff_ne.mpr (by omega)
            have hn : Hid (nineB (byteAt t p) (byteAt t (p + 1)) = false) := decide_eq_false (by omega)
            clear x48 x57 y48
            go_wp2_with fail
            all_goals try (apply False.elim; apply undef_bool; assumption)
            go_meet
            exact ⟨by rw [hn.out], rfl⟩
        · have b3 : (((byteAt t p : Nat) : Int) == 57) = false := beq_eq_false_iff_ne.mpr (by omega)
          have hn : Hid (nineB (byteAt t p) (byteAt t (p + 1)) = false) := decide_eq_false (by omega)
          clear x48 x57
          go_wp2_with fail
          all_goals try (apply False.elim; apply undef_bool; assumption)
          go_meet
          exact ⟨by rw [hn.out], rfl⟩
    case rest =>
    obtain ⟨rfl, rfl⟩ := hcut
    generalize nineB (byteAt t p) (byteAt t (p + 1)) = NB at *
    have exy := nat_beq (byteAt t p) (byteAt t (p + 1))
    by_cases hxy : byteAt t p = byteAt t (p + 1)
    · rw [decide_eq_true hxy] at exy HL2
      rw [Bool.true_or] at HL2
      clear hxy
      go_upto_region 18 with (go_at_call 8; refine (HL2.out _).mono ?_; rintro e wx ⟨rfl, hbx⟩)
      have k3 := q6u.cell hpu
      have k4 := q6u.cell hp1u
      go_quiet (fail)
      have q7u := q6u.drew nq
      have HB7 : Hid (BelAll g1 g2 w (wc.drewN nq)) := BelAll.draw HB6.out nq
      clear k3 k4 q6 q6u HB6 HL2 x6
      generalize wc.drewN nq = w7 at *
      have c7 := q7u.cell hpu
      have f7 := q7u.frozen hpu
      have r7 := q7u.set hpu (u.getD (p + 1) 0)
      rw [← byte_ch] at r7
      have c8 := r7.cell (k := p + 1) (by rw [List.length_set]; exact hp1u)
      have f8 := r7.frozen (k := p + 1) (by rw [List.length_set]; exact hp1u)
      have r8 := r7.set (k := p + 1) (by rw [List.length_set]; exact hp1u) (u.getD p 0)
      rw [← byte_ch] at r8
      have x8 := RowF.text (L := swL u p) r8 cap2
      rw [sw_len, hlen] at x8
      have HB8 : Hid (BelAll g1 g2 w ((w7.setCell ⟨g2, p, none⟩ (.int .u8 (byteAt u (p + 1) : Int))).setCell ⟨g2, p + 1, none⟩ (.int .u8 (byteAt u p : Int)))) := BelAll.put2 (BelAll.put2 HB7.out _ _) _ _
      clear r7 r8 q7u HB7
      have e8 := nat_beq (byteAt u p) (byteAt u (p + 1))
      generalize decide (byteAt u p = byteAt u (p + 1)) = B4 at *
      cases B4
      all_goals
        go_wp2_with (go_at_call 9; refine (HV2.out _).mono ?_; rintro e wx ⟨rfl, hbx⟩)
        go_ret
        exact ⟨rfl, HB8.out⟩
    · rw [decide_eq_false hxy] at exy HL2
      rw [Bool.false_or] at HL2
      clear hxy
      go_upto_region 18 with (go_at_call 8; refine (HL2.out _).mono ?_; rintro e wx ⟨rfl, hbx⟩)
      have k3 := q6u.cell hpu
      have k4 := q6u.cell hp1u
      go_quiet (fail)
      have q7u := q6u.drew nq
      have HB7 : Hid (BelAll g1 g2 w (wc.drewN nq)) := BelAll.draw HB6.out nq
      clear k3 k4 q6 q6u HB6 HL2 x6
      generalize wc.drewN nq = w7 at *
      have c7 := q7u.cell hpu
      have f7 := q7u.frozen hpu
      have r7 := q7u.set hpu (u.getD (p + 1) 0)
      rw [← byte_ch] at r7
      have c8 := r7.cell (k := p + 1) (by rw [List.length_set]; exact hp1u)
      have f8 := r7.frozen (k := p + 1) (by rw [List.length_set]; exact hp1u)
      have r8 := r7.set (k := p + 1) (by rw [List.length_set]; exact hp1u) (u.getD p 0)
      rw [← byte_ch] at r8
      have x8 := RowF.text (L := swL u p) r8 cap2
      rw [sw_len, hlen] at x8
      have HB8 : Hid (BelAll g1 g2 w ((w7.setCell ⟨g2, p, none⟩ (.int .u8 (byteAt u (p + 1) : Int))).setCell ⟨g2, p + 1, none⟩ (.int .u8 (byteAt u p : Int)))) := BelAll.put2 (BelAll.put2 HB7.out _ _) _ _
      clear r7 r8 q7u HB7
      have e8 := nat_beq (byteAt u p) (byteAt u (p + 1))
      generalize decide (byteAt u p = byteAt u (p + 1)) = B4 at *
      cases B4
      all_goals
        go_wp2_with (go_at_call 9; refine (HV2.out _).mono ?_; rintro e wx ⟨rfl, hbx⟩)
        go_ret
        exact ⟨rfl, HB8.out⟩
end Go.Proofs.Ytjmaejdkdpiigab
