/- GrammarBack: the law's walk. -/
import Derived.Test.YtgmbkelmgolkpabDoorBke
namespace Go.Proofs.YtgmbkelmgolkpabDoor
open Go.RowKit Go.Maps
set_option linter.unusedVariables false

theorem un_boolB {b : Bool} {c : Prop} (h : some undef = some (Value.bool b)) : False := by simp [undef] at h
theorem var_nextB {w w' : World} {mx : Int} (h00 : 0 < w.heap.size) (hm : w.cell? ⟨0, 0, none⟩ = some (.int .i64 mx)) (hb : Below w.heap.size w w') : 0 < w'.heap.size ∧ w'.cell? ⟨0, 0, none⟩ = some (.int .i64 mx) := ⟨Nat.lt_of_lt_of_le h00 hb.size, (hb.cell (p := ⟨0, 0, none⟩) h00).trans hm⟩
set_option maxRecDepth 100000 in
set_option maxHeartbeats 1600000 in
theorem back_bad (x : Tx) (hx : x.length ≤ maxLen) (hE : (prR x).2 ≠ 0) (mx : Int) (w : World) (h00 : 0 < w.heap.size) (hm : w.cell? ⟨0, 0, none⟩ = some (.int .i64 mx)) : Calls Tryd.prog 4 #[encT x] w fun e w' => e = .returned (.bool true) ∧ Below w.heap.size w w' := by
  have H6 := hidD (alive_any mx w h00 hm)
  have H7 : Hid (∀ w1, Below w.heap.size w w1 → Calls Tryd.prog 7 #[encT x] w1 fun e w' => e = .returned (.tuple #[.pointer none, .int .i64 (prR x).1, .int .i64 (prR x).2]) ∧ Below w1.heap.size w1 w') := fun w1 hb => (parse_any x hx mx w1 (var_nextB h00 hm hb).1 (var_nextB h00 hm hb).2).mono fun e w' h => ⟨h.1 hE, h.2.2⟩
  have hEb : ((prR x).2 == 0) = false := beq_eq_false_iff_ne.2 hE
  have hEd : decide ((prR x).2 = 0) = false := decide_eq_false hE
  clear hm h00 hx
  unfold encT at *
  generalize bA x = xb at *
  generalize (prR x).1 = a at *
  generalize (prR x).2 = b at *
  go_enter Tryd.func4, Tryd.ntmps4
  go_wp2_with first
    | (go_at_call 7; refine (H7.out _ HB1.out).mono ?_; rintro e w2 ⟨rfl, hb2⟩; have HB2 := hidD (Below.next HB1.out hb2); clear hb2)
    | (go_at_call 6; refine H6.out.mono ?_; rintro e w1 ⟨rfl, hb1⟩; have HB1 := hidD hb1; clear hb1)
  go_ret
  exact ⟨rfl, HB2.out⟩
set_option maxRecDepth 100000 in
set_option maxHeartbeats 3200000 in
theorem back_ok (x : Tx) (hx : x.length ≤ maxLen) (hE : (prR x).2 = 0) (mx : Int) (w : World) (h00 : 0 < w.heap.size) (hm : w.cell? ⟨0, 0, none⟩ = some (.int .i64 mx)) : Calls Tryd.prog 4 #[encT x] w fun e w' => e = .returned (.bool true) ∧ Below w.heap.size w w' := by
  have H6 := hidD (alive_any mx w h00 hm)
  have H7 : Hid (∀ w1, Below w.heap.size w w1 → Calls Tryd.prog 7 #[encT x] w1 fun e w' => ∃ p, e = .returned (.tuple #[.pointer (some ⟨p, 0, none⟩), .int .i64 0, .int .i64 0]) ∧ GL w' p (parsL x) ∧ Below w1.heap.size w1 w') := fun w1 hb => (parse_any x hx mx w1 (var_nextB h00 hm hb).1 (var_nextB h00 hm hb).2).mono fun e w' h => by
    obtain ⟨p, nul, bg, fo, h1, _, h3⟩ := h.2.1 hE
    exact ⟨p, h1, ⟨nul, bg, fo, h3⟩, h.2.2⟩
  have HNML := hidD (fun h1 => pars_nml hE h1)
  have H7t : Hid (∀ w1, Below w.heap.size w w1 → NmL (parsL x) → (txtS (parsL x)).length ≤ 1048576 → (parsL x).length ≤ 128 → (teS (parsL x)).length + 1 + (otS (parsL x)).length ≤ 128 → Calls Tryd.prog 7 #[.string (bA (txtS (parsL x)))] w1 fun e w' => ∃ p, e = .returned (.tuple #[.pointer (some ⟨p, 0, none⟩), .int .i64 0, .int .i64 0]) ∧ GL w' p (gpL (parsL x)) ∧ Below w1.heap.size w1 w') := fun w1 hb hL hl k1 k2 => (parse_any (txtS (parsL x)) (by unfold maxLen; omega) mx w1 (var_nextB h00 hm hb).1 (var_nextB h00 hm hb).2).mono fun e w' h => by
    obtain ⟨p, nul, bg, fo, h1, _, h3⟩ := h.2.1 (by rw [pr_txt hL hl k1 k2])
    rw [txt_pars hL] at h3
    exact ⟨p, h1, ⟨nul, bg, fo, h3⟩, h.2.2⟩
  clear hm h00 hx hE
  generalize parsL x = L at *
  unfold encT at *
  generalize bA x = xb at *
  go_enter Tryd.func4, Tryd.ntmps4
  go_upto_region 6 with first
    | (go_at_call 7; refine (H7.out _ HB1.out).mono ?_; rintro e w2 ⟨p, rfl, hg2, hb2⟩; have HB2 := hidD (Below.next HB1.out hb2); have HG2 := hidD hg2; clear hb2 hg2)
    | (go_at_call 6; refine H6.out.mono ?_; rintro e w1 ⟨rfl, hb1⟩; have HB1 := hidD hb1; clear hb1)
  obtain ⟨hl1, hl2, hl3⟩ := HG2.out.one
  have hL : NmL L := HNML.out hl1
  have HL := hidD hL
  have K15g := hidD (bk15 hL HG2.out)
  have HSZ := hidD (ba_size (txtS L))
  by_cases hbig : 1048576 < (txtS L).length
  · have hbi : (1048576 : Int) < ((bA (txtS L)).size : Int) := by rw [HSZ.out]; omega
    clear hL H7t hl1 hl2 hl3 hbig HSZ
    generalize bA (txtS L) = tb at *
    go_wp2_with (go_at_call 15; refine K15g.out.mono ?_; rintro e w3 ⟨rfl, hb3⟩; have HB3 := hidD (Below.next HB2.out hb3); clear hb3)
    go_ret
    exact ⟨rfl, HB3.out⟩
  · have hbi : ¬ (1048576 : Int) < ((bA (txtS L)).size : Int) := by rw [HSZ.out]; omega
    have hLg := hL.gp
    have hTW := gp_two hL
    have H7u := hidD (fun w1 hb => H7t.out w1 hb hL (by omega) hl2 hl3)
    have K15h : Hid (∀ w' p', GL w' p' (gpL L) → Calls Tryd.prog 15 #[.pointer (some ⟨p', 0, none⟩)] w' fun e w'' => e = .returned (.string (bA (txtS L))) ∧ Below w'.heap.size w' w'') := fun w' p' h => by have := bk15 hLg h; rwa [txt_gp] at this
    have K16g : Hid (∀ w' p', GL w' p' L → Calls Tryd.prog 16 #[.pointer (some ⟨p', 0, none⟩)] w' fun e w'' => ∃ a c, e = .returned (.slice a L.length c) ∧ Below w'.heap.size w' w'') := fun w' p' h => bk16 h
    have K16h : Hid (∀ w' p', GL w' p' (gpL L) → Calls Tryd.prog 16 #[.pointer (some ⟨p', 0, none⟩)] w' fun e w'' => ∃ a c, e = .returned (.slice a L.length c) ∧ Below w'.heap.size w' w'') := fun w' p' h => by have := bk16 h; rwa [gp_len] at this
    have K10g : Hid (∀ w' p', GL w' p' L → Calls Tryd.prog 10 #[.pointer (some ⟨p', 0, none⟩)] w' fun e w'' => e = .returned (.int .i64 (((teS L).length + 1 + (otS L).length : Nat) : Int)) ∧ Below w'.heap.size w' w'') := fun w' p' h => bk10 h
    have K10h : Hid (∀ w' p', GL w' p' (gpL L) → Calls Tryd.prog 10 #[.pointer (some ⟨p', 0, none⟩)] w' fun e w'' => e = .returned (.int .i64 (((teS L).length + 1 + (otS L).length : Nat) : Int)) ∧ Below w'.heap.size w' w'') := fun w' p' h => by have := bk10 h; rwa [← hTW.lens.1, ← hTW.lens.2] at this
    have K9g : Hid (∀ w' p', GL w' p' L → Calls Tryd.prog 9 #[.pointer (some ⟨p', 0, none⟩)] w' fun e w'' => e = .returned (.int .i64 (((teS L).length + 1 : Nat) : Int)) ∧ Below w'.heap.size w' w'') := fun w' p' h => bk9 h
    have K9h : Hid (∀ w' p', GL w' p' (gpL L) → Calls Tryd.prog 9 #[.pointer (some ⟨p', 0, none⟩)] w' fun e w'' => e = .returned (.int .i64 (((teS L).length + 1 : Nat) : Int)) ∧ Below w'.heap.size w' w'') := fun w' p' h => by have := bk9 h; rwa [← hTW.lens.1] at this
    have K18g : Hid (∀ w' p', GL w' p' L → Calls Tryd.prog 18 #[.pointer (some ⟨p', 0, none⟩)] w' fun e w'' => e = .returned (.int .i64 ((nmN (teS L) (otS L) (stS L) : Nat) : Int)) ∧ Below w'.heap.size w' w'') := fun w' p' h => bk18 h
    have K18h : Hid (∀ w' p', GL w' p' (gpL L) → Calls Tryd.prog 18 #[.pointer (some ⟨p', 0, none⟩)] w' fun e w'' => e = .returned (.int .i64 ((nmN (teS (gpL L)) (otS (gpL L)) (stS L) : Nat) : Int)) ∧ Below w'.heap.size w' w'') := fun w' p' h => by have := bk18 h; rwa [st_gp hl1] at this
    have K17g : Hid (∀ w' p', GL w' p' L → Calls Tryd.prog 17 #[.pointer (some ⟨p', 0, none⟩), .int .i64 ((nmN (teS L) (otS L) (stS L) : Nat) : Int)] w' fun e w'' => e = .returned (.tuple #[.string (bA (stS L)), .bool true]) ∧ Below w'.heap.size w' w'') := fun w' p' h => bk17 hL h
    have K17h : Hid (∀ w' p', GL w' p' (gpL L) → Calls Tryd.prog 17 #[.pointer (some ⟨p', 0, none⟩), .int .i64 ((nmN (teS (gpL L)) (otS (gpL L)) (stS L) : Nat) : Int)] w' fun e w'' => e = .returned (.tuple #[.string (bA (stS L)), .bool true]) ∧ Below w'.heap.size w' w'') := fun w' p' h => by have := bk17 hLg h; rwa [st_gp hl1] at this
    have K8g : Hid (∀ w' p', GL w' p' L → Calls Tryd.prog 8 #[.pointer (some ⟨p', 0, none⟩)] w' fun e w'' => ∃ E X a c, e = .returned (.slice a (usTo E X ((teS L).length + 1) (otS L).length).length c) ∧ GrIs (L.map (rnF (nuF (teS L) (otS L)))) (utS ((teS L).length + 1)) E ∧ ReIs (L.map (rnF (nuF (teS L) (otS L)))) E (2 ^ nmN (teS L) (otS L) (stS L)) X ∧ Below w'.heap.size w' w'') := fun w' p' h => bk8 h
    have K8h : Hid (∀ w' p', GL w' p' (gpL L) → Calls Tryd.prog 8 #[.pointer (some ⟨p', 0, none⟩)] w' fun e w'' => ∃ E X a c, e = .returned (.slice a (usTo E X ((teS (gpL L)).length + 1) (otS (gpL L)).length).length c) ∧ GrIs ((gpL L).map (rnF (nuF (teS (gpL L)) (otS (gpL L))))) (utS ((teS (gpL L)).length + 1)) E ∧ ReIs ((gpL L).map (rnF (nuF (teS (gpL L)) (otS (gpL L))))) E (2 ^ nmN (teS (gpL L)) (otS (gpL L)) (stS L)) X ∧ Below w'.heap.size w' w'') := fun w' p' h => by have := bk8 h; rwa [st_gp hl1] at this
    have KUS : Hid (∀ E1 X1 E2 X2, GrIs (L.map (rnF (nuF (teS L) (otS L)))) (utS ((teS L).length + 1)) E1 → GrIs ((gpL L).map (rnF (nuF (teS (gpL L)) (otS (gpL L))))) (utS ((teS (gpL L)).length + 1)) E2 → ReIs (L.map (rnF (nuF (teS L) (otS L)))) E1 (2 ^ nmN (teS L) (otS L) (stS L)) X1 → ReIs ((gpL L).map (rnF (nuF (teS (gpL L)) (otS (gpL L))))) E2 (2 ^ nmN (teS (gpL L)) (otS (gpL L)) (stS L)) X2 → (usTo E1 X1 ((teS L).length + 1) (otS L).length).length = (usTo E2 X2 ((teS (gpL L)).length + 1) (otS (gpL L)).length).length) := fun E1 X1 E2 X2 k1 k2 k3 k4 => hTW.useless (.inr (st_in hL)) k1 k2 k3 k4
    clear hL hLg hTW H7t hl1 hl2 hl3 hbig HSZ HNML HL H6 H7
    generalize bA (txtS L) = tb at *
    generalize bA (stS L) = sb at *
    generalize hng : nmN (teS L) (otS L) (stS L) = ng at *
    generalize hnh : nmN (teS (gpL L)) (otS (gpL L)) (stS L) = nh at *
    clear hng hnh
    generalize ((teS L).length + 1 + (otS L).length : Nat) = nn at *
    generalize hnt : ((teS L).length + 1 : Nat) = nt at *
    clear hnt
    generalize hll : L.length = nl at *
    clear hll
    have q1 : ((nn : Int) == (nn : Int)) = true := beq_self_eq_true _
    have q2 : ((nt : Int) == (nt : Int)) = true := beq_self_eq_true _
    have q3 : ((nl : Int) == (nl : Int)) = true := beq_self_eq_true _
    go_upto_region 10 with first
      | (go_at_call 7; refine (H7u.out _ HB3.out).mono ?_; rintro e w4 ⟨p2, rfl, hh4, hb4⟩; have HB4 := hidD (Below.next HB3.out hb4); have HG4 := hidD (HG3.out.next hb4); have HH4 := hidD hh4; have M4 := trivial; clear hb4 hh4)
      | (go_at_call 15; refine K15g.out.mono ?_; rintro e w3 ⟨rfl, hb3⟩; have HB3 := hidD (Below.next HB2.out hb3); have HG3 := hidD (HG2.out.next hb3); clear hb3)
    clear K15g H7u
    go_wp2_with first
          | (go_at_call 8; have := M16; clear this; refine (K8h.out _ _ HH16.out).mono ?_; rintro e w17 ⟨E2, X2, a17, c17, rfl, he2, hx2, hb⟩; have HUS := hidD (KUS.out E1 X1 E2 X2 HE1.out he2 HX1.out hx2); clear he2 hx2; rw [← HUS.out]; have HB17 := hidD (Below.next HB16.out hb); have HG17 := hidD (HG16.out.next hb); have HH17 := hidD (HH16.out.next hb); have M17 := trivial; clear hb)
          | (go_at_call 8; have := M15; clear this; refine (K8g.out _ _ HG15.out).mono ?_; rintro e w16 ⟨E1, X1, a16, c16, rfl, he1, hx1, hb⟩; have HE1 := hidD he1; have HX1 := hidD hx1; clear he1 hx1; have HB16 := hidD (Below.next HB15.out hb); have HG16 := hidD (HG15.out.next hb); have HH16 := hidD (HH15.out.next hb); have M16 := trivial; clear hb)
          | (go_at_call 17; have := M14; clear this; refine (K17h.out _ _ HH14.out).mono ?_; rintro e w15 ⟨rfl, hb⟩; have HB15 := hidD (Below.next HB14.out hb); have HG15 := hidD (HG14.out.next hb); have HH15 := hidD (HH14.out.next hb); have M15 := trivial; clear hb)
          | (go_at_call 18; have := M13; clear this; refine (K18h.out _ _ HH13.out).mono ?_; rintro e w14 ⟨rfl, hb⟩; have HB14 := hidD (Below.next HB13.out hb); have HG14 := hidD (HG13.out.next hb); have HH14 := hidD (HH13.out.next hb); have M14 := trivial; clear hb)
          | (go_at_call 17; have := M12; clear this; refine (K17g.out _ _ HG12.out).mono ?_; rintro e w13 ⟨rfl, hb⟩; have HB13 := hidD (Below.next HB12.out hb); have HG13 := hidD (HG12.out.next hb); have HH13 := hidD (HH12.out.next hb); have M13 := trivial; clear hb)
          | (go_at_call 18; have := M11; clear this; refine (K18g.out _ _ HG11.out).mono ?_; rintro e w12 ⟨rfl, hb⟩; have HB12 := hidD (Below.next HB11.out hb); have HG12 := hidD (HG11.out.next hb); have HH12 := hidD (HH11.out.next hb); have M12 := trivial; clear hb)
          | (go_at_call 9; have := M10; clear this; refine (K9g.out _ _ HG10.out).mono ?_; rintro e w11 ⟨rfl, hb⟩; have HB11 := hidD (Below.next HB10.out hb); have HG11 := hidD (HG10.out.next hb); have HH11 := hidD (HH10.out.next hb); have M11 := trivial; clear hb)
          | (go_at_call 9; have := M9; clear this; refine (K9h.out _ _ HH9.out).mono ?_; rintro e w10 ⟨rfl, hb⟩; have HB10 := hidD (Below.next HB9.out hb); have HG10 := hidD (HG9.out.next hb); have HH10 := hidD (HH9.out.next hb); have M10 := trivial; clear hb)
          | (go_at_call 10; have := M8; clear this; refine (K10g.out _ _ HG8.out).mono ?_; rintro e w9 ⟨rfl, hb⟩; have HB9 := hidD (Below.next HB8.out hb); have HG9 := hidD (HG8.out.next hb); have HH9 := hidD (HH8.out.next hb); have M9 := trivial; clear hb)
          | (go_at_call 10; have := M7; clear this; refine (K10h.out _ _ HH7.out).mono ?_; rintro e w8 ⟨rfl, hb⟩; have HB8 := hidD (Below.next HB7.out hb); have HG8 := hidD (HG7.out.next hb); have HH8 := hidD (HH7.out.next hb); have M8 := trivial; clear hb)
          | (go_at_call 16; have := M6; clear this; refine (K16g.out _ _ HG6.out).mono ?_; rintro e w7 ⟨a7, c7, rfl, hb⟩; have HB7 := hidD (Below.next HB6.out hb); have HG7 := hidD (HG6.out.next hb); have HH7 := hidD (HH6.out.next hb); have M7 := trivial; clear hb)
          | (go_at_call 16; have := M5; clear this; refine (K16h.out _ _ HH5.out).mono ?_; rintro e w6 ⟨a6, c6, rfl, hb⟩; have HB6 := hidD (Below.next HB5.out hb); have HG6 := hidD (HG5.out.next hb); have HH6 := hidD (HH5.out.next hb); have M6 := trivial; clear hb)
          | (go_at_call 15; have := M4; clear this; refine (K15h.out _ _ HH4.out).mono ?_; rintro e w5 ⟨rfl, hb⟩; have HB5 := hidD (Below.next HB4.out hb); have HG5 := hidD (HG4.out.next hb); have HH5 := hidD (HH4.out.next hb); have M5 := trivial; clear hb)
    all_goals first | exact (un_boolB (by assumption)).elim | skip
    go_ret
    exact ⟨rfl, HB17.out⟩
theorem back_any (x : Tx) (hx : x.length ≤ maxLen) (mx : Int) (w : World) (h00 : 0 < w.heap.size) (hm : w.cell? ⟨0, 0, none⟩ = some (.int .i64 mx)) : Calls Tryd.prog 4 #[encT x] w fun e w' => e = .returned (.bool true) ∧ Below w.heap.size w w' := by
  by_cases hE : (prR x).2 = 0
  · exact back_ok x hx hE mx w h00 hm
  · exact back_bad x hx hE mx w h00 hm
end Go.Proofs.YtgmbkelmgolkpabDoor
