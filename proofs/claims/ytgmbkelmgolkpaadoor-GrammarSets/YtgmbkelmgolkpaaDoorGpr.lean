/- GrammarParses: the law's walk. -/
import Derived.Test.YtgmbkelmgolkpaaDoorSam
import Derived.Test.YtgmbkelmgolkpaaDoorGg
import Derived.Test.YtgmbkelmgolkpaaDoorGnl
namespace Go.Proofs.YtgmbkelmgolkpaaDoor
open Go.RowKit Go.Maps
set_option linter.unusedVariables false

/-- What a text that is taken tells. -/
theorem pars_ok {x : Tx} (h : (prR x).2 = 0) : ∀ r ∈ parsL x, 1 ≤ r.length ∧ ∀ y ∈ r, nmS y = true := by
  have hG : prG x = true := by
    cases hg : prG x with
    | true => rfl
    | false =>
      unfold prR at h
      rw [hg] at h
      split at h
      · cases h
      · cases h
  unfold prG at hG
  rw [List.all_eq_true] at hG
  exact rd_names (lnsS x) (lnsS x).length fun j hj => hG j (List.mem_range.2 hj)
theorem pars_rules {x : Tx} (h : (prR x).2 = 0) : (parsL x).map (rnF (nuF (teS (parsL x)) (otS (parsL x)))) = dgR x := by
  unfold dgR
  exact List.map_congr_left fun r hr => rn_doc (pars_ok h) hr
theorem pars_start {x : Tx} (h : (prR x).2 = 0) (h1 : 1 ≤ (parsL x).length) : ((teS (parsL x)).length : Int) + 1 + atS (otS (parsL x)) (stS (parsL x)) = (((vaF (nuF (teS (parsL x)) (otS (parsL x))) (stS (parsL x))).toNat : Nat) : Int) ∧ 0 ≤ atS (otS (parsL x)) (stS (parsL x)) := by
  have hn := nam_of (pars_ok h)
  have hm : (parsL x).getD 0 [] ∈ parsL x := by rw [List.getD_eq_getElem?_getD, List.getElem?_eq_getElem (show 0 < (parsL x).length by omega)]; exact List.getElem_mem _
  have hs : stS (parsL x) ∈ otS (parsL x) := left_in hm ((pars_ok h) _ hm).1
  have h2 := hn.inO hs
  have h3 := (at_iff (otS (parsL x)) (stS (parsL x))).2 hs
  refine ⟨?_, h3⟩
  unfold vaF
  rw [h2]
  simp only [Option.getD_some]
  omega
set_option maxRecDepth 100000 in
theorem refFind_nil (x : Tx) (w : World) : Calls Tryd.prog 14 #[.pointer none, encT x] w fun e w' => e = .returned (.int .i64 (-1)) ∧ w' = w := by
  unfold encT
  go_enter Tryd.func14, Tryd.ntmps14
  go_wp2_with fail
  go_ret
  exact ⟨rfl, rfl⟩
theorem cell_next {w w' : World} {mx : Int} (h00 : 0 < w.heap.size) (hm : w.cell? ⟨0, 0, none⟩ = some (.int .i64 mx)) (hb : Below w.heap.size w w') : 0 < w'.heap.size ∧ w'.cell? ⟨0, 0, none⟩ = some (.int .i64 mx) := ⟨Nat.lt_of_lt_of_le h00 hb.size, (hb.cell (p := ⟨0, 0, none⟩) h00).trans hm⟩
set_option maxRecDepth 100000 in
set_option maxHeartbeats 1600000 in
theorem parses_bad (x y : Tx) (hx : x.length ≤ maxLen) (hE : (prR x).2 ≠ 0) (mx : Int) (w : World) (h00 : 0 < w.heap.size) (hm : w.cell? ⟨0, 0, none⟩ = some (.int .i64 mx)) : Calls Tryd.prog 3 #[encT x, encT y] w fun e w' => e = .returned (.bool true) ∧ Below w.heap.size w w' := by
  have H9 : Hid (Calls Tryd.prog 9 #[encT x] w fun e w' => e = .returned (.tuple #[.pointer none, .int .i64 (prR x).1, .int .i64 (prR x).2]) ∧ Below w.heap.size w w') := (parse_any x hx mx w h00 hm).mono fun e w' h => ⟨h.1 hE, h.2.2⟩
  have H10 : Hid (∀ w1 : World, Calls Tryd.prog 10 #[encT x] w1 fun e w' => e = .returned (.tuple #[.pointer none, .int .i64 (prR x).1, .int .i64 (prR x).2]) ∧ Below w1.heap.size w1 w') := fun w1 => (refParse_any x hx w1).mono fun e w' h => ⟨h.1 hE, h.2.2⟩
  have H12 := hidD (fun w1 (hb : Below w.heap.size w w1) => alive_any mx w1 (cell_next h00 hm hb).1 (cell_next h00 hm hb).2)
  have H13 := hidD (find_nilT y)
  have H14 := hidD (refFind_nil y)
  have hab : ((prR x).1 == (prR x).1) = true := beq_self_eq_true _
  have hbb : ((prR x).2 == (prR x).2) = true := beq_self_eq_true _
  clear hE hm h00 hx
  unfold encT at *
  generalize bA x = xb at *
  generalize bA y = yb at *
  generalize (prR x).1 = a at *
  generalize (prR x).2 = b at *
  go_enter Tryd.func3, Tryd.ntmps3
  go_wp2_with first
    | (go_at_call 14; refine (H14.out _).mono ?_; rintro e w6 ⟨rfl, hw⟩; subst w6)
    | (go_at_call 13; refine (H13.out _).mono ?_; rintro e w5 ⟨rfl, hw⟩; subst w5)
    | (go_at_call 12; refine (H12.out _ HB3.out).mono ?_; rintro e w4 ⟨rfl, hb4⟩; have HB4 := hidD (Below.next HB3.out hb4); clear hb4)
    | (go_at_call 11; refine (same_nil _).mono ?_; rintro e w3 ⟨rfl, hb3⟩; have HB3 := hidD (Below.next HB2.out hb3); clear hb3)
    | (go_at_call 10; refine (H10.out _).mono ?_; rintro e w2 ⟨rfl, hb2⟩; have HB2 := hidD (Below.next HB1.out hb2); clear hb2)
    | (go_at_call 9; refine H9.out.mono ?_; rintro e w1 ⟨rfl, hb1⟩; have HB1 := hidD hb1; clear hb1)
  go_ret
  exact ⟨rfl, HB4.out⟩
theorem nuE_pos {T O : List Tx} (h : Nam T O) {x : Tx} (hd : 0 ≤ dfS T O x) : nuE T O x = some (dfS T O x) := by
  obtain ⟨h1, h2⟩ := nuE_df h x
  rw [decide_eq_true hd] at h1
  obtain ⟨c, hc⟩ := Option.isSome_iff_exists.1 h1
  rw [hc] at h2 ⊢
  simp only [Option.getD_some] at h2
  rw [h2]; congr 1; omega
theorem nuE_neg {T O : List Tx} (h : Nam T O) {x : Tx} (hd : ¬ 0 ≤ dfS T O x) : nuE T O x = none := by
  obtain ⟨h1, h2⟩ := nuE_df h x
  rw [decide_eq_false hd] at h1
  exact Option.not_isSome_iff_eq_none.1 (by rw [h1]; decide)
set_option maxRecDepth 100000 in
set_option maxHeartbeats 3200000 in
theorem parses_ok (x y : Tx) (hx : x.length ≤ maxLen) (hy : y.length ≤ maxLen) (hE : (prR x).2 = 0) (mx : Int) (w : World) (h00 : 0 < w.heap.size) (hm : w.cell? ⟨0, 0, none⟩ = some (.int .i64 mx)) : Calls Tryd.prog 3 #[encT x, encT y] w fun e w' => e = .returned (.bool true) ∧ Below w.heap.size w w' := by
  have hnam := nam_of (pars_ok hE)
  have H9 : Hid (Calls Tryd.prog 9 #[encT x] w fun e w' => (∃ p nul bg fo, e = .returned (.tuple #[.pointer (some ⟨p, 0, none⟩), .int .i64 0, .int .i64 0]) ∧ w.heap.size ≤ p ∧ GfAt w' p (teS (parsL x)) (otS (parsL x)) (vaF (nuF (teS (parsL x)) (otS (parsL x))) (stS (parsL x))).toNat (dgR x) nul bg fo) ∧ Below w.heap.size w w') := (parse_any x hx mx w h00 hm).mono fun e w' h => ⟨by have := h.2.1 hE; rwa [pars_rules hE] at this, h.2.2⟩
  have H10 : Hid (∀ w1 : World, Calls Tryd.prog 10 #[encT x] w1 fun e w' => (∃ p, e = .returned (.tuple #[.pointer (some ⟨p, 0, none⟩), .int .i64 0, .int .i64 0]) ∧ w1.heap.size ≤ p ∧ RgAt w' p (teS (parsL x)) (otS (parsL x)) (dgR x) (atS (otS (parsL x)) (stS (parsL x)))) ∧ Below w1.heap.size w1 w') := fun w1 => (refParse_any x hx w1).mono fun e w' h => ⟨h.2.1 hE, h.2.2⟩
  have H12 := hidD (fun w1 (hb : Below w.heap.size w w1) => alive_any mx w1 (cell_next h00 hm hb).1 (cell_next h00 hm hb).2)
  have HPS := hidD (fun h1 => pars_start hE h1)
  have HLD : Hid ((dgR x).length = (parsL x).length) := by show _ = _; unfold dgR; rw [List.length_map]
  have H11 : Hid (∀ (w1 : World) (p p2 nul : Nat) (bg fo : Nat → Nat), GfAt w1 p (teS (parsL x)) (otS (parsL x)) (vaF (nuF (teS (parsL x)) (otS (parsL x))) (stS (parsL x))).toNat (dgR x) nul bg fo → RgAt w1 p2 (teS (parsL x)) (otS (parsL x)) (dgR x) (atS (otS (parsL x)) (stS (parsL x))) → Calls Tryd.prog 11 #[.pointer (some ⟨p, 0, none⟩), .pointer (some ⟨p2, 0, none⟩)] w1 fun e w' => e = .returned (.bool true) ∧ Below w1.heap.size w1 w') := fun w1 p p2 nul bg fo hg hr => by
    obtain ⟨h1, h2⟩ := HPS.out (by rw [← HLD.out]; exact hg.one)
    exact same_any hg hr h1 h2 hnam
  have H13 := hidD (fun (w1 : World) (p nul : Nat) (bg fo : Nat → Nat) (hb : Below w.heap.size w w1) (hg : GfAt w1 p (teS (parsL x)) (otS (parsL x)) (vaF (nuF (teS (parsL x)) (otS (parsL x))) (stS (parsL x))).toNat (dgR x) nul bg fo) => find_any hg y hy)
  have HTL : Hid ((teS (parsL x)).length + (otS (parsL x)).length ≤ (parsL x).flatten.length) := te_ot_len (parsL x)
  have H14 : Hid (∀ (w1 : World) (p2 : Nat), Below w.heap.size w w1 → (teS (parsL x)).length ≤ 128 ∧ (otS (parsL x)).length ≤ 128 → RgAt w1 p2 (teS (parsL x)) (otS (parsL x)) (dgR x) (atS (otS (parsL x)) (stS (parsL x))) → Calls Tryd.prog 14 #[.pointer (some ⟨p2, 0, none⟩), encT y] w1 fun e w' => e = .returned (.int .i64 (dfS (teS (parsL x)) (otS (parsL x)) y)) ∧ w' = w1) := fun w1 p2 _ hl hr => by
    obtain ⟨v0, v1, v2, base, xs, h1, h2, h3, h4, h5⟩ := hr
    exact refFind_any _ _ (by omega) (by omega) y p2 p2 v0 v1 v2 _ w1 h1 h2 h3
  have HFW : Hid (∀ (w1 : World) (p nul : Nat) (bg fo : Nat → Nat), GfAt w1 p (teS (parsL x)) (otS (parsL x)) (vaF (nuF (teS (parsL x)) (otS (parsL x))) (stS (parsL x))).toNat (dgR x) nul bg fo → (teS (parsL x)).length ≤ 128 ∧ (otS (parsL x)).length ≤ 128) := fun w1 p nul bg fo hg => by
    have := hg.few
    rw [allN_len] at this
    omega
  clear HPS HLD HTL hE hm h00 hx hy
  generalize teS (parsL x) = T at *
  generalize otS (parsL x) = O at *
  generalize dgR x = R at *
  generalize (vaF (nuF T O) (stS (parsL x))).toNat = st at *
  generalize atS O (stS (parsL x)) = sO at *
  by_cases hd : 0 ≤ dfS T O y
  ·
    have hnu : nuE T O y = some (dfS T O y) := nuE_pos hnam hd
    rw [hnu] at H13
    simp only [Option.getD_some, Option.isSome_some] at H13
    have hd1 : ¬ dfS T O y < 0 := by omega
    have hd2 : decide (0 ≤ dfS T O y) = true := decide_eq_true hd
    have hd3 : (dfS T O y == dfS T O y) = true := beq_self_eq_true _
    have hd4 : max (dfS T O y) 0 = dfS T O y := by omega
    clear hnu hnam
    unfold encT at *
    generalize bA x = xb at *
    generalize bA y = yb at *
    generalize dfS T O y = d at *
    go_enter Tryd.func3, Tryd.ntmps3
    go_wp2_with first
      | (go_at_call 14; refine (H14.out _ _ HB4.out (HFW.out _ _ _ _ _ HG4.out) HR4.out).mono ?_; rintro e w6 ⟨rfl, hw⟩; subst w6)
      | (go_at_call 13; refine (H13.out _ _ _ _ _ HB4.out HG4.out).mono ?_; rintro e w5 ⟨rfl, hw⟩; subst w5)
      | (go_at_call 12; refine (H12.out _ HB3.out).mono ?_; rintro e w4 ⟨rfl, hb4⟩; have HB4 := hidD (Below.next HB3.out hb4); have HG4 := hidD (HG3.out.next hb4); have HR4 := hidD (HR3.out.next hb4); clear hb4)
      | (go_at_call 11; refine (H11.out _ _ _ _ _ _ HG2.out HR2.out).mono ?_; rintro e w3 ⟨rfl, hb3⟩; have HB3 := hidD (Below.next HB2.out hb3); have HG3 := hidD (HG2.out.next hb3); have HR3 := hidD (HR2.out.next hb3); clear hb3)
      | (go_at_call 10; refine (H10.out _).mono ?_; rintro e w2 ⟨⟨p2, rfl, hp2, hr2⟩, hb2⟩; have HB2 := hidD (Below.next HB1.out hb2); have HG2 := hidD (HG1.out.next hb2); have HR2 := hidD hr2; clear hb2 hr2)
      | (go_at_call 9; refine H9.out.mono ?_; rintro e w1 ⟨⟨p, nul, bg, fo, rfl, hp, hg⟩, hb1⟩; have HB1 := hidD hb1; have HG1 := hidD hg; clear hb1 hg)
    all_goals first | exact (un_bool3 (by assumption)).elim | skip
    go_ret
    exact ⟨rfl, HB4.out⟩
  ·
    have hnu : nuE T O y = none := nuE_neg hnam hd
    rw [hnu] at H13
    simp only [Option.getD_none, Option.isSome_none] at H13
    have hd1 : dfS T O y < 0 := by omega
    have hd2 : decide (0 ≤ dfS T O y) = false := decide_eq_false hd
    have hd4 : max (dfS T O y) 0 = 0 := by omega
    clear hnu hnam
    unfold encT at *
    generalize bA x = xb at *
    generalize bA y = yb at *
    generalize dfS T O y = d at *
    go_enter Tryd.func3, Tryd.ntmps3
    go_wp2_with first
      | (go_at_call 14; refine (H14.out _ _ HB4.out (HFW.out _ _ _ _ _ HG4.out) HR4.out).mono ?_; rintro e w6 ⟨rfl, hw⟩; subst w6)
      | (go_at_call 13; refine (H13.out _ _ _ _ _ HB4.out HG4.out).mono ?_; rintro e w5 ⟨rfl, hw⟩; subst w5)
      | (go_at_call 12; refine (H12.out _ HB3.out).mono ?_; rintro e w4 ⟨rfl, hb4⟩; have HB4 := hidD (Below.next HB3.out hb4); have HG4 := hidD (HG3.out.next hb4); have HR4 := hidD (HR3.out.next hb4); clear hb4)
      | (go_at_call 11; refine (H11.out _ _ _ _ _ _ HG2.out HR2.out).mono ?_; rintro e w3 ⟨rfl, hb3⟩; have HB3 := hidD (Below.next HB2.out hb3); have HG3 := hidD (HG2.out.next hb3); have HR3 := hidD (HR2.out.next hb3); clear hb3)
      | (go_at_call 10; refine (H10.out _).mono ?_; rintro e w2 ⟨⟨p2, rfl, hp2, hr2⟩, hb2⟩; have HB2 := hidD (Below.next HB1.out hb2); have HG2 := hidD (HG1.out.next hb2); have HR2 := hidD hr2; clear hb2 hr2)
      | (go_at_call 9; refine H9.out.mono ?_; rintro e w1 ⟨⟨p, nul, bg, fo, rfl, hp, hg⟩, hb1⟩; have HB1 := hidD hb1; have HG1 := hidD hg; clear hb1 hg)
    all_goals first | exact (un_bool3 (by assumption)).elim | skip
    go_ret
    exact ⟨rfl, HB4.out⟩
theorem parses_any (x y : Tx) (hx : x.length ≤ maxLen) (hy : y.length ≤ maxLen) (mx : Int) (w : World) (h00 : 0 < w.heap.size) (hm : w.cell? ⟨0, 0, none⟩ = some (.int .i64 mx)) : Calls Tryd.prog 3 #[encT x, encT y] w fun e w' => e = .returned (.bool true) ∧ Below w.heap.size w w' := by
  by_cases hE : (prR x).2 = 0
  · exact parses_ok x y hx hy hE mx w h00 hm
  · exact parses_bad x y hx hE mx w h00 hm
end Go.Proofs.YtgmbkelmgolkpaaDoor
