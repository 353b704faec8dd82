/- The chapter's grammar, read; what the methods answer of a nil grammar; Replay; what the law's alive and GrammarNils answer. -/
import Derived.Test.YtgmbkelmgolkpaaDoorGr
import Derived.Test.YtgmbkelmgolkpaaDoorGq
import Derived.Test.YtgmbkelmgolkpaaDoorGv
namespace Go.Proofs.YtgmbkelmgolkpaaDoor
open Go.RowKit Go.Maps
set_option linter.unusedVariables false

def exT : Tx := [69, 32, 45, 62, 32, 69, 32, 43, 32, 84, 32, 124, 32, 84, 10, 84, 32, 45, 62, 32, 84, 32, 42, 32, 70, 32, 124, 32, 70, 10, 70, 32, 45, 62, 32, 40, 32, 69, 32, 41, 32, 124, 32, 105, 100]
def exL : List (List Tx) := [[[69], [69], [43], [84]], [[69], [84]], [[84], [84], [42], [70]], [[84], [70]], [[70], [40], [69], [41]], [[70], [105, 100]]]
def exR : List (Nat × List Int) := [(6, [6, 0, 7]), (6, [7]), (7, [7, 1, 8]), (7, [8]), (8, [2, 6, 3]), (8, [4])]
def exTe : List Tx := [[43], [42], [40], [41], [105, 100]]
def exO : List Tx := [[69], [84], [70]]
set_option maxRecDepth 100000 in
theorem ex_lns : lnsS exT = [[69, 32, 45, 62, 32, 69, 32, 43, 32, 84, 32, 124, 32, 84], [84, 32, 45, 62, 32, 84, 32, 42, 32, 70, 32, 124, 32, 70], [70, 32, 45, 62, 32, 40, 32, 69, 32, 41, 32, 124, 32, 105, 100]] := by kernel_rfl
set_option maxRecDepth 100000 in
theorem ex_f1 : fldS [69, 32, 45, 62, 32, 69, 32, 43, 32, 84, 32, 124, 32, 84] = [[69], [45, 62], [69], [43], [84], [124], [84]] := by kernel_rfl
set_option maxRecDepth 100000 in
theorem ex_f2 : fldS [84, 32, 45, 62, 32, 84, 32, 42, 32, 70, 32, 124, 32, 70] = [[84], [45, 62], [84], [42], [70], [124], [70]] := by kernel_rfl
set_option maxRecDepth 100000 in
theorem ex_f3 : fldS [70, 32, 45, 62, 32, 40, 32, 69, 32, 41, 32, 124, 32, 105, 100] = [[70], [45, 62], [40], [69], [41], [124], [105, 100]] := by kernel_rfl
set_option maxRecDepth 100000 in
theorem ex_pars : parsL exT = exL := by
  unfold parsL
  rw [ex_lns]
  show rdTo _ 3 = _
  simp only [rdTo, List.getD_cons_zero, List.getD_cons_succ, ex_f1, ex_f2, ex_f3]
  kernel_rfl
set_option maxRecDepth 100000 in
theorem ex_g : prG exT = true := by
  unfold prG
  rw [ex_lns]
  unfold goodL
  simp only [List.length_cons, List.length_nil, Nat.zero_add, Nat.reduceAdd, List.range, List.range.loop, List.all_cons, List.all_nil, List.getD_cons_zero, List.getD_cons_succ, ex_f1, ex_f2, ex_f3]
  kernel_rfl
set_option maxRecDepth 100000 in
theorem ex_te : teS exL = exTe := by kernel_rfl
set_option maxRecDepth 100000 in
theorem ex_ot : otS exL = exO := by kernel_rfl
set_option maxRecDepth 100000 in
theorem ex_st : (vaF (nuF exTe exO) (stS exL)).toNat = 6 := by kernel_rfl
set_option maxRecDepth 100000 in
theorem ex_rn : exL.map (rnF (nuF exTe exO)) = exR := by kernel_rfl
set_option maxRecDepth 100000 in
theorem ex_ne : newE exTe exO (stS exL) exL = 0 := by kernel_rfl
/-- Sets of nine symbols: the terminals' own, and three. -/
def bF (a b c : Nat) : Nat → Nat := fun x => if x < 6 then 2 ^ x else if x = 6 then a else if x = 7 then b else if x = 8 then c else 0
def fF (a b c : Nat) : Nat → Nat := fun x => if x = 6 then a else if x = 7 then b else if x = 8 then c else 0
theorem bq_other (nul l : Nat) (r : List Int) (S : Nat → Nat) (x : Nat) (h : x ≠ l) : ∀ q, bqTo nul l r S q x = S x
  | 0 => rfl
  | q + 1 => by
    rw [bqTo]; split
    · unfold upd; rw [if_neg h, bq_other nul l r S x h q]
    · exact bq_other nul l r S x h q
theorem bp_other (R : List (Nat × List Int)) (nul : Nat) (S : Nat → Nat) (x : Nat) (h : ∀ r ∈ R, x ≠ r.1) : ∀ k, k ≤ R.length → bpTo R nul S k x = S x
  | 0, _ => rfl
  | k + 1, hk => by
    rw [bpTo, bq_other _ _ _ _ _ (h _ (by rw [List.getD_eq_getElem?_getD, List.getElem?_eq_getElem (show k < R.length by omega)]; exact List.getElem_mem _)), bp_other R nul S x h k (by omega)]
theorem bp_step {a b c a' b' c' : Nat} (h6 : bpTo exR 0 (bF a b c) 6 6 = a') (h7 : bpTo exR 0 (bF a b c) 6 7 = b') (h8 : bpTo exR 0 (bF a b c) 6 8 = c') : bpTo exR 0 (bF a b c) 6 = bF a' b' c' := by
  funext x
  by_cases e6 : x = 6
  · subst e6; exact h6
  by_cases e7 : x = 7
  · subst e7; exact h7
  by_cases e8 : x = 8
  · subst e8; exact h8
  rw [bp_other exR 0 _ x (by intro r hr; simp only [exR, List.mem_cons, List.mem_nil_iff, or_false] at hr; rcases hr with rfl | rfl | rfl | rfl | rfl | rfl <;> assumption) 6 (Nat.le_refl _)]
  unfold bF
  rw [if_neg e6, if_neg e7, if_neg e8, if_neg e6, if_neg e7, if_neg e8]
set_option maxRecDepth 100000 in
theorem bp1 : bpTo exR 0 (bF 0 0 0) 6 = bF 0 0 20 := bp_step (by kernel_rfl) (by kernel_rfl) (by kernel_rfl)
set_option maxRecDepth 100000 in
theorem bp2 : bpTo exR 0 (bF 0 0 20) 6 = bF 0 20 20 := bp_step (by kernel_rfl) (by kernel_rfl) (by kernel_rfl)
set_option maxRecDepth 100000 in
theorem bp3 : bpTo exR 0 (bF 0 20 20) 6 = bF 20 20 20 := bp_step (by kernel_rfl) (by kernel_rfl) (by kernel_rfl)
set_option maxRecDepth 100000 in
theorem bp4 : bpTo exR 0 (bF 20 20 20) 6 = bF 20 20 20 := bp_step (by kernel_rfl) (by kernel_rfl) (by kernel_rfl)
theorem bi_six : biS 6 = bF 0 0 0 := by
  funext x
  unfold biS bF
  by_cases h : x < 6
  · rw [if_pos h, if_pos h]
  · rw [if_neg h, if_neg h]; split; rfl; split; rfl; split <;> rfl
theorem bg_is {X : Nat → Nat} (h : BgIs exR 0 6 X) : X = bF 20 20 20 := by
  obtain ⟨j, h1, h2⟩ := h
  have hl : exR.length = 6 := rfl
  rw [bi_six] at h1
  rw [hl] at h2
  have i1 : bpIt exR 0 (bF 0 0 0) 1 = bF 0 0 20 := bp1
  have i2 : bpIt exR 0 (bF 0 0 0) 2 = bF 0 20 20 := by show bpTo exR 0 (bpIt exR 0 (bF 0 0 0) 1) 6 = _; rw [i1, bp2]
  have i3 : ∀ n, bpIt exR 0 (bF 0 0 0) (n + 3) = bF 20 20 20 := by
    intro n
    induction n with
    | zero => show bpTo exR 0 (bpIt exR 0 (bF 0 0 0) 2) 6 = _; rw [i2, bp3]
    | succ n ih => show bpTo exR 0 (bpIt exR 0 (bF 0 0 0) (n + 3)) 6 = _; rw [ih, bp4]
  rcases (show j = 0 ∨ j = 1 ∨ j = 2 ∨ ∃ n, j = n + 3 from by
    by_cases h : j < 3
    · omega
    · exact Or.inr (Or.inr (Or.inr ⟨j - 3, by omega⟩))) with rfl | rfl | rfl | ⟨n, rfl⟩
  · rw [h1] at h2; have := h2 8 (by omega); rw [show bpIt exR 0 (bF 0 0 0) 0 = bF 0 0 0 from rfl, bp1] at this; exact absurd this (by decide)
  · rw [h1, i1] at h2; have := h2 7 (by omega); rw [bp2] at this; exact absurd this (by decide)
  · rw [h1, i2] at h2; have := h2 6 (by omega); rw [bp3] at this; exact absurd this (by decide)
  · rw [h1, i3]
theorem ex_pr : prR exT = (0, 0) := by
  unfold prR prE
  rw [ex_g, ex_pars, ex_te, ex_ot, ex_ne]
  rfl
set_option maxRecDepth 100000 in
theorem gr_is {X : Nat} (h : GrIs exR 0 X) : X = 0 := by
  obtain ⟨j, h1, _⟩ := h
  have g0 : gpS exR 0 = 0 := by kernel_rfl
  have : ∀ n, gpIt exR 0 n = 0 := by
    intro n
    induction n with
    | zero => rfl
    | succ n ih => rw [gpIt, ih, g0]
  rw [h1, this]
set_option maxRecDepth 100000 in
theorem ut_nine : utS 9 = 511 := by kernel_rfl
set_option maxRecDepth 100000 in
theorem re_is {X : Nat} (h : ReIs exR (utS 9) (2 ^ 6) X) : X = 479 := by
  obtain ⟨j, h1, h2⟩ := h
  rw [ut_nine] at h1 h2
  have hl : exR.length = 6 := rfl
  rw [hl] at h2
  have r1 : rpTo exR 511 64 6 = 479 := by kernel_rfl
  have r2 : rpTo exR 511 479 6 = 479 := by kernel_rfl
  have : ∀ n, rpIt exR 511 64 (n + 1) = 479 := by
    intro n
    induction n with
    | zero => exact r1
    | succ n ih => show rpTo exR 511 (rpIt exR 511 64 (n + 1)) 6 = _; rw [ih, r2]
  cases j with
  | zero =>
    have hx : X = 64 := h1
    rw [hx, r1] at h2; exact absurd h2 (by decide)
  | succ n => exact h1.trans (this n)
theorem fq_other (T nul : Nat) (bg S : Nat → Nat) (nx x : Nat) : ∀ r : List Int, (∀ s ∈ r, T ≤ s.toNat → x ≠ s.toNat) → (fqL T nul bg S nx r).1 x = S x
  | [], _ => rfl
  | s :: r, h => by
    have ih := fq_other T nul bg S nx x r (fun s hs => h s (List.mem_cons_of_mem _ hs))
    rw [fqL]
    show (if T ≤ s.toNat then _ else _ : Nat → Nat) x = _
    split
    · next ht => unfold upd; rw [if_neg (h s List.mem_cons_self ht), ih]
    · exact ih
theorem fp_other (R : List (Nat × List Int)) (RE T nul : Nat) (bg S : Nat → Nat) (x : Nat) (h : ∀ r ∈ R, ∀ s ∈ r.2, T ≤ s.toNat → x ≠ s.toNat) : ∀ k, k ≤ R.length → fpTo R RE T nul bg S k x = S x
  | 0, _ => rfl
  | k + 1, hk => by
    have ih := fp_other R RE T nul bg S x h k (by omega)
    rw [fpTo]
    split
    · rw [fq_other _ _ _ _ _ _ _ (h _ (by rw [List.getD_eq_getElem?_getD, List.getElem?_eq_getElem (show k < R.length by omega)]; exact List.getElem_mem _)), ih]
    · exact ih
theorem fp_step {a b c a' b' c' : Nat} {bg : Nat → Nat} (h6 : fpTo exR 479 6 0 bg (fF a b c) 6 6 = a') (h7 : fpTo exR 479 6 0 bg (fF a b c) 6 7 = b') (h8 : fpTo exR 479 6 0 bg (fF a b c) 6 8 = c') : fpTo exR 479 6 0 bg (fF a b c) 6 = fF a' b' c' := by
  funext x
  by_cases e6 : x = 6
  · subst e6; exact h6
  by_cases e7 : x = 7
  · subst e7; exact h7
  by_cases e8 : x = 8
  · subst e8; exact h8
  have hall : ∀ r ∈ exR, ∀ s ∈ r.2, 6 ≤ s.toNat → s.toNat = 6 ∨ s.toNat = 7 ∨ s.toNat = 8 := by decide
  rw [fp_other exR 479 6 0 bg _ x (by
    intro r hr s hs h6
    rcases hall r hr s hs h6 with e | e | e
    · rw [e]; exact e6
    · rw [e]; exact e7
    · rw [e]; exact e8) 6 (Nat.le_refl _)]
  unfold fF
  rw [if_neg e6, if_neg e7, if_neg e8, if_neg e6, if_neg e7, if_neg e8]
set_option maxRecDepth 100000 in
theorem fp1 : fpTo exR 479 6 0 (bF 20 20 20) (fF 32 0 0) 6 = fF 41 35 35 := fp_step (by kernel_rfl) (by kernel_rfl) (by kernel_rfl)
set_option maxRecDepth 100000 in
theorem fp2 : fpTo exR 479 6 0 (bF 20 20 20) (fF 41 35 35) 6 = fF 41 43 43 := fp_step (by kernel_rfl) (by kernel_rfl) (by kernel_rfl)
set_option maxRecDepth 100000 in
theorem fp3 : fpTo exR 479 6 0 (bF 20 20 20) (fF 41 43 43) 6 = fF 41 43 43 := fp_step (by kernel_rfl) (by kernel_rfl) (by kernel_rfl)
theorem fo_six : foI 6 6 = fF 32 0 0 := by
  funext x
  unfold foI upd fF
  by_cases h : x = 6
  · rw [if_pos h, if_pos h]
  · rw [if_neg h, if_neg h]; split; rfl; split <;> rfl
theorem fo_is {X : Nat → Nat} (h : FoIs exR 9 6 6 0 (bF 20 20 20) X) : X = fF 41 43 43 := by
  obtain ⟨RE, j, h0, h1, h2⟩ := h
  have hre := re_is h0
  subst hre
  have hl : exR.length = 6 := rfl
  rw [fo_six] at h1
  rw [hl] at h2
  have i1 : fpIt exR 479 6 0 (bF 20 20 20) (fF 32 0 0) 1 = fF 41 35 35 := fp1
  have i2 : ∀ n, fpIt exR 479 6 0 (bF 20 20 20) (fF 32 0 0) (n + 2) = fF 41 43 43 := by
    intro n
    induction n with
    | zero => show fpTo exR 479 6 0 (bF 20 20 20) (fpIt exR 479 6 0 (bF 20 20 20) (fF 32 0 0) 1) 6 = _; rw [i1, fp2]
    | succ n ih => show fpTo exR 479 6 0 (bF 20 20 20) (fpIt exR 479 6 0 (bF 20 20 20) (fF 32 0 0) (n + 2)) 6 = _; rw [ih, fp3]
  rcases (show j = 0 ∨ j = 1 ∨ ∃ n, j = n + 2 from by
    by_cases h : j < 2
    · omega
    · exact Or.inr (Or.inr ⟨j - 2, by omega⟩)) with rfl | rfl | ⟨n, rfl⟩
  · rw [h1] at h2; have := h2 6 (by omega); rw [show fpIt exR 479 6 0 (bF 20 20 20) (fF 32 0 0) 0 = fF 32 0 0 from rfl, fp1] at this; exact absurd this (by decide)
  · rw [h1, i1] at h2; have := h2 7 (by omega); rw [fp2] at this; exact absurd this (by decide)
  · rw [h1, i2]
theorem ex_gf {w w' : World} {e : Ending} (h : PrIs exT w w' e) : ∃ p, e = .returned (.tuple #[.pointer (some ⟨p, 0, none⟩), .int .i64 0, .int .i64 0]) ∧ w.heap.size ≤ p ∧ GfAt w' p exTe exO 6 exR 0 (bF 20 20 20) (fF 41 43 43) ∧ Below w.heap.size w w' := by
  obtain ⟨_, h2, h3⟩ := h
  obtain ⟨p, nul, bg, fo, e1, e2, e3⟩ := h2 (by rw [ex_pr])
  rw [ex_pars, ex_te, ex_ot, ex_st, ex_rn] at e3
  have g1 := gr_is e3.gr
  subst g1
  have g2 := bg_is e3.bs
  subst g2
  have g3 := fo_is e3.fs
  subst g3
  exact ⟨p, e1, e2, e3, h3⟩
set_option maxRecDepth 100000 in
theorem ex_li1 : liTo 20 128 = [2, 4] := by kernel_rfl
set_option maxRecDepth 100000 in
theorem ex_li2 : liTo 43 128 = [0, 1, 3, 5] := by kernel_rfl
set_option maxRecDepth 100000 in
theorem ex_try : tryE 6 exR 6 [1, 3, 5] = 0 := by kernel_rfl
set_option maxRecDepth 100000 in
theorem ex_dv : dvS 6 exR 6 [1, 3, 5] = [4] := by kernel_rfl
set_option maxRecDepth 100000 in
theorem name_nil (x : Int) (w : World) : Calls Tryd.prog 53 #[.pointer none, .int .i64 x] w fun e w' => e = .returned (.tuple #[.string ⟨#[]⟩, .bool false]) ∧ Below w.heap.size w w' := by
  go_enter Tryd.func53, Tryd.ntmps53
  go_wp2_with (go_at_call 63; refine (has_nil x _).mono ?_; rintro e w2 ⟨rfl, rfl⟩)
  refine bodyPost_ret (v := .tuple #[.string ⟨#[]⟩, .bool false]) (by simp [results, Tryd.results53, go_sem]) rfl ?_
  exact ⟨rfl, Below.refl _ _⟩
set_option maxRecDepth 100000 in
theorem least_nil (x : Int) (w : World) : Calls Tryd.prog 28 #[.pointer none, .int .i64 x] w fun e w' => e = .returned (.tuple #[.slice none 0 0, .bool false]) ∧ Below w.heap.size w w' := by
  go_enter Tryd.func28, Tryd.ntmps28
  go_wp2_with (go_at_call 63; refine (has_nil x _).mono ?_; rintro e w2 ⟨rfl, rfl⟩)
  refine bodyPost_ret (v := .tuple #[.slice none 0 0, .bool false]) (by simp [results, Tryd.results28, go_sem]) rfl ?_
  exact ⟨rfl, Below.refl _ _⟩
set_option maxRecDepth 100000 in
theorem find_nil (x : Tx) (w : World) : Calls Tryd.prog 13 #[.pointer none, encT x] w fun e w' => e = .returned (.tuple #[.int .i64 0, .bool false]) ∧ Below w.heap.size w w' := by
  go_enter Tryd.func13, Tryd.ntmps13
  go_wp2_with fail
  refine bodyPost_ret (v := .tuple #[.int .i64 0, .bool false]) (by simp [results, Tryd.results13, go_sem]) rfl ?_
  exact ⟨rfl, Below.refl _ _⟩
set_option maxRecDepth 100000 in
theorem text_nil (w : World) : Calls Tryd.prog 51 #[.pointer none] w fun e w' => e = .returned (.string ⟨#[]⟩) ∧ Below w.heap.size w w' := by
  go_enter Tryd.func51, Tryd.ntmps51
  go_wp2_with fail
  refine bodyPost_ret (v := .string ⟨#[]⟩) (by simp [results, Tryd.results51, go_sem]) rfl ?_
  exact ⟨rfl, Below.refl _ _⟩
set_option maxRecDepth 100000 in
theorem rules_nil (w : World) : Calls Tryd.prog 32 #[.pointer none] w fun e w' => e = .returned (.slice none 0 0) ∧ Below w.heap.size w w' := by
  go_enter Tryd.func32, Tryd.ntmps32
  go_wp2_with fail
  refine bodyPost_ret (v := .slice none 0 0) (by simp [results, Tryd.results32, go_sem]) rfl ?_
  exact ⟨rfl, Below.refl _ _⟩
set_option maxRecDepth 100000 in
theorem of_nil (x : Int) (w : World) : Calls Tryd.prog 55 #[.pointer none, .int .i64 x] w fun e w' => e = .returned (.slice none 0 0) ∧ Below w.heap.size w w' := by
  go_enter Tryd.func55, Tryd.ntmps55
  go_wp2_with fail
  refine bodyPost_ret (v := .slice none 0 0) (by simp [results, Tryd.results55, go_sem]) rfl ?_
  exact ⟨rfl, Below.refl _ _⟩
set_option maxRecDepth 100000 in
theorem useless_nil (w : World) : Calls Tryd.prog 25 #[.pointer none] w fun e w' => e = .returned (.slice none 0 0) ∧ Below w.heap.size w w' := by
  go_enter Tryd.func25, Tryd.ntmps25
  go_wp2_with fail
  refine bodyPost_ret (v := .slice none 0 0) (by simp [results, Tryd.results25, go_sem]) rfl ?_
  exact ⟨rfl, Below.refl _ _⟩
set_option maxRecDepth 100000 in
theorem replay_nil (v : Value) (w : World) : Calls Tryd.prog 30 #[.pointer none, v] w fun e w' => e = .returned (.tuple #[.slice none 0 0, .int .i64 2]) ∧ Below w.heap.size w w' := by
  go_enter Tryd.func30, Tryd.ntmps30
  go_wp2_with fail
  refine bodyPost_ret (v := .tuple #[.slice none 0 0, .int .i64 2]) (by simp [results, Tryd.results30, go_sem]) rfl ?_
  exact ⟨rfl, Below.refl _ _⟩
set_option maxRecDepth 100000 in
set_option maxHeartbeats 1600000 in
theorem first_nil (x : Int) (g : Nat) (w : World) (hc : w.cell? ⟨g, 0, none⟩ = some (.int .i64 x)) : Calls Tryd.prog 21 #[.pointer none, .slice (some ⟨g, 0, none⟩) 1 1] w fun e w' => e = .returned (.slice none 0 0) ∧ Below w.heap.size w w' := by
  have HHA := hidD (has_nil x w)
  go_enter Tryd.func21, Tryd.ntmps21
  go_wp2_with fail
  go_loopw [12] (fun i wr => i = .int .i64 0 ∧ wr = w) (fun i _ => 1 - (intOf i).toNat)
  case atStart => exact ⟨rfl, rfl⟩
  case round =>
    obtain ⟨rfl, hw⟩ := hrel
    subst wr
    go_wp2_with (go_at_call 63; refine HHA.out.mono ?_; rintro e w2 ⟨rfl, hw⟩; subst w2)
    go_ret
    exact ⟨rfl, Below.refl _ _⟩
set_option maxRecDepth 100000 in
set_option maxHeartbeats 1600000 in
theorem replay_any {p : Nat} (R : List (Nat × List Int)) (n : Nat) (hR : RuOk R n) (hRl : R.length ≤ 1048576) (T : Nat) (hTb : T ≤ 128) (st : Nat) (hst : T ≤ st) (hsb : st < 128) (l : List Int) (hll : l.length ≤ 1099511627776) (ht : tryE T R st l = 0) (hfit : ∀ j, j < l.length → fitS T R st l j = true) (hsz : ∀ j, j ≤ l.length → szTo R l j ≤ 1048576) (h1 : 1 ≤ (dvS T R st l).length) (v vr : Value) (w : World) (hp : p < w.heap.size) (hpt : w.cell? ⟨p, 2, none⟩ = some (.int .i64 (T : Int))) (hps : w.cell? ⟨p, 3, none⟩ = some (.int .i64 (st : Int))) (hpc : w.cell? ⟨p, 4, none⟩ = some vr) (hr : RuAt w vr R) (hl : IlAt w v l) : Calls Tryd.prog 30 #[.pointer (some ⟨p, 0, none⟩), v] w fun e w' => ∃ u, e = .returned (.tuple #[u, .int .i64 0]) ∧ IlAt w' u (dvS T R st l) ∧ Below w.heap.size w w' := by
  have HTR := hidD (tryRules_any R n hR hRl T hTb st l hll v vr w hp hpt hps hpc hr hl)
  rw [ht] at HTR
  have HDE := hidD (fun w' (hb : Below w.heap.size w w') => derived_any R n hR hRl T hTb st hst hsb l hll hfit hsz h1 v vr w' (Nat.lt_of_lt_of_le hp hb.size) ((hb.cell (p := ⟨p, 2, none⟩) hp).trans hpt) ((hb.cell (p := ⟨p, 3, none⟩) hp).trans hps) ((hb.cell (p := ⟨p, 4, none⟩) hp).trans hpc) (hr.next hb) (hl.next hb))
  obtain ⟨al, cl, rfl, hl2⟩ := hl
  clear hl2 hr hpc hps hpt hfit hsz h1 ht hR
  generalize hLn : l.length = ln at *
  clear hLn
  go_enter Tryd.func30, Tryd.ntmps30
  go_wp2_with first
    | (go_at_call 83; refine HTR.out.mono ?_; rintro e w2 ⟨rfl, hb⟩; have HB := hidD hb; clear hb)
    | (go_at_call 84; refine (HDE.out _ HB.out).mono ?_; rintro e w3 ⟨u3, rfl, hi, hb⟩; have HI := hidD hi; have HB3 := hidD (Below.next HB.out hb); clear hi hb)
  refine bodyPost_ret (v := .tuple #[u3, .int .i64 0]) (by simp [results, Tryd.results30, go_sem]) rfl ?_
  exact ⟨_, rfl, HI.out, HB3.out⟩
set_option maxRecDepth 100000 in
theorem ex_replay {w : World} {p : Nat} (h : GfAt w p exTe exO 6 exR 0 (bF 20 20 20) (fF 41 43 43)) {v : Value} (hl : IlAt w v [1, 3, 5]) : Calls Tryd.prog 30 #[.pointer (some ⟨p, 0, none⟩), v] w fun e w' => ∃ u, e = .returned (.tuple #[u, .int .i64 0]) ∧ IlAt w' u [4] ∧ Below w.heap.size w w' := by
  obtain ⟨cs, h1, _, _, h2, h3, ⟨vr, h4, h5⟩, _⟩ := h.cs
  have := replay_any exR 9 h.ok (by decide) 6 (by decide) 6 (by decide) (by decide) [1, 3, 5] (by decide) ex_try (by decide) (by decide) (by rw [ex_dv]; decide) v vr w h1.lt (by rw [h1.cell]; exact h2) (by rw [h1.cell]; exact h3) (by rw [h1.cell]; exact h4) h5 hl
  rw [ex_dv] at this
  exact this
theorem il_new {w : World} {l : List Int} (hl : l.length ≤ 1000) : IlAt (w.alloc (.cells (l.map encI).toArray (3 : TypeId))) (.slice (some ⟨w.heap.size, 0, none⟩) l.length l.length) l := by
  have hc : (w.alloc (.cells (l.map encI).toArray (3 : TypeId))).heap[w.heap.size]? = some (.cells (l.map encI).toArray (3 : TypeId) (0, 0)) := heap_alloc_new _ _
  generalize w.alloc (.cells (l.map encI).toArray (3 : TypeId)) = w2 at *
  refine ⟨_, l.length, rfl, Nat.le_refl _, by omega, fun k hk => ⟨w.heap.size, 0, rfl, row_lt hc, (cell_of_row _ _ _ _ _ _ hc).trans ?_⟩⟩
  rw [Nat.zero_add, List.getElem?_toArray, List.getElem?_map, List.getElem?_eq_getElem hk, List.getD_eq_getElem?_getD, List.getElem?_eq_getElem hk]
  rfl
theorem ex_terms {w : World} {p : Nat} (h : GfAt w p exTe exO 6 exR 0 (bF 20 20 20) (fF 41 43 43)) : Calls Tryd.prog 35 #[.pointer (some ⟨p, 0, none⟩)] w fun e w' => e = .returned (.int .i64 6) ∧ w' = w := terminals_any w h.gm
theorem ex_start {w : World} {p : Nat} (h : GfAt w p exTe exO 6 exR 0 (bF 20 20 20) (fF 41 43 43)) : Calls Tryd.prog 34 #[.pointer (some ⟨p, 0, none⟩)] w fun e w' => e = .returned (.int .i64 6) ∧ w' = w := start_any w h.gm
theorem ex_first {w : World} {p : Nat} (h : GfAt w p exTe exO 6 exR 0 (bF 20 20 20) (fF 41 43 43)) {v : Value} (hl : IlAt w v [6]) : Calls Tryd.prog 21 #[.pointer (some ⟨p, 0, none⟩), v] w fun e w' => ∃ u, e = .returned u ∧ IlAt w' u [2, 4] ∧ Below w.heap.size w w' := by
  have := first_any [6] (by decide) (fun k hk => by
    have hk2 : k < 1 := hk
    obtain rfl : k = 0 := by omega
    rfl) v w h.gm hl
  rw [show fiS (gsOf exTe exO 6 0 (bF 20 20 20) (fF 41 43 43)) [6] = 20 from by kernel_rfl, ex_li1] at this
  exact this
theorem ex_follow {w : World} {p : Nat} (h : GfAt w p exTe exO 6 exR 0 (bF 20 20 20) (fF 41 43 43)) : Calls Tryd.prog 23 #[.pointer (some ⟨p, 0, none⟩), .int .i64 8] w fun e w' => ∃ u, e = .returned u ∧ IlAt w' u [0, 1, 3, 5] ∧ Below w.heap.size w w' := by
  have := follow_any 8 (by decide) w h.gm
  rw [show (gsOf exTe exO 6 0 (bF 20 20 20) (fF 41 43 43)).fo 8 = 43 from by kernel_rfl, ex_li2] at this
  exact this
theorem ex_null1 {w : World} {p : Nat} (h : GfAt w p exTe exO 6 exR 0 (bF 20 20 20) (fF 41 43 43)) {v : Value} (hl : IlAt w v [6]) : Calls Tryd.prog 18 #[.pointer (some ⟨p, 0, none⟩), v] w fun e w' => e = .returned (.bool false) ∧ Below w.heap.size w w' := by
  have := nullable_any [6] (by decide) v w h.gm hl
  rw [show ([6] : List Int).all (nulS (gsOf exTe exO 6 0 (bF 20 20 20) (fF 41 43 43))) = false from by kernel_rfl] at this
  exact this
theorem ex_null2 {w : World} {p : Nat} (h : GfAt w p exTe exO 6 exR 0 (bF 20 20 20) (fF 41 43 43)) : Calls Tryd.prog 18 #[.pointer (some ⟨p, 0, none⟩), .slice none 0 0] w fun e w' => e = .returned (.bool true) ∧ Below w.heap.size w w' :=
  nullable_any [] (by decide) _ w h.gm (IlAt.nil w)
theorem ex_ints {w : World} {u v : Value} {x : List Int} (hx : x.length ≤ 1000) (hu : IlAt w u x) (hv : IlAt w v x) : Calls Tryd.prog 20 #[u, v] w fun e w' => e = .returned (.bool true) ∧ Below w.heap.size w w' := by
  have := ints_any x x (by omega) u v w hu hv
  rw [decide_eq_true (rfl : x = x)] at this
  exact this
theorem bel_al (w : World) (o : Obj) : Below w.heap.size w (w.alloc o) := (Below.refl _ _).alloc (Nat.le_refl _) o
set_option maxRecDepth 100000 in
set_option maxHeartbeats 800000 in
theorem alive_any (mx : Int) (w : World) (h00 : 0 < w.heap.size) (hm : w.cell? ⟨0, 0, none⟩ = some (.int .i64 mx)) : Calls Tryd.prog 12 #[] w fun e w' => e = .returned (.bool true) ∧ Below w.heap.size w w' := by
  have HPA := hidD (parse_any exT (by decide) mx w h00 hm)
  clear hm
  go_enter Tryd.func12, Tryd.ntmps12
  go_wp2_with first
    | (go_at_call 9; refine HPA.out.mono ?_; intro e w2 h2; obtain ⟨p, rfl, hp, hg, hb⟩ := ex_gf h2; have HG2 := hidD hg; have HB2 := hidD hb; clear h2 hg hb hp)
    | (go_at_call 30; refine (ex_replay (HG2.out.next (bel_al _ _)) (il_new (l := [1, 3, 5]) (by decide))).mono ?_; rintro e w3 ⟨u3, rfl, hl, hb⟩; have HB23 := hidD (Below.next (bel_al _ _) hb); have HB3 := hidD (Below.next HB2.out HB23.out); have HG3 := hidD (HG2.out.next HB23.out); have HL3 := hidD hl; clear hl hb)
    | (go_at_call 35; refine (ex_terms HG3.out).mono ?_; rintro e w4 ⟨rfl, rfl⟩)
    | (go_at_call 34; refine (ex_start HG3.out).mono ?_; rintro e w4 ⟨rfl, rfl⟩)
    | (go_at_call 21; refine (ex_first (HG3.out.next (bel_al _ _)) (il_new (l := [6]) (by decide))).mono ?_; rintro e w5 ⟨u5, rfl, hl, hb⟩; have HB35 := hidD (Below.next (bel_al _ _) hb); have HB5 := hidD (Below.next HB3.out HB35.out); have HG5 := hidD (HG3.out.next HB35.out); have HL5 := hidD hl; have HL3 := hidD (HL3.out.next HB35.out); clear hl hb)
    | (go_at_call 20; refine (ex_ints (by decide) (HL5.out.next (bel_al _ _)) (il_new (l := [2, 4]) (by decide))).mono ?_; rintro e w6 ⟨rfl, hb⟩; have HB56 := hidD (Below.next (bel_al _ _) hb); have HB6 := hidD (Below.next HB5.out HB56.out); have HG6 := hidD (HG5.out.next HB56.out); have HL3 := hidD (HL3.out.next HB56.out); clear hb HL5 HG5)
    | (go_at_call 23; refine (ex_follow HG6.out).mono ?_; rintro e w7 ⟨u7, rfl, hl, hb⟩; have HB7 := hidD (Below.next HB6.out hb); have HG7 := hidD (HG6.out.next hb); have HL7 := hidD hl; have HL3 := hidD (HL3.out.next hb); clear hl hb)
    | (go_at_call 20; refine (ex_ints (by decide) (HL7.out.next (bel_al _ _)) (il_new (l := [0, 1, 3, 5]) (by decide))).mono ?_; rintro e w8 ⟨rfl, hb⟩; have HB78 := hidD (Below.next (bel_al _ _) hb); have HB8 := hidD (Below.next HB7.out HB78.out); have HG8 := hidD (HG7.out.next HB78.out); have HL3 := hidD (HL3.out.next HB78.out); clear hb HL7 HG7)
    | (go_at_call 18; refine (ex_null1 (HG8.out.next (bel_al _ _)) (il_new (l := [6]) (by decide))).mono ?_; rintro e w9 ⟨rfl, hb⟩; have HB89 := hidD (Below.next (bel_al _ _) hb); have HB9 := hidD (Below.next HB8.out HB89.out); have HG9 := hidD (HG8.out.next HB89.out); have HL3 := hidD (HL3.out.next HB89.out); clear hb HG8)
    | (go_at_call 18; refine (ex_null2 HG9.out).mono ?_; rintro e w10 ⟨rfl, hb⟩; have HB10 := hidD (Below.next HB9.out hb); have HL3 := hidD (HL3.out.next hb); clear hb)
    | (go_at_call 20; refine (ex_ints (by decide) (HL3.out.next (bel_al _ _)) (il_new (l := [4]) (by decide))).mono ?_; rintro e w11 ⟨rfl, hb⟩; have HB11 := hidD (Below.next HB10.out (Below.next (bel_al _ _) hb)); clear hb)
  refine bodyPost_ret (v := .bool true) (by simp [results, Tryd.results12, go_sem]) rfl ?_
  exact ⟨rfl, HB11.out⟩
set_option maxRecDepth 100000 in
theorem find_nilB (b : ByteArray) (w : World) : Calls Tryd.prog 13 #[.pointer none, .string b] w fun e w' => e = .returned (.tuple #[.int .i64 0, .bool false]) ∧ Below w.heap.size w w' := by
  go_enter Tryd.func13, Tryd.ntmps13
  go_wp2_with fail
  refine bodyPost_ret (v := .tuple #[.int .i64 0, .bool false]) (by simp [results, Tryd.results13, go_sem]) rfl ?_
  exact ⟨rfl, Below.refl _ _⟩
theorem cell_one (w : World) (x : Int) : (w.alloc (.cells #[.int .i64 x] (3 : TypeId))).cell? ⟨w.heap.size, 0, none⟩ = some (.int .i64 x) := (cell_of_row _ _ _ _ _ _ (heap_alloc_new w (.cells #[.int .i64 x] (3 : TypeId)))).trans rfl
end Go.Proofs.YtgmbkelmgolkpaaDoor
