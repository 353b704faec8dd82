/- What split and Split answer: what a line is. -/
import Derived.Test.YtpemajghaceegaaGreatDoorHxm
import Derived.Test.YtpemajghaceegaaGreatDoorHxn
namespace Go.Proofs.YtpemajghaceegaaGreatDoor
open Go.RowKit
set_option linter.unusedVariables false

/- what is told of a line -/
def LnIs (r : Res) (e : Ending) (w w' : World) : Prop :=
  Below w.heap.size w w' ∧ match r with
    | .error n => e = .returned (.tuple #[.int .i64 0, .agg #[.int .i64 0, .int .i64 0, .slice none 0 0], .int .i64 (n : Int)])
    | .ok (f, k, a, d) => ∃ v, e = .returned (.tuple #[.int .i64 (f : Int), .agg #[.int .i64 (k : Int), .int .i64 (a : Int), v], .int .i64 0]) ∧ ByAt w' v d ∧ NewV w.heap.size v
def finR (f : Nat) : Raw → Res
  | .error n => .error n
  | .ok (k, a, d) => finS f k a d
theorem int_raw (b : List UInt8) : intS b = finR 1 (intR b) := by
  unfold intS intR
  split
  · rfl
  · split <;> rfl
theorem mot_raw (k : Nat) (b : List UInt8) : motS k b = finR 2 (motR k b) := by
  unfold motS motR
  split
  · rfl
  · split <;> rfl
theorem mos_raw (b : List UInt8) : mosS b = finR 3 (mosR b) := by
  unfold mosS mosR
  split
  · rfl
  · split <;> rfl
def intL (t : List UInt8) : Raw := match unS t with
  | none => .error 210
  | some b => intR b
def mosL (t : List UInt8) : Raw := match unS t with
  | none => .error 210
  | some b => mosR b
theorem line_int (t : List UInt8) : lineS (58 :: t) = finR 1 (intL t) := by
  unfold intL
  have e : lineS (58 :: t) = (match unS t with | none => .error 210 | some b => intS b) := rfl
  rw [e]
  cases unS t with
  | none => rfl
  | some b => exact int_raw b
theorem line_mos (t : List UInt8) : lineS (59 :: t) = finR 3 (mosL t) := by
  unfold mosL
  have e : lineS (59 :: t) = (match unS t with | none => .error 210 | some b => mosS b) := rfl
  rw [e]
  cases unS t with
  | none => rfl
  | some b => exact mos_raw b
theorem line_mot (t : List UInt8) : lineS (83 :: t) = finR 2 (motL t) := by
  cases t with
  | nil => rfl
  | cons k u =>
    have e : lineS (83 :: k :: u) = if k = 48 ∨ k = 49 ∨ k = 53 ∨ k = 57 then (match unS u with | none => .error 210 | some b => motS (k.toNat - 48) b) else .error 210 := rfl
    have e2 : motL (k :: u) = if k = 48 ∨ k = 49 ∨ k = 53 ∨ k = 57 then (match unS u with | none => .error 210 | some b => motR (k.toNat - 48) b) else .error 210 := rfl
    rw [e, e2]
    by_cases hk : k = 48 ∨ k = 49 ∨ k = 53 ∨ k = 57
    · rw [if_pos hk, if_pos hk]
      cases unS u with
      | none => rfl
      | some b => exact mot_raw _ b
    · rw [if_neg hk, if_neg hk]; rfl
theorem line_no {c : UInt8} {t : List UInt8} (h1 : c ≠ 58) (h2 : c ≠ 83) (h3 : c ≠ 59) : lineS (c :: t) = .error 210 := by
  have e : lineS (c :: t) = if c = 58 then (match unS t with | none => .error 210 | some b => intS b) else if c = 83 then (match t with | [] => .error 210 | k :: u => if k = 48 ∨ k = 49 ∨ k = 53 ∨ k = 57 then (match unS u with | none => .error 210 | some b => motS (k.toNat - 48) b) else .error 210) else if c = 59 then (match unS t with | none => .error 210 | some b => mosS b) else .error 210 := rfl
  rw [e, if_neg h1, if_neg h2, if_neg h3]
/- an error of a line is none of nought -/
theorem raw_err {b : List UInt8} {n : Nat} : (intR b = .error n → n = 210 ∨ n = 211) ∧ (∀ k, motR k b = .error n → n = 210 ∨ n = 211) ∧ (mosR b = .error n → n = 210 ∨ n = 211) := by
  refine ⟨fun h => ?_, fun k h => ?_, fun h => ?_⟩
  · unfold intR at h
    split at h
    · cases h; exact .inl rfl
    · split at h
      · cases h; exact .inr rfl
      · cases h
  · unfold motR at h
    split at h
    · cases h; exact .inl rfl
    · split at h
      · cases h; exact .inr rfl
      · cases h
  · unfold mosR at h
    split at h
    · cases h; exact .inl rfl
    · split at h
      · cases h; exact .inr rfl
      · cases h
theorem match_err {u : Option (List UInt8)} {R : List UInt8 → Raw} {n : Nat} (hR : ∀ b n, R b = .error n → n = 210 ∨ n = 211) (h : (match u with | none => (Except.error 210 : Raw) | some b => R b) = .error n) : n = 210 ∨ n = 211 := by
  cases u with
  | none => cases h; exact .inl rfl
  | some b => exact hR b n h
theorem motL_err {t : List UInt8} {n : Nat} (h : motL t = .error n) : n = 210 ∨ n = 211 := by
  cases t with
  | nil => cases h; exact .inl rfl
  | cons k u =>
    have e2 : motL (k :: u) = if k = 48 ∨ k = 49 ∨ k = 53 ∨ k = 57 then (match unS u with | none => .error 210 | some b => motR (k.toNat - 48) b) else .error 210 := rfl
    rw [e2] at h
    by_cases hk : k = 48 ∨ k = 49 ∨ k = 53 ∨ k = 57
    · rw [if_pos hk] at h
      exact match_err (fun b n hb => raw_err.2.1 _ hb) h
    · rw [if_neg hk] at h; cases h; exact .inl rfl
theorem raw_len {b : List UInt8} : (∀ k a d, intR b = .ok (k, a, d) → d.length ≤ b.length) ∧ (∀ q k a d, motR q b = .ok (k, a, d) → d.length ≤ b.length) ∧ (∀ k a d, mosR b = .ok (k, a, d) → d.length ≤ b.length) := by
  refine ⟨fun k a d h => ?_, fun q k a d h => ?_, fun k a d h => ?_⟩
  · unfold intR at h
    split at h
    · cases h
    · split at h
      · cases h
      · cases h; simp; omega
  · unfold motR at h
    split at h
    · cases h
    · split at h
      · cases h
      · cases h; simp; omega
  · unfold mosR at h
    split at h
    · cases h
    · split at h
      · cases h
      · cases h; simp; omega
theorem lenL {t : List UInt8} {k a : Nat} {d : List UInt8} : (intL t = .ok (k, a, d) → d.length ≤ t.length) ∧ (motL t = .ok (k, a, d) → d.length ≤ t.length) ∧ (mosL t = .ok (k, a, d) → d.length ≤ t.length) := by
  refine ⟨fun h => ?_, fun h => ?_, fun h => ?_⟩
  · unfold intL at h
    cases hu : unS t with
    | none => rw [hu] at h; cases h
    | some b => rw [hu] at h; have := un_len t b hu; have := raw_len.1 k a d h; omega
  · cases t with
    | nil => cases h
    | cons q u =>
      have e2 : motL (q :: u) = if q = 48 ∨ q = 49 ∨ q = 53 ∨ q = 57 then (match unS u with | none => .error 210 | some b => motR (q.toNat - 48) b) else .error 210 := rfl
      rw [e2] at h
      by_cases hk : q = 48 ∨ q = 49 ∨ q = 53 ∨ q = 57
      · rw [if_pos hk] at h
        cases hu : unS u with
        | none => rw [hu] at h; cases h
        | some b => rw [hu] at h; have := un_len u b hu; have := raw_len.2.1 _ k a d h; simp; omega
      · rw [if_neg hk] at h; cases h
  · unfold mosL at h
    cases hu : unS t with
    | none => rw [hu] at h; cases h
    | some b => rw [hu] at h; have := un_len t b hu; have := raw_len.2.2 k a d h; omega
theorem by_putR {w : World} {r n c : Nat} {va : Option Addr} {l : List UInt8} {x y z : Value} (h : ByAt w (.slice va n c) l) (hne : ∀ g o, va = some ⟨g, o, none⟩ → 0 < n → g ≠ r) : ByAt (((w.setCell ⟨r, 0, none⟩ x).setCell ⟨r, 1, none⟩ y).setCell ⟨r, 2, none⟩ z) (.slice va n c) l := by
  obtain ⟨a', cap', e, h1, h2, h3, h4⟩ := h
  cases e
  refine ⟨_, c, rfl, h1, h2, h3, fun k hk => ?_⟩
  obtain ⟨g', o', e, hg, hc⟩ := h4 k hk
  have hne' := hne g' o' e (by omega)
  refine ⟨g', o', e, by simpa using hg, ?_⟩
  simp only [World.cell?, heap_setCell_other _ ⟨r, 2, none⟩ g' _ hne', heap_setCell_other _ ⟨r, 1, none⟩ g' _ hne', heap_setCell_other _ ⟨r, 0, none⟩ g' _ hne']
  exact hc
theorem fin_ok {f k a : Nat} {d : List UInt8} (h : mayS f k a d = true) : finR f (.ok (k, a, d)) = .ok (f, k, a, d) := if_pos h
theorem fin_no {f k a : Nat} {d : List UInt8} (h : mayS f k a d = false) : finR f (.ok (k, a, d)) = .error 210 := if_neg (by rw [h]; exact Bool.false_ne_true)
theorem ByAt.max {w : World} {v : Value} {l : List UInt8} (h : ByAt w v l) : l.length ≤ 9223372036854775807 := by
  obtain ⟨a, cap, _, h1, h2, _⟩ := h
  omega
theorem tab_cells {w : World} {g : Nat} (h : TabAt w g) (j : Nat) : w.cell? ⟨g, j, none⟩ = (fmL 0 ++ fmL 1 ++ fmL 2 ++ fmL 3)[j]? := by
  rw [cell_of_row _ _ _ _ _ _ h, List.getElem?_toArray]
set_option maxRecDepth 100000 in
set_option maxHeartbeats 3200000 in
theorem splitIntelL_any (t : List UInt8) (ht : t.length ≤ 140737488355000) (g : Nat) (w : World) (hT : TabAt w g) :
    Calls Tryz.prog 42 #[.slice (some ⟨g, 0, none⟩) 4 4, .string (bA (58 :: t))] w fun e w' => LnIs (lineS (58 :: t)) e w w' := by
  rw [line_int]
  have HFO := hidD (fun w => formatOf_any (58 :: t) (by simp; omega) w)
  change Hid (∀ w, Calls _ _ _ w fun e w' => e = .returned (.int .i64 1) ∧ w' = w) at HFO
  have HIF := hidD (fun w => isFormat_any 1 w)
  change Hid (∀ w, Calls _ _ _ w fun e w' => e = .returned (.bool true) ∧ w' = w) at HIF
  have HSP := hidD (fun w => splitIntel_any 58 t ht w)
  change Hid (∀ w, Calls _ _ _ w fun e w' => SpIs (intL t) e w w') at HSP
  have HER : Hid (∀ n, intL t = .error n → n = 210 ∨ n = 211) := fun n hr => match_err (fun b n hb => raw_err.1 hb) hr
  have HLE : Hid (∀ k a d, intL t = .ok (k, a, d) → d.length ≤ 140737488355328) := fun k a d h => by have := lenL.1 h; omega
  have HHA := hidD (fun (K A : Int) (v : Value) (d : List UInt8) (hd : d.length ≤ 140737488355328) (w : World) (h : ByAt w v d) => hasIntel_any K A v d (by omega) w h)
  have HTB := hidD hT
  have HTG := hidD (row_lt hT)
  have HBX := hidD (heap_alloc_last w (.cells #[.int .i64 0, .int .i64 0, .slice none 0 0] (80 : TypeId)))
  have HB1 := hidD ((Below.refl w.heap.size w).alloc (Nat.le_refl _) (.cells #[.int .i64 0, .int .i64 0, .slice none 0 0] (80 : TypeId)))
  obtain ⟨hz, hsz3⟩ := zero_of_info Tryz.zeroRec
  clear hT
  generalize bA (58 :: t) = s at *
  obtain ⟨r, HRW⟩ : ∃ r, Hid (intL t = r) := ⟨_, rfl⟩
  rw [HRW.out] at HER HSP HLE ⊢
  go_enter Tryz.func42, Tryz.ntmps42
  go_wp2_with fail
  have HT1 := hidD (HTB.out.next HB1.out)
  generalize w.alloc (.cells #[.int .i64 0, .int .i64 0, .slice none 0 0] (80 : TypeId)) = W1 at *
  go_at_call 56
  refine (HFO.out _).mono ?_
  rintro e w2 ⟨rfl, hw2⟩
  subst w2
  go_wp2_with fail
  go_at_call 36
  refine (HIF.out _).mono ?_
  rintro e w2 ⟨rfl, hw2⟩
  subst w2
  have t0 := tab_cells HT1.out 9
  have t1 := tab_cells HT1.out 10
  have t2 := tab_cells HT1.out 11
  have t3 := tab_cells HT1.out 12
  have t4 := tab_cells HT1.out 13
  have t5 := tab_cells HT1.out 14
  have t6 := tab_cells HT1.out 15
  have t7 := tab_cells HT1.out 16
  have t8 := tab_cells HT1.out 17
  simp only [fmL, fnV, List.cons_append, List.nil_append, List.getElem?_cons_succ, List.getElem?_cons_zero] at t0 t1 t2 t3 t4 t5 t6 t7 t8
  go_wp2_with fail
  clear t0 t1 t2 t3 t4 t5 t6 t7 t8
  have HQ0 := hidD (heap_alloc_last W1 (.cells #[.int .i64 255, .int .i64 0, .bool true, .func (.func 62) #[] #[], .func (.func 63) #[] #[], .func (.func 64) #[] #[], .func (.func 65) #[] #[], .func (.func 66) #[] #[], .func (.func 67) #[] #[]] (76 : TypeId)))
  have HB2 := hidD (Below.next HB1.out ((Below.refl W1.heap.size W1).alloc (Nat.le_refl _) (.cells #[.int .i64 255, .int .i64 0, .bool true, .func (.func 62) #[] #[], .func (.func 63) #[] #[], .func (.func 64) #[] #[], .func (.func 65) #[] #[], .func (.func 66) #[] #[], .func (.func 67) #[] #[]] (76 : TypeId))))
  have HR0 := hidD ((((Below.refl W1.heap.size W1).alloc (Nat.le_refl _) (.cells #[.int .i64 255, .int .i64 0, .bool true, .func (.func 62) #[] #[], .func (.func 63) #[] #[], .func (.func 64) #[] #[], .func (.func 65) #[] #[], .func (.func 66) #[] #[], .func (.func 67) #[] #[]] (76 : TypeId))).block _ (row_lt HBX.out)).trans HBX.out)
  generalize W1.alloc (.cells #[.int .i64 255, .int .i64 0, .bool true, .func (.func 62) #[] #[], .func (.func 63) #[] #[], .func (.func 64) #[] #[], .func (.func 65) #[] #[], .func (.func 66) #[] #[], .func (.func 67) #[] #[]] (76 : TypeId)) = W2 at *
  obtain ⟨q, HQ⟩ : ∃ q, Hid (W1.heap.size = q) := ⟨_, rfl⟩
  rw [HQ.out] at HQ0 ⊢
  obtain ⟨r0, HRR⟩ : ∃ r0, Hid (w.heap.size = r0) := ⟨_, rfl⟩
  rw [HRR.out] at HR0 ⊢
  go_at_call 64
  refine (HSP.out _).mono ?_
  rintro e w3 ⟨hb, hm⟩
  have HB3 := hidD (Below.next HB2.out hb)
  have HR3 := hidD ((hb.block _ (row_lt HR0.out)).trans HR0.out)
  have HQ3 := hidD ((hb.block _ (row_lt HQ0.out)).trans HQ0.out)
  clear hb HSP
  cases r with
  | error n =>
    have hm2 : e = .returned (.tuple #[.agg #[.int .i64 0, .int .i64 0, .slice none 0 0], .int .i64 (n : Int)]) := hm
    subst hm2
    clear hm
    have HAL := hidD ((Below.refl w3.heap.size w3).alloc (Nat.le_refl _) (.cells #[.int .i64 0, .int .i64 0, .slice none 0 0] (80 : TypeId)))
    have HR4 := hidD ((HAL.out.block _ (row_lt HR3.out)).trans HR3.out)
    obtain ⟨⟨d0, d1, d2⟩, f0, f1, f2⟩ := cells3 HR4.out
    have hn : ((n : Int) != 0) = true := by
      rcases HER.out n rfl with rfl | rfl <;> rfl
    go_wp2_with fail
    refine bodyPost_ret (res_tmp_cell_tmp rfl _ _ r0 _ _ _ (0, 0) rfl (set3 _ _ _ HR4.out)) rfl ?_
    exact ⟨below3 (Below.next HB3.out HAL.out) (Nat.le_of_eq HRR.out) _ _ _, rfl⟩
  | ok x =>
    obtain ⟨k, a, d⟩ := x
    obtain ⟨v, rfl, hby, hnv⟩ := hm
    have HY3 := hidD hby
    have HDL := hidD (HLE.out k a d rfl)
    obtain ⟨va, vc, rfl⟩ := hby.len
    clear hby HLE HER
    have HAL := hidD ((Below.refl w3.heap.size w3).alloc (Nat.le_refl _) (recO k a (.slice va d.length vc)))
    have HB4 := hidD (Below.next HB3.out HAL.out)
    have HR4 := hidD ((HAL.out.block _ (row_lt HR3.out)).trans HR3.out)
    have HQ4 := hidD ((HAL.out.block _ (row_lt HQ3.out)).trans HQ3.out)
    have HY4 := hidD (HY3.out.next HAL.out)
    have HX4 := hidD (heap_alloc_last w3 (recO k a (.slice va d.length vc)))
    have HHA4 := hidD (HHA.out (k : Int) (a : Int) _ d HDL.out _ HY4.out)
    obtain ⟨N, HN⟩ : ∃ N, Hid (d.length = N) := ⟨_, rfl⟩
    rw [HN.out] at HAL HB4 HR4 HQ4 HX4 HHA4 HY4 HY3 ⊢
    obtain ⟨m, HM⟩ : ∃ m, Hid (mayS 1 (k : Int) (a : Int) d = m) := ⟨_, rfl⟩
    rw [HM.out] at HHA4
    have HR3L := hidD (row_lt HR3.out)
    have HNR : Hid (∀ g o, va = some ⟨g, o, none⟩ → 0 < N → g ≠ r0) := fun g o he h0 hg => by
      subst he
      have h1 := hnv g o _ _ rfl
      have h2 := row_lt HR0.out
      omega
    have HNV : Hid (NewV w.heap.size (.slice va N vc)) := fun g o n c he => by
      cases he
      have h1 := hnv g o _ _ rfl
      have h2 := HB2.out.size
      omega
    clear hnv
    clear HHA HB3 HR3 HQ3
    unfold recO at HAL HB4 HR4 HQ4 HX4 HHA4 HY4
    obtain ⟨⟨d0, d1, d2⟩, f0, f1, f2⟩ := cells3 HR4.out
    have q0 := cell_of_row _ _ 0 _ _ _ HQ4.out
    have q1 := cell_of_row _ _ 1 _ _ _ HQ4.out
    have q2 := cell_of_row _ _ 2 _ _ _ HQ4.out
    have q3 := cell_of_row _ _ 3 _ _ _ HQ4.out
    have q4 := cell_of_row _ _ 4 _ _ _ HQ4.out
    have q5 := cell_of_row _ _ 5 _ _ _ HQ4.out
    have q6 := cell_of_row _ _ 6 _ _ _ HQ4.out
    have q7 := cell_of_row _ _ 7 _ _ _ HQ4.out
    have q8 := cell_of_row _ _ 8 _ _ _ HQ4.out
    simp only [List.getElem?_toArray, List.getElem?_cons_succ, List.getElem?_cons_zero] at q0 q1 q2 q3 q4 q5 q6 q7 q8
    obtain ⟨x0, x1, x2⟩ := rec_box (k := k) (a := a) HX4.out
    go_wp2_with fail
    clear q0 q1 q2 q3 q4 q5 q6 q7 q8 d0 d1 d2 f0 f1 f2 x0 x1 x2
    generalize w3.alloc (.cells #[.int .i64 (k : Int), .int .i64 (a : Int), .slice va N vc] (80 : TypeId)) = W4 at *
    obtain ⟨b9, HB9⟩ : ∃ b9, Hid (w3.heap.size = b9) := ⟨_, rfl⟩
    rw [HB9.out] at HX4 ⊢
    go_at_call 38
    refine HHA4.out.mono ?_
    rintro e w5 ⟨rfl, hb⟩
    have HB5 := hidD (Below.next HB4.out hb)
    have HR5 := hidD ((hb.block _ (row_lt HR4.out)).trans HR4.out)
    have HX5 := hidD ((hb.block _ (row_lt HX4.out)).trans HX4.out)
    have HY5 := hidD (HY4.out.next hb)
    clear hb HHA4 HR4 HX4 HY4 HAL HQ4
    cases m with
    | false =>
      obtain ⟨⟨d0, d1, d2⟩, f0, f1, f2⟩ := cells3 HR5.out
      go_wp2_with fail
      refine bodyPost_ret (res_tmp_cell_tmp rfl _ _ r0 _ _ _ (0, 0) rfl (set3 _ _ _ HR5.out)) rfl ?_
      rw [fin_no HM.out]
      exact ⟨below3 HB5.out (Nat.le_of_eq HRR.out) _ _ _, rfl⟩
    | true =>
      go_wp2_with fail
      obtain ⟨y0, y1, y2⟩ := rec_box (k := k) (a := a) HX5.out
      have k0 : ∀ i : KB w5 [b9], i.v.cell? ⟨b9, 0, none⟩ = some (.int .i64 (k : Int)) := fun i => (i.cell (b := b9) (by simp) _).trans y0
      have k1 : ∀ i : KB w5 [b9], i.v.cell? ⟨b9, 1, none⟩ = some (.int .i64 (a : Int)) := fun i => (i.cell (b := b9) (by simp) _).trans y1
      have k2 : ∀ i : KB w5 [b9], i.v.cell? ⟨b9, 2, none⟩ = some (.slice va N vc) := fun i => (i.cell (b := b9) (by simp) _).trans y2
      clear y0 y1 y2
      refine wp_region_seg [0, 0, 0, 99, 99] 0 3 [b9] (by kernel_rfl) (by kernel_rfl) (by kernel_rfl) (by kernel_rfl) (by kernel_rfl) (by kernel_rfl) (by kernel_rfl) (by kernel_rfl) (fun _ _ _ _ _ h => h) ?_
      simp only [SegW, pk, Nat.reduceMul, Nat.reduceBEq, cond_true, cond_false]
      repeat (go_big_quiet_step (fail))
      refine wpQuiet_nil ?_
      have HD5 : Hid (Below w5.heap.size w5 w5.drew) := below_drewN (Below.refl _ _) 1
      have HR6 := hidD ((HD5.out.block _ (row_lt HR5.out)).trans HR5.out)
      obtain ⟨⟨d0, d1, d2⟩, f0, f1, f2⟩ := cells3 HR5.out
      go_wp2_with fail
      refine bodyPost_ret (res_tmp_cell_tmp rfl _ _ r0 _ _ _ (0, 0) rfl (set3 _ _ _ HR6.out)) rfl ?_
      rw [fin_ok HM.out]
      refine ⟨below3 (Below.next HB5.out HD5.out) (Nat.le_of_eq HRR.out) _ _ _, _, rfl, ?_⟩
      exact ⟨(by_putR HY5.out HNR.out).next (below_drewN (Below.refl _ _) 1), HNV.out⟩
set_option maxRecDepth 100000 in
set_option maxHeartbeats 3200000 in
theorem splitMotorolaL_any (t : List UInt8) (ht : t.length ≤ 140737488355000) (g : Nat) (w : World) (hT : TabAt w g) :
    Calls Tryz.prog 42 #[.slice (some ⟨g, 0, none⟩) 4 4, .string (bA (83 :: t))] w fun e w' => LnIs (lineS (83 :: t)) e w w' := by
  rw [line_mot]
  have HFO := hidD (fun w => formatOf_any (83 :: t) (by simp; omega) w)
  change Hid (∀ w, Calls _ _ _ w fun e w' => e = .returned (.int .i64 2) ∧ w' = w) at HFO
  have HIF := hidD (fun w => isFormat_any 2 w)
  change Hid (∀ w, Calls _ _ _ w fun e w' => e = .returned (.bool true) ∧ w' = w) at HIF
  have HSP := hidD (fun w => splitMotorola_any 83 t ht w)
  change Hid (∀ w, Calls _ _ _ w fun e w' => SpIs (motL t) e w w') at HSP
  have HER : Hid (∀ n, motL t = .error n → n = 210 ∨ n = 211) := fun n hr => motL_err hr
  have HLE : Hid (∀ k a d, motL t = .ok (k, a, d) → d.length ≤ 140737488355328) := fun k a d h => by have := lenL.2.1 h; omega
  have HHA := hidD (fun (K A : Int) (v : Value) (d : List UInt8) (hd : d.length ≤ 140737488355328) (w : World) (h : ByAt w v d) => hasMotorola_any K A v d (by omega) w h)
  have HTB := hidD hT
  have HTG := hidD (row_lt hT)
  have HBX := hidD (heap_alloc_last w (.cells #[.int .i64 0, .int .i64 0, .slice none 0 0] (80 : TypeId)))
  have HB1 := hidD ((Below.refl w.heap.size w).alloc (Nat.le_refl _) (.cells #[.int .i64 0, .int .i64 0, .slice none 0 0] (80 : TypeId)))
  obtain ⟨hz, hsz3⟩ := zero_of_info Tryz.zeroRec
  clear hT
  generalize bA (83 :: t) = s at *
  obtain ⟨r, HRW⟩ : ∃ r, Hid (motL t = r) := ⟨_, rfl⟩
  rw [HRW.out] at HER HSP HLE ⊢
  go_enter Tryz.func42, Tryz.ntmps42
  go_wp2_with fail
  have HT1 := hidD (HTB.out.next HB1.out)
  generalize w.alloc (.cells #[.int .i64 0, .int .i64 0, .slice none 0 0] (80 : TypeId)) = W1 at *
  go_at_call 56
  refine (HFO.out _).mono ?_
  rintro e w2 ⟨rfl, hw2⟩
  subst w2
  go_wp2_with fail
  go_at_call 36
  refine (HIF.out _).mono ?_
  rintro e w2 ⟨rfl, hw2⟩
  subst w2
  have t0 := tab_cells HT1.out 18
  have t1 := tab_cells HT1.out 19
  have t2 := tab_cells HT1.out 20
  have t3 := tab_cells HT1.out 21
  have t4 := tab_cells HT1.out 22
  have t5 := tab_cells HT1.out 23
  have t6 := tab_cells HT1.out 24
  have t7 := tab_cells HT1.out 25
  have t8 := tab_cells HT1.out 26
  simp only [fmL, fnV, List.cons_append, List.nil_append, List.getElem?_cons_succ, List.getElem?_cons_zero] at t0 t1 t2 t3 t4 t5 t6 t7 t8
  go_wp2_with fail
  clear t0 t1 t2 t3 t4 t5 t6 t7 t8
  have HQ0 := hidD (heap_alloc_last W1 (.cells #[.int .i64 252, .int .i64 1, .bool true, .func (.func 68) #[] #[], .func (.func 69) #[] #[], .func (.func 70) #[] #[], .func (.func 71) #[] #[], .func (.func 72) #[] #[], .func (.func 73) #[] #[]] (76 : TypeId)))
  have HB2 := hidD (Below.next HB1.out ((Below.refl W1.heap.size W1).alloc (Nat.le_refl _) (.cells #[.int .i64 252, .int .i64 1, .bool true, .func (.func 68) #[] #[], .func (.func 69) #[] #[], .func (.func 70) #[] #[], .func (.func 71) #[] #[], .func (.func 72) #[] #[], .func (.func 73) #[] #[]] (76 : TypeId))))
  have HR0 := hidD ((((Below.refl W1.heap.size W1).alloc (Nat.le_refl _) (.cells #[.int .i64 252, .int .i64 1, .bool true, .func (.func 68) #[] #[], .func (.func 69) #[] #[], .func (.func 70) #[] #[], .func (.func 71) #[] #[], .func (.func 72) #[] #[], .func (.func 73) #[] #[]] (76 : TypeId))).block _ (row_lt HBX.out)).trans HBX.out)
  generalize W1.alloc (.cells #[.int .i64 252, .int .i64 1, .bool true, .func (.func 68) #[] #[], .func (.func 69) #[] #[], .func (.func 70) #[] #[], .func (.func 71) #[] #[], .func (.func 72) #[] #[], .func (.func 73) #[] #[]] (76 : TypeId)) = W2 at *
  obtain ⟨q, HQ⟩ : ∃ q, Hid (W1.heap.size = q) := ⟨_, rfl⟩
  rw [HQ.out] at HQ0 ⊢
  obtain ⟨r0, HRR⟩ : ∃ r0, Hid (w.heap.size = r0) := ⟨_, rfl⟩
  rw [HRR.out] at HR0 ⊢
  go_at_call 70
  refine (HSP.out _).mono ?_
  rintro e w3 ⟨hb, hm⟩
  have HB3 := hidD (Below.next HB2.out hb)
  have HR3 := hidD ((hb.block _ (row_lt HR0.out)).trans HR0.out)
  have HQ3 := hidD ((hb.block _ (row_lt HQ0.out)).trans HQ0.out)
  clear hb HSP
  cases r with
  | error n =>
    have hm2 : e = .returned (.tuple #[.agg #[.int .i64 0, .int .i64 0, .slice none 0 0], .int .i64 (n : Int)]) := hm
    subst hm2
    clear hm
    have HAL := hidD ((Below.refl w3.heap.size w3).alloc (Nat.le_refl _) (.cells #[.int .i64 0, .int .i64 0, .slice none 0 0] (80 : TypeId)))
    have HR4 := hidD ((HAL.out.block _ (row_lt HR3.out)).trans HR3.out)
    obtain ⟨⟨d0, d1, d2⟩, f0, f1, f2⟩ := cells3 HR4.out
    have hn : ((n : Int) != 0) = true := by
      rcases HER.out n rfl with rfl | rfl <;> rfl
    go_wp2_with fail
    refine bodyPost_ret (res_tmp_cell_tmp rfl _ _ r0 _ _ _ (0, 0) rfl (set3 _ _ _ HR4.out)) rfl ?_
    exact ⟨below3 (Below.next HB3.out HAL.out) (Nat.le_of_eq HRR.out) _ _ _, rfl⟩
  | ok x =>
    obtain ⟨k, a, d⟩ := x
    obtain ⟨v, rfl, hby, hnv⟩ := hm
    have HY3 := hidD hby
    have HDL := hidD (HLE.out k a d rfl)
    obtain ⟨va, vc, rfl⟩ := hby.len
    clear hby HLE HER
    have HAL := hidD ((Below.refl w3.heap.size w3).alloc (Nat.le_refl _) (recO k a (.slice va d.length vc)))
    have HB4 := hidD (Below.next HB3.out HAL.out)
    have HR4 := hidD ((HAL.out.block _ (row_lt HR3.out)).trans HR3.out)
    have HQ4 := hidD ((HAL.out.block _ (row_lt HQ3.out)).trans HQ3.out)
    have HY4 := hidD (HY3.out.next HAL.out)
    have HX4 := hidD (heap_alloc_last w3 (recO k a (.slice va d.length vc)))
    have HHA4 := hidD (HHA.out (k : Int) (a : Int) _ d HDL.out _ HY4.out)
    obtain ⟨N, HN⟩ : ∃ N, Hid (d.length = N) := ⟨_, rfl⟩
    rw [HN.out] at HAL HB4 HR4 HQ4 HX4 HHA4 HY4 HY3 ⊢
    obtain ⟨m, HM⟩ : ∃ m, Hid (mayS 2 (k : Int) (a : Int) d = m) := ⟨_, rfl⟩
    rw [HM.out] at HHA4
    have HR3L := hidD (row_lt HR3.out)
    have HNR : Hid (∀ g o, va = some ⟨g, o, none⟩ → 0 < N → g ≠ r0) := fun g o he h0 hg => by
      subst he
      have h1 := hnv g o _ _ rfl
      have h2 := row_lt HR0.out
      omega
    have HNV : Hid (NewV w.heap.size (.slice va N vc)) := fun g o n c he => by
      cases he
      have h1 := hnv g o _ _ rfl
      have h2 := HB2.out.size
      omega
    clear hnv
    clear HHA HB3 HR3 HQ3
    unfold recO at HAL HB4 HR4 HQ4 HX4 HHA4 HY4
    obtain ⟨⟨d0, d1, d2⟩, f0, f1, f2⟩ := cells3 HR4.out
    have q0 := cell_of_row _ _ 0 _ _ _ HQ4.out
    have q1 := cell_of_row _ _ 1 _ _ _ HQ4.out
    have q2 := cell_of_row _ _ 2 _ _ _ HQ4.out
    have q3 := cell_of_row _ _ 3 _ _ _ HQ4.out
    have q4 := cell_of_row _ _ 4 _ _ _ HQ4.out
    have q5 := cell_of_row _ _ 5 _ _ _ HQ4.out
    have q6 := cell_of_row _ _ 6 _ _ _ HQ4.out
    have q7 := cell_of_row _ _ 7 _ _ _ HQ4.out
    have q8 := cell_of_row _ _ 8 _ _ _ HQ4.out
    simp only [List.getElem?_toArray, List.getElem?_cons_succ, List.getElem?_cons_zero] at q0 q1 q2 q3 q4 q5 q6 q7 q8
    obtain ⟨x0, x1, x2⟩ := rec_box (k := k) (a := a) HX4.out
    go_wp2_with fail
    clear q0 q1 q2 q3 q4 q5 q6 q7 q8 d0 d1 d2 f0 f1 f2 x0 x1 x2
    generalize w3.alloc (.cells #[.int .i64 (k : Int), .int .i64 (a : Int), .slice va N vc] (80 : TypeId)) = W4 at *
    obtain ⟨b9, HB9⟩ : ∃ b9, Hid (w3.heap.size = b9) := ⟨_, rfl⟩
    rw [HB9.out] at HX4 ⊢
    go_at_call 38
    refine HHA4.out.mono ?_
    rintro e w5 ⟨rfl, hb⟩
    have HB5 := hidD (Below.next HB4.out hb)
    have HR5 := hidD ((hb.block _ (row_lt HR4.out)).trans HR4.out)
    have HX5 := hidD ((hb.block _ (row_lt HX4.out)).trans HX4.out)
    have HY5 := hidD (HY4.out.next hb)
    clear hb HHA4 HR4 HX4 HY4 HAL HQ4
    cases m with
    | false =>
      obtain ⟨⟨d0, d1, d2⟩, f0, f1, f2⟩ := cells3 HR5.out
      go_wp2_with fail
      refine bodyPost_ret (res_tmp_cell_tmp rfl _ _ r0 _ _ _ (0, 0) rfl (set3 _ _ _ HR5.out)) rfl ?_
      rw [fin_no HM.out]
      exact ⟨below3 HB5.out (Nat.le_of_eq HRR.out) _ _ _, rfl⟩
    | true =>
      go_wp2_with fail
      obtain ⟨y0, y1, y2⟩ := rec_box (k := k) (a := a) HX5.out
      have k0 : ∀ i : KB w5 [b9], i.v.cell? ⟨b9, 0, none⟩ = some (.int .i64 (k : Int)) := fun i => (i.cell (b := b9) (by simp) _).trans y0
      have k1 : ∀ i : KB w5 [b9], i.v.cell? ⟨b9, 1, none⟩ = some (.int .i64 (a : Int)) := fun i => (i.cell (b := b9) (by simp) _).trans y1
      have k2 : ∀ i : KB w5 [b9], i.v.cell? ⟨b9, 2, none⟩ = some (.slice va N vc) := fun i => (i.cell (b := b9) (by simp) _).trans y2
      clear y0 y1 y2
      refine wp_region_seg [0, 0, 0, 99, 99] 0 3 [b9] (by kernel_rfl) (by kernel_rfl) (by kernel_rfl) (by kernel_rfl) (by kernel_rfl) (by kernel_rfl) (by kernel_rfl) (by kernel_rfl) (fun _ _ _ _ _ h => h) ?_
      simp only [SegW, pk, Nat.reduceMul, Nat.reduceBEq, cond_true, cond_false]
      repeat (go_big_quiet_step (fail))
      refine wpQuiet_nil ?_
      have HD5 : Hid (Below w5.heap.size w5 w5.drew) := below_drewN (Below.refl _ _) 1
      have HR6 := hidD ((HD5.out.block _ (row_lt HR5.out)).trans HR5.out)
      obtain ⟨⟨d0, d1, d2⟩, f0, f1, f2⟩ := cells3 HR5.out
      go_wp2_with fail
      refine bodyPost_ret (res_tmp_cell_tmp rfl _ _ r0 _ _ _ (0, 0) rfl (set3 _ _ _ HR6.out)) rfl ?_
      rw [fin_ok HM.out]
      refine ⟨below3 (Below.next HB5.out HD5.out) (Nat.le_of_eq HRR.out) _ _ _, _, rfl, ?_⟩
      exact ⟨(by_putR HY5.out HNR.out).next (below_drewN (Below.refl _ _) 1), HNV.out⟩
set_option maxRecDepth 100000 in
set_option maxHeartbeats 3200000 in
theorem splitMosL_any (t : List UInt8) (ht : t.length ≤ 140737488355000) (g : Nat) (w : World) (hT : TabAt w g) :
    Calls Tryz.prog 42 #[.slice (some ⟨g, 0, none⟩) 4 4, .string (bA (59 :: t))] w fun e w' => LnIs (lineS (59 :: t)) e w w' := by
  rw [line_mos]
  have HFO := hidD (fun w => formatOf_any (59 :: t) (by simp; omega) w)
  change Hid (∀ w, Calls _ _ _ w fun e w' => e = .returned (.int .i64 3) ∧ w' = w) at HFO
  have HIF := hidD (fun w => isFormat_any 3 w)
  change Hid (∀ w, Calls _ _ _ w fun e w' => e = .returned (.bool true) ∧ w' = w) at HIF
  have HSP := hidD (fun w => splitMos_any 59 t ht w)
  change Hid (∀ w, Calls _ _ _ w fun e w' => SpIs (mosL t) e w w') at HSP
  have HER : Hid (∀ n, mosL t = .error n → n = 210 ∨ n = 211) := fun n hr => match_err (fun b n hb => raw_err.2.2 hb) hr
  have HLE : Hid (∀ k a d, mosL t = .ok (k, a, d) → d.length ≤ 140737488355328) := fun k a d h => by have := lenL.2.2 h; omega
  have HHA := hidD (fun (K A : Int) (v : Value) (d : List UInt8) (hd : d.length ≤ 140737488355328) (w : World) (h : ByAt w v d) => hasMos_any K A v d (by omega) w h)
  have HTB := hidD hT
  have HTG := hidD (row_lt hT)
  have HBX := hidD (heap_alloc_last w (.cells #[.int .i64 0, .int .i64 0, .slice none 0 0] (80 : TypeId)))
  have HB1 := hidD ((Below.refl w.heap.size w).alloc (Nat.le_refl _) (.cells #[.int .i64 0, .int .i64 0, .slice none 0 0] (80 : TypeId)))
  obtain ⟨hz, hsz3⟩ := zero_of_info Tryz.zeroRec
  clear hT
  generalize bA (59 :: t) = s at *
  obtain ⟨r, HRW⟩ : ∃ r, Hid (mosL t = r) := ⟨_, rfl⟩
  rw [HRW.out] at HER HSP HLE ⊢
  go_enter Tryz.func42, Tryz.ntmps42
  go_wp2_with fail
  have HT1 := hidD (HTB.out.next HB1.out)
  generalize w.alloc (.cells #[.int .i64 0, .int .i64 0, .slice none 0 0] (80 : TypeId)) = W1 at *
  go_at_call 56
  refine (HFO.out _).mono ?_
  rintro e w2 ⟨rfl, hw2⟩
  subst w2
  go_wp2_with fail
  go_at_call 36
  refine (HIF.out _).mono ?_
  rintro e w2 ⟨rfl, hw2⟩
  subst w2
  have t0 := tab_cells HT1.out 27
  have t1 := tab_cells HT1.out 28
  have t2 := tab_cells HT1.out 29
  have t3 := tab_cells HT1.out 30
  have t4 := tab_cells HT1.out 31
  have t5 := tab_cells HT1.out 32
  have t6 := tab_cells HT1.out 33
  have t7 := tab_cells HT1.out 34
  have t8 := tab_cells HT1.out 35
  simp only [fmL, fnV, List.cons_append, List.nil_append, List.getElem?_cons_succ, List.getElem?_cons_zero] at t0 t1 t2 t3 t4 t5 t6 t7 t8
  go_wp2_with fail
  clear t0 t1 t2 t3 t4 t5 t6 t7 t8
  have HQ0 := hidD (heap_alloc_last W1 (.cells #[.int .i64 255, .int .i64 0, .bool false, .func (.func 74) #[] #[], .func (.func 75) #[] #[], .func (.func 76) #[] #[], .func (.func 77) #[] #[], .func (.func 78) #[] #[], .func (.func 80) #[] #[]] (76 : TypeId)))
  have HB2 := hidD (Below.next HB1.out ((Below.refl W1.heap.size W1).alloc (Nat.le_refl _) (.cells #[.int .i64 255, .int .i64 0, .bool false, .func (.func 74) #[] #[], .func (.func 75) #[] #[], .func (.func 76) #[] #[], .func (.func 77) #[] #[], .func (.func 78) #[] #[], .func (.func 80) #[] #[]] (76 : TypeId))))
  have HR0 := hidD ((((Below.refl W1.heap.size W1).alloc (Nat.le_refl _) (.cells #[.int .i64 255, .int .i64 0, .bool false, .func (.func 74) #[] #[], .func (.func 75) #[] #[], .func (.func 76) #[] #[], .func (.func 77) #[] #[], .func (.func 78) #[] #[], .func (.func 80) #[] #[]] (76 : TypeId))).block _ (row_lt HBX.out)).trans HBX.out)
  generalize W1.alloc (.cells #[.int .i64 255, .int .i64 0, .bool false, .func (.func 74) #[] #[], .func (.func 75) #[] #[], .func (.func 76) #[] #[], .func (.func 77) #[] #[], .func (.func 78) #[] #[], .func (.func 80) #[] #[]] (76 : TypeId)) = W2 at *
  obtain ⟨q, HQ⟩ : ∃ q, Hid (W1.heap.size = q) := ⟨_, rfl⟩
  rw [HQ.out] at HQ0 ⊢
  obtain ⟨r0, HRR⟩ : ∃ r0, Hid (w.heap.size = r0) := ⟨_, rfl⟩
  rw [HRR.out] at HR0 ⊢
  go_at_call 76
  refine (HSP.out _).mono ?_
  rintro e w3 ⟨hb, hm⟩
  have HB3 := hidD (Below.next HB2.out hb)
  have HR3 := hidD ((hb.block _ (row_lt HR0.out)).trans HR0.out)
  have HQ3 := hidD ((hb.block _ (row_lt HQ0.out)).trans HQ0.out)
  clear hb HSP
  cases r with
  | error n =>
    have hm2 : e = .returned (.tuple #[.agg #[.int .i64 0, .int .i64 0, .slice none 0 0], .int .i64 (n : Int)]) := hm
    subst hm2
    clear hm
    have HAL := hidD ((Below.refl w3.heap.size w3).alloc (Nat.le_refl _) (.cells #[.int .i64 0, .int .i64 0, .slice none 0 0] (80 : TypeId)))
    have HR4 := hidD ((HAL.out.block _ (row_lt HR3.out)).trans HR3.out)
    obtain ⟨⟨d0, d1, d2⟩, f0, f1, f2⟩ := cells3 HR4.out
    have hn : ((n : Int) != 0) = true := by
      rcases HER.out n rfl with rfl | rfl <;> rfl
    go_wp2_with fail
    refine bodyPost_ret (res_tmp_cell_tmp rfl _ _ r0 _ _ _ (0, 0) rfl (set3 _ _ _ HR4.out)) rfl ?_
    exact ⟨below3 (Below.next HB3.out HAL.out) (Nat.le_of_eq HRR.out) _ _ _, rfl⟩
  | ok x =>
    obtain ⟨k, a, d⟩ := x
    obtain ⟨v, rfl, hby, hnv⟩ := hm
    have HY3 := hidD hby
    have HDL := hidD (HLE.out k a d rfl)
    obtain ⟨va, vc, rfl⟩ := hby.len
    clear hby HLE HER
    have HAL := hidD ((Below.refl w3.heap.size w3).alloc (Nat.le_refl _) (recO k a (.slice va d.length vc)))
    have HB4 := hidD (Below.next HB3.out HAL.out)
    have HR4 := hidD ((HAL.out.block _ (row_lt HR3.out)).trans HR3.out)
    have HQ4 := hidD ((HAL.out.block _ (row_lt HQ3.out)).trans HQ3.out)
    have HY4 := hidD (HY3.out.next HAL.out)
    have HX4 := hidD (heap_alloc_last w3 (recO k a (.slice va d.length vc)))
    have HHA4 := hidD (HHA.out (k : Int) (a : Int) _ d HDL.out _ HY4.out)
    obtain ⟨N, HN⟩ : ∃ N, Hid (d.length = N) := ⟨_, rfl⟩
    rw [HN.out] at HAL HB4 HR4 HQ4 HX4 HHA4 HY4 HY3 ⊢
    obtain ⟨m, HM⟩ : ∃ m, Hid (mayS 3 (k : Int) (a : Int) d = m) := ⟨_, rfl⟩
    rw [HM.out] at HHA4
    have HR3L := hidD (row_lt HR3.out)
    have HNR : Hid (∀ g o, va = some ⟨g, o, none⟩ → 0 < N → g ≠ r0) := fun g o he h0 hg => by
      subst he
      have h1 := hnv g o _ _ rfl
      have h2 := row_lt HR0.out
      omega
    have HNV : Hid (NewV w.heap.size (.slice va N vc)) := fun g o n c he => by
      cases he
      have h1 := hnv g o _ _ rfl
      have h2 := HB2.out.size
      omega
    clear hnv
    clear HHA HB3 HR3 HQ3
    unfold recO at HAL HB4 HR4 HQ4 HX4 HHA4 HY4
    obtain ⟨⟨d0, d1, d2⟩, f0, f1, f2⟩ := cells3 HR4.out
    have q0 := cell_of_row _ _ 0 _ _ _ HQ4.out
    have q1 := cell_of_row _ _ 1 _ _ _ HQ4.out
    have q2 := cell_of_row _ _ 2 _ _ _ HQ4.out
    have q3 := cell_of_row _ _ 3 _ _ _ HQ4.out
    have q4 := cell_of_row _ _ 4 _ _ _ HQ4.out
    have q5 := cell_of_row _ _ 5 _ _ _ HQ4.out
    have q6 := cell_of_row _ _ 6 _ _ _ HQ4.out
    have q7 := cell_of_row _ _ 7 _ _ _ HQ4.out
    have q8 := cell_of_row _ _ 8 _ _ _ HQ4.out
    simp only [List.getElem?_toArray, List.getElem?_cons_succ, List.getElem?_cons_zero] at q0 q1 q2 q3 q4 q5 q6 q7 q8
    obtain ⟨x0, x1, x2⟩ := rec_box (k := k) (a := a) HX4.out
    go_wp2_with fail
    clear q0 q1 q2 q3 q4 q5 q6 q7 q8 d0 d1 d2 f0 f1 f2 x0 x1 x2
    generalize w3.alloc (.cells #[.int .i64 (k : Int), .int .i64 (a : Int), .slice va N vc] (80 : TypeId)) = W4 at *
    obtain ⟨b9, HB9⟩ : ∃ b9, Hid (w3.heap.size = b9) := ⟨_, rfl⟩
    rw [HB9.out] at HX4 ⊢
    go_at_call 38
    refine HHA4.out.mono ?_
    rintro e w5 ⟨rfl, hb⟩
    have HB5 := hidD (Below.next HB4.out hb)
    have HR5 := hidD ((hb.block _ (row_lt HR4.out)).trans HR4.out)
    have HX5 := hidD ((hb.block _ (row_lt HX4.out)).trans HX4.out)
    have HY5 := hidD (HY4.out.next hb)
    clear hb HHA4 HR4 HX4 HY4 HAL HQ4
    cases m with
    | false =>
      obtain ⟨⟨d0, d1, d2⟩, f0, f1, f2⟩ := cells3 HR5.out
      go_wp2_with fail
      refine bodyPost_ret (res_tmp_cell_tmp rfl _ _ r0 _ _ _ (0, 0) rfl (set3 _ _ _ HR5.out)) rfl ?_
      rw [fin_no HM.out]
      exact ⟨below3 HB5.out (Nat.le_of_eq HRR.out) _ _ _, rfl⟩
    | true =>
      go_wp2_with fail
      obtain ⟨y0, y1, y2⟩ := rec_box (k := k) (a := a) HX5.out
      have k0 : ∀ i : KB w5 [b9], i.v.cell? ⟨b9, 0, none⟩ = some (.int .i64 (k : Int)) := fun i => (i.cell (b := b9) (by simp) _).trans y0
      have k1 : ∀ i : KB w5 [b9], i.v.cell? ⟨b9, 1, none⟩ = some (.int .i64 (a : Int)) := fun i => (i.cell (b := b9) (by simp) _).trans y1
      have k2 : ∀ i : KB w5 [b9], i.v.cell? ⟨b9, 2, none⟩ = some (.slice va N vc) := fun i => (i.cell (b := b9) (by simp) _).trans y2
      clear y0 y1 y2
      refine wp_region_seg [0, 0, 0, 99, 99] 0 3 [b9] (by kernel_rfl) (by kernel_rfl) (by kernel_rfl) (by kernel_rfl) (by kernel_rfl) (by kernel_rfl) (by kernel_rfl) (by kernel_rfl) (fun _ _ _ _ _ h => h) ?_
      simp only [SegW, pk, Nat.reduceMul, Nat.reduceBEq, cond_true, cond_false]
      repeat (go_big_quiet_step (fail))
      refine wpQuiet_nil ?_
      have HD5 : Hid (Below w5.heap.size w5 w5.drew) := below_drewN (Below.refl _ _) 1
      have HR6 := hidD ((HD5.out.block _ (row_lt HR5.out)).trans HR5.out)
      obtain ⟨⟨d0, d1, d2⟩, f0, f1, f2⟩ := cells3 HR5.out
      go_wp2_with fail
      refine bodyPost_ret (res_tmp_cell_tmp rfl _ _ r0 _ _ _ (0, 0) rfl (set3 _ _ _ HR6.out)) rfl ?_
      rw [fin_ok HM.out]
      refine ⟨below3 (Below.next HB5.out HD5.out) (Nat.le_of_eq HRR.out) _ _ _, _, rfl, ?_⟩
      exact ⟨(by_putR HY5.out HNR.out).next (below_drewN (Below.refl _ _) 1), HNV.out⟩
set_option maxRecDepth 100000 in
set_option maxHeartbeats 1600000 in
theorem splitNo_any (l : List UInt8) (hl : l.length ≤ 140737488355000) (hf : fmS l = 0) (tv : Value) (w : World) :
    Calls Tryz.prog 42 #[tv, .string (bA l)] w fun e w' => LnIs (lineS l) e w w' := by
  have HFO := hidD (fun w => formatOf_any l (by omega) w)
  rw [hf] at HFO
  have HIF := hidD (fun w => isFormat_any 0 w)
  change Hid (∀ w, Calls _ _ _ w fun e w' => e = .returned (.bool false) ∧ w' = w) at HIF
  have HLI : Hid (lineS l = .error 210) := by
    show _ = _
    cases l with
    | nil => rfl
    | cons c t =>
      have e : fmS (c :: t) = if c = 58 then 1 else if c = 83 then 2 else if c = 59 then 3 else 0 := rfl
      rw [e] at hf
      by_cases h1 : c = 58
      · rw [if_pos h1] at hf; cases hf
      · by_cases h2 : c = 83
        · rw [if_neg h1, if_pos h2] at hf; cases hf
        · by_cases h3 : c = 59
          · rw [if_neg h1, if_neg h2, if_pos h3] at hf; cases hf
          · exact line_no h1 h2 h3
  rw [HLI.out]
  have HBX := hidD (heap_alloc_last w (.cells #[.int .i64 0, .int .i64 0, .slice none 0 0] (80 : TypeId)))
  have HB1 := hidD ((Below.refl w.heap.size w).alloc (Nat.le_refl _) (.cells #[.int .i64 0, .int .i64 0, .slice none 0 0] (80 : TypeId)))
  obtain ⟨hz, hsz3⟩ := zero_of_info Tryz.zeroRec
  clear hf
  generalize bA l = s at *
  go_enter Tryz.func42, Tryz.ntmps42
  go_wp2_with fail
  generalize w.alloc (.cells #[.int .i64 0, .int .i64 0, .slice none 0 0] (80 : TypeId)) = W1 at *
  go_at_call 56
  refine (HFO.out _).mono ?_
  rintro e w2 ⟨rfl, hw2⟩
  subst w2
  go_wp2_with fail
  go_at_call 36
  refine (HIF.out _).mono ?_
  rintro e w2 ⟨rfl, hw2⟩
  subst w2
  obtain ⟨⟨d0, d1, d2⟩, f0, f1, f2⟩ := cells3 HBX.out
  go_wp2_with fail
  refine bodyPost_ret (res_tmp_cell_tmp rfl _ _ w.heap.size _ _ _ (0, 0) rfl (set3 _ _ _ HBX.out)) rfl ?_
  exact ⟨below3 HB1.out (Nat.le_refl _) _ _ _, rfl⟩
theorem split_any (l : List UInt8) (hl : l.length ≤ 140737488355000) (g : Nat) (w : World) (hT : TabAt w g) :
    Calls Tryz.prog 42 #[.slice (some ⟨g, 0, none⟩) 4 4, .string (bA l)] w fun e w' => LnIs (lineS l) e w w' := by
  cases l with
  | nil => exact splitNo_any [] hl rfl _ w
  | cons c t =>
    have ht : t.length ≤ 140737488355000 := by simp at hl; omega
    by_cases h1 : c = 58
    · subst h1; exact splitIntelL_any t ht g w hT
    · by_cases h2 : c = 83
      · subst h2; exact splitMotorolaL_any t ht g w hT
      · by_cases h3 : c = 59
        · subst h3; exact splitMosL_any t ht g w hT
        · refine splitNo_any (c :: t) hl ?_ _ w
          have e : fmS (c :: t) = if c = 58 then 1 else if c = 83 then 2 else if c = 59 then 3 else 0 := rfl
          rw [e, if_neg h1, if_neg h2, if_neg h3]
end Go.Proofs.YtpemajghaceegaaGreatDoor
