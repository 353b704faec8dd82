/- What the document's Split answers. -/
import Derived.Test.YtpemajghaceegaaGreatDoorRfc
import Derived.Test.YtpemajghaceegaaGreatDoorRfe
import Derived.Test.YtpemajghaceegaaGreatDoorHxq
namespace Go.Proofs.YtpemajghaceegaaGreatDoor
open Go.RowKit
set_option linter.unusedVariables false

theorem u8_nt {c : UInt8} {d : Int} (n : Nat) (hd : d = (n : Int)) (h : c.toNat = n) : ((c.toNat : Int) != d) = false := by subst hd; rw [h]; exact bne_self_eq_false _
theorem u8_nf {c : UInt8} {d : Int} (n : Nat) (hd : d = (n : Int)) (h : c.toNat ≠ n) : ((c.toNat : Int) != d) = true := by subst hd; rw [bne_iff_ne]; omega
theorem ne_f {a b : Int} (h : (a != b) = false) : a = b := by
  rcases Decidable.em (a = b) with h' | h'
  · exact h'
  · rw [bne_iff_ne.2 h'] at h; cases h
theorem bq_t {c : Nat} {d : Int} (h : (c : Int) = d) : ((c : Int) == d) = true := beq_iff_eq.2 h
theorem bq_f {c : Nat} {d : Int} (h : (c : Int) ≠ d) : ((c : Int) == d) = false := beq_eq_false_iff_ne.2 h
theorem bn_t {c : Int} {d : Int} (h : c ≠ d) : (c != d) = true := bne_iff_ne.2 h
theorem bn_f {c : Int} {d : Int} (h : c = d) : (c != d) = false := by rw [h]; exact bne_self_eq_false _
set_option maxRecDepth 100000 in
set_option maxHeartbeats 12800000 in
theorem refSplitIntel_any (t : List UInt8) (ht : t.length ≤ 140737488355000) (w : World) :
    Calls Tryz.prog 19 #[.string (bA (58 :: t))] w fun e w' => SplIs (match unS t with | none => .error 210 | some b => intS b) e w w' := by
  obtain ⟨r, HR0⟩ : ∃ r : Res, Hid ((match unS t with | none => (.error 210 : Res) | some b => intS b) = r) := ⟨_, rfl⟩
  rw [HR0.out]
  have hex := ba_tail 58 t
  have hsz : (1 : Int) ≤ (bA (58 :: t)).size := by rw [ba_size, List.length_cons]; omega
  have hsz1 : ¬ ((bA (58 :: t)).size : Int) < 1 := by omega
  have hsz0 : 0 < (bA (58 :: t)).size := by omega
  have hsz0i : (0 : Int) < (bA (58 :: t)).size := by omega
  have HG := hidD (ba_get (58 :: t) 0 hsz0)
  have HUX := hidD (fun w => refUnhex_any t ht w)
  have HSZ := hidD (show (bA (58 :: t)).size = t.length + 1 by rw [ba_size]; rfl)
  have hsb : (bA (58 :: t)).size ≤ 140737488355100 := by rw [HSZ.out]; omega
  generalize bA (58 :: t) = s at *
  have z58 : (((s[0]'hsz0).toNat : Int) == 58) = true := by rw [HG.out]; rfl
  go_enter Tryz.func19, Tryz.ntmps19
  go_wp2_with fail
  go_at_call 43
  refine (HUX.out _).mono ?_
  rintro e w2 ⟨a2, m2, c2, ok, rfl, h1, h2, hb⟩
  have HB2 := hidD hb
  cases hu : unS t with
  | none =>
    obtain rfl := h2 hu
    have HR1 : Hid (r = .error 210) := by show _ = _; rw [← HR0.out, hu]
    clear h1 h2 hb HUX HR0
    go_wp2_with fail
    refine bodyPost_ret (v := .tuple #[.int .i64 0, .int .i64 0, .int .i64 0, .slice none 0 0, .int .i64 210]) (by simp [results, Tryz.results19, go_sem]) rfl ?_
    rw [HR1.out]
    exact ⟨HB2.out, rfl, .inl rfl⟩
  | some b =>
    obtain ⟨rfl, hown⟩ := h1 b hu
    obtain ⟨hn2, hnc, hc2, hcell⟩ := by_addr (by_of_own hown)
    have HY2 : Hid (ByAt w2 (.slice a2 m2 c2) b) := by_of_own hown
    have HUL := un_len t b hu
    have hNT : m2 ≤ 140737488355000 := by omega
    have HN := hidD hn2.symm
    have HRB : Hid (r = intS b) := by show _ = _; rw [← HR0.out, hu]
    have HR := hidD (show intS b = if b.length < 5 ∨ b.length ≠ (b.getD 0 0).toNat + 5 then .error 210 else if totS b % 256 ≠ 0 then .error 211 else finS 1 (b.getD 3 0).toNat (n2 b 1) ((b.drop 4).take (b.length - 5)) from rfl)
    have hS12 : (2 : Nat) ≤ 2 := Nat.le_refl _
    clear h1 h2 hb HUX hn2 hu HR0
    dsimp only
    by_cases c0 : m2 = 0
    · have HR1 : Hid (intS b = .error 210) := by show _ = _; rw [HR.out, if_pos (.inl (by rw [HN.out]; omega))]
      subst c0
      clear hcell hown
      go_wp2_with fail
      refine bodyPost_ret (v := .tuple #[.int .i64 0, .int .i64 0, .int .i64 0, .slice none 0 0, .int .i64 210]) (by simp [results, Tryz.results19, go_sem]) rfl ?_
      rw [HRB.out, HR1.out]
      exact ⟨HB2.out, rfl, .inl rfl⟩
    obtain ⟨g, o, rfl, hg, hcc⟩ := hcell (by omega)
    have HGG := hidD hg
    have HCC := hidD hcc
    have c0i : ¬ (m2 : Int) < 1 := by omega
    have c0j : (0 : Int) < m2 := by omega
    obtain ⟨x0, HX0⟩ : ∃ x0, Hid ((b.getD 0 0).toNat = x0) := ⟨_, rfl⟩
    have hx0 : x0 < 256 := by rw [← HX0.out]; exact (b.getD 0 0).toNat_lt
    have q0 := hcc 0 (by omega)
    rw [Nat.add_zero, HX0.out] at q0
    rw [HN.out, HX0.out] at HR
    clear hcell hown hg hcc
    obtain ⟨T, HTE⟩ : ∃ T, Hid (totS b = T) := ⟨_, rfl⟩
    have hTL : T ≤ 72057594037927936 := by have := tot_le b; rw [HTE.out, HN.out] at this; omega
    have HT1 := hidD (fun w h => refTotal_any (.slice (some ⟨g, o, none⟩) m2 c2) b (by rw [HN.out]; omega) w h)
    rw [HTE.out] at HT1 HR
    go_wp2_with fail
    · have hcn : ((m2 : Int) != (x0 : Int) + 5) = true := by assumption
      have cn := bne_iff_ne.1 hcn
      have HR1 : Hid (intS b = .error 210) := by show _ = _; rw [HR.out, if_pos (.inr (by omega))]
      refine bodyPost_ret (v := .tuple #[.int .i64 0, .int .i64 0, .int .i64 0, .slice none 0 0, .int .i64 210]) (by simp [results, Tryz.results19, go_sem]) rfl ?_
      rw [HRB.out, HR1.out]
      exact ⟨HB2.out, rfl, .inl rfl⟩
    have hcn : ((m2 : Int) != (x0 : Int) + 5) = false := by assumption
    have cn : m2 = x0 + 5 := by have := ne_f hcn; omega
    rw [if_neg (by omega)] at HR
    clear hcn
    go_at_call 41
    refine (HT1.out _ HY2.out).mono ?_
    rintro e w3 ⟨rfl, hw3⟩
    subst w3
    clear HT1
    go_wp2_with fail
    · have hct : ((T : Int) % 256 != 0) = true := by assumption
      have ct := bne_iff_ne.1 hct
      have HR1 : Hid (intS b = .error 211) := by show _ = _; rw [HR.out, if_pos (by omega)]
      refine bodyPost_ret (v := .tuple #[.int .i64 0, .int .i64 0, .int .i64 0, .slice none 0 0, .int .i64 211]) (by simp [results, Tryz.results19, go_sem]) rfl ?_
      rw [HRB.out, HR1.out]
      exact ⟨HB2.out, rfl, .inr rfl⟩
    have hct : ((T : Int) % 256 != 0) = false := by assumption
    have ct : T % 256 = 0 := by have := ne_f hct; omega
    rw [if_neg (by omega)] at HR
    clear hct
    have HKK : Hid (∀ w', Below w2.heap.size w2 w' → ∃ i : KB w2 [g], w' = i.v) := fun w' hb => ⟨⟨w', fun y hy => by rw [List.mem_singleton] at hy; subst hy; exact hb.block _ HGG.out⟩, rfl⟩
    have HDR : Hid (Below w2.heap.size w2 w2.drew) := below_drewN (Below.refl _ _) 1
    refine wp_region_seg [0, 0, 0, 0, 0, 0, 0, 1, 2, 0, 0, 0, 0, 0, 0, 0, 0, 0, 0, 0, 0, 0, 0, 2, 99, 99] 1 24 [g] (by kernel_rfl) (by kernel_rfl) (by kernel_rfl) (by kernel_rfl) (by kernel_rfl) (by kernel_rfl) (by kernel_rfl) (by kernel_rfl) (fun _ _ _ _ _ h => h) ?_
    simp only [SegW, pk, Nat.reduceMul, Nat.reduceAdd, Nat.reduceBEq, cond_true, cond_false]
    repeat (go_big_quiet_step (fail))
    refine wpQuiet_nil ?_
    go_wp2_with fail
    refine ⟨HKK.out _ HDR.out, ?_⟩
    repeat (go_big_quiet_step (fail))
    refine wpQuiet_nil ?_
    have hl1 : (1 : Int) < m2 := by omega
    have hl2 : (2 : Int) < m2 := by omega
    have hl3 : (3 : Int) < m2 := by omega
    obtain ⟨x1, HX1⟩ : ∃ x1, Hid ((b.getD 1 0).toNat = x1) := ⟨_, rfl⟩
    obtain ⟨x2, HX2⟩ : ∃ x2, Hid ((b.getD 2 0).toNat = x2) := ⟨_, rfl⟩
    obtain ⟨x3, HX3⟩ : ∃ x3, Hid ((b.getD 3 0).toNat = x3) := ⟨_, rfl⟩
    have hx1 : x1 < 256 := by rw [← HX1.out]; exact (b.getD 1 0).toNat_lt
    have hx2 : x2 < 256 := by rw [← HX2.out]; exact (b.getD 2 0).toNat_lt
    have hx3 : x3 < 256 := by rw [← HX3.out]; exact (b.getD 3 0).toNat_lt
    have p0 := HDR.out.cell (p := ⟨g, o, none⟩) HGG.out
    rw [q0] at p0
    have p1 := (HDR.out.cell (p := ⟨g, o + 1, none⟩) HGG.out).trans (HCC.out 1 (by omega))
    rw [HX1.out] at p1
    have p2 := (HDR.out.cell (p := ⟨g, o + 2, none⟩) HGG.out).trans (HCC.out 2 (by omega))
    rw [HX2.out] at p2
    have p3 := (HDR.out.cell (p := ⟨g, o + 3, none⟩) HGG.out).trans (HCC.out 3 (by omega))
    rw [HX3.out] at p3
    have HNA : Hid (Go.Proofs.YtpemajghaceegaaGreatDoor.n2 b 1 = 256 * x1 + x2) := by show _ = _; unfold Go.Proofs.YtpemajghaceegaaGreatDoor.n2; rw [HX1.out, HX2.out]
    have HSD := hidD (by_sub HY2.out HN.out 4 (m2 - 5) (by omega) hnc HGG.out)
    obtain ⟨dd, HDD⟩ : ∃ dd, Hid ((b.drop 4).take (m2 - 5) = dd) := ⟨_, rfl⟩
    have HDL : Hid (dd.length = m2 - 5) := by show _ = _; rw [← HDD.out, List.length_take, List.length_drop, HN.out]; omega
    rw [HNA.out, HX3.out, HDD.out] at HR
    rw [HDD.out] at HSD
    obtain ⟨A, HA⟩ : ∃ A : Nat, Hid (256 * x1 + x2 = A) := ⟨_, rfl⟩
    rw [HA.out] at HR
    obtain ⟨mb, HMB⟩ : ∃ mb, Hid (mayS 1 (x3 : Nat) (A : Nat) dd = mb) := ⟨_, rfl⟩
    have HM := hidD (fun w v h => refMay_any 1 (x3 : Nat) (A : Nat) v dd (by rw [HDL.out]; omega) w h)
    rw [HMB.out] at HM
    have HRF : Hid (r = if mb then .ok (1, x3, A, dd) else .error 210) := by show _ = _; rw [HRB.out, HR.out, ← HMB.out]; rfl
    have HDB : Hid (Below w.heap.size w w2.drew) := Below.next HB2.out HDR.out
    have HSD2 := hidD (HSD.out.next HDR.out)
    have HPB : Hid (∀ n, Below w2.drew.heap.size w2.drew (w2.drew.drewN n)) := fun n => below_drewN (Below.refl _ _) n
    have hxm : (256 : Int) * x1 + x2 < 65536 := by omega
    have HAI : Hid ((256 : Int) * x1 + x2 = (A : Int)) := by have := HA.out; show _ = _; omega
    have HLE : Hid (dd.length ≤ 300) := by rw [HDL.out]; show _ ≤ _; omega
    generalize w2.drew = W2 at *
    go_wp2_with fail
    go_quiet (fail)
    rw [HAI.out]
    have HDB3 := hidD (Below.next HDB.out (HPB.out nq))
    have HSD3 := hidD (HSD2.out.next (HPB.out nq))
    have HSL : Hid (∀ L M : Nat, L = m2 - 5 → M = c2 - 4 → ByAt (W2.drewN nq) (.slice (some ⟨g, o + 4, none⟩) L M) dd) := fun L M h h' => by subst h; subst h'; exact HSD3.out
    go_wp2_with fail
    go_at_call 39
    refine (HM.out _ _ (HSL.out _ _ (by omega) rfl)).mono ?_
    rintro e w5 ⟨rfl, hw5⟩
    subst w5
    clear HM p0 p1 p2 p3
    have HYE : Hid (∀ o, Below (W2.drewN nq).heap.size (W2.drewN nq) ((W2.drewN nq).alloc o)) := fun o => (Below.refl _ _).alloc (Nat.le_refl _) o
    generalize W2.drewN nq = W3 at *
    cases mb with
    | false =>
      go_wp2_with fail
      refine bodyPost_ret (v := .tuple #[.int .i64 0, .int .i64 0, .int .i64 0, .slice none 0 0, .int .i64 210]) (by simp [results, Tryz.results19, go_sem]) rfl ?_
      rw [HRF.out]
      exact ⟨HDB3.out, rfl, .inl rfl⟩
    | true =>
      go_wp2_with first
        | (at_builtin
           refine wpList_append_by rfl _ _ rfl W3.heap.size (.slice (some ⟨W3.heap.size, 0, none⟩) 0 0) 0 [] rfl (full_row (Nat.le_refl _) rfl (by decide) (heap_alloc_last _ _)) _ dd rfl ((HSL.out _ _ (by omega) rfl).next (HYE.out _)) (by have := HLE.out; omega) (HYE.out _).size ?_
           intro v6 w6 hown6 hg6
           rw [Nat.zero_add, List.nil_append] at hown6
           have HO6 := hidD hown6
           have HB6 : Hid (Below W3.heap.size W3 w6) := row_grown (xs := []) (full_row (Nat.le_refl _) rfl (by decide) (heap_alloc_last _ _)) (HYE.out _) hg6 (HYE.out _).size
           obtain ⟨a6, c6, rfl⟩ := row_shape hown6
           clear hown6 hg6)
      refine bodyPost_ret (v := .tuple #[.int .i64 1, .int .i64 (x3 : Int), .int .i64 (A : Int), .slice a6 dd.length c6, .int .i64 0]) (by simp [results, Tryz.results19, go_sem]) rfl ?_
      rw [HRF.out]
      exact ⟨Below.next HDB3.out HB6.out, _, rfl, by_of_own HO6.out⟩

set_option maxRecDepth 100000 in
set_option maxHeartbeats 12800000 in
theorem refSplitMos_any (t : List UInt8) (ht : t.length ≤ 140737488355000) (w : World) :
    Calls Tryz.prog 19 #[.string (bA (59 :: t))] w fun e w' => SplIs (match unS t with | none => .error 210 | some b => mosS b) e w w' := by
  obtain ⟨r, HR0⟩ : ∃ r : Res, Hid ((match unS t with | none => (.error 210 : Res) | some b => mosS b) = r) := ⟨_, rfl⟩
  rw [HR0.out]
  have hex := ba_tail 59 t
  have hsz : (1 : Int) ≤ (bA (59 :: t)).size := by rw [ba_size, List.length_cons]; omega
  have hsz1 : ¬ ((bA (59 :: t)).size : Int) < 1 := by omega
  have hsz0 : 0 < (bA (59 :: t)).size := by omega
  have hsz0i : (0 : Int) < (bA (59 :: t)).size := by omega
  have HG := hidD (ba_get (59 :: t) 0 hsz0)
  have HUX := hidD (fun w => refUnhex_any t ht w)
  have HSZ := hidD (show (bA (59 :: t)).size = t.length + 1 by rw [ba_size]; rfl)
  have hsb : (bA (59 :: t)).size ≤ 140737488355100 := by rw [HSZ.out]; omega
  generalize bA (59 :: t) = s at *
  have z58 : (((s[0]'hsz0).toNat : Int) == 58) = false := by rw [HG.out]; rfl
  have z83 : (((s[0]'hsz0).toNat : Int) == 83) = false := by rw [HG.out]; rfl
  have z59 : (((s[0]'hsz0).toNat : Int) == 59) = true := by rw [HG.out]; rfl
  go_enter Tryz.func19, Tryz.ntmps19
  go_wp2_with fail
  go_at_call 43
  refine (HUX.out _).mono ?_
  rintro e w2 ⟨a2, m2, c2, ok, rfl, h1, h2, hb⟩
  have HB2 := hidD hb
  cases hu : unS t with
  | none =>
    obtain rfl := h2 hu
    have HR1 : Hid (r = .error 210) := by show _ = _; rw [← HR0.out, hu]
    clear h1 h2 hb HUX HR0
    go_wp2_with fail
    refine bodyPost_ret (v := .tuple #[.int .i64 0, .int .i64 0, .int .i64 0, .slice none 0 0, .int .i64 210]) (by simp [results, Tryz.results19, go_sem]) rfl ?_
    rw [HR1.out]
    exact ⟨HB2.out, rfl, .inl rfl⟩
  | some b =>
    obtain ⟨rfl, hown⟩ := h1 b hu
    obtain ⟨hn2, hnc, hc2, hcell⟩ := by_addr (by_of_own hown)
    have HY2 : Hid (ByAt w2 (.slice a2 m2 c2) b) := by_of_own hown
    have HUL := un_len t b hu
    have hNT : m2 ≤ 140737488355000 := by omega
    have HN := hidD hn2.symm
    have HRB : Hid (r = mosS b) := by show _ = _; rw [← HR0.out, hu]
    have HR := hidD (show mosS b = if b.length < 5 ∨ b.length ≠ (b.getD 0 0).toNat + 5 then .error 210 else if totS (b.take (b.length - 2)) % 65536 ≠ n2 b (b.length - 2) then .error 211 else finS 3 (if (b.getD 0 0).toNat = 0 then 1 else 0) (n2 b 1) ((b.drop 3).take (b.length - 5)) from rfl)
    have hS12 : (2 : Nat) ≤ 2 := Nat.le_refl _
    clear h1 h2 hb HUX hn2 hu HR0
    dsimp only
    by_cases c0 : m2 = 0
    · have HR1 : Hid (mosS b = .error 210) := by show _ = _; rw [HR.out, if_pos (.inl (by rw [HN.out]; omega))]
      subst c0
      clear hcell hown
      go_wp2_with fail
      refine bodyPost_ret (v := .tuple #[.int .i64 0, .int .i64 0, .int .i64 0, .slice none 0 0, .int .i64 210]) (by simp [results, Tryz.results19, go_sem]) rfl ?_
      rw [HRB.out, HR1.out]
      exact ⟨HB2.out, rfl, .inl rfl⟩
    obtain ⟨g, o, rfl, hg, hcc⟩ := hcell (by omega)
    have HGG := hidD hg
    have HCC := hidD hcc
    have c0i : ¬ (m2 : Int) < 1 := by omega
    have c0j : (0 : Int) < m2 := by omega
    obtain ⟨x0, HX0⟩ : ∃ x0, Hid ((b.getD 0 0).toNat = x0) := ⟨_, rfl⟩
    have hx0 : x0 < 256 := by rw [← HX0.out]; exact (b.getD 0 0).toNat_lt
    have q0 := hcc 0 (by omega)
    rw [Nat.add_zero, HX0.out] at q0
    rw [HN.out, HX0.out] at HR
    clear hcell hown hg hcc
    go_wp2_with fail
    · have hcn : ((m2 : Int) != (x0 : Int) + 5) = true := by assumption
      have cn := bne_iff_ne.1 hcn
      have HR1 : Hid (mosS b = .error 210) := by show _ = _; rw [HR.out, if_pos (.inr (by omega))]
      refine bodyPost_ret (v := .tuple #[.int .i64 0, .int .i64 0, .int .i64 0, .slice none 0 0, .int .i64 210]) (by simp [results, Tryz.results19, go_sem]) rfl ?_
      rw [HRB.out, HR1.out]
      exact ⟨HB2.out, rfl, .inl rfl⟩
    have hcn : ((m2 : Int) != (x0 : Int) + 5) = false := by assumption
    have cn : m2 = x0 + 5 := by have := ne_f hcn; omega
    rw [if_neg (by omega)] at HR
    clear hcn
    have hn5 : m2 - 2 = x0 + 3 := by omega
    obtain ⟨T, HTE⟩ : ∃ T, Hid (totS (b.take (m2 - 2)) = T) := ⟨_, rfl⟩
    have HTK : Hid ((b.take (m2 - 2)).length = x0 + 3) := by show _ = _; rw [List.length_take, HN.out]; omega
    have hTL : T ≤ 72057594037927936 := by have := tot_le (b.take (m2 - 2)); rw [HTE.out, HTK.out] at this; omega
    have HT1 := hidD (fun w h => refTotal_any (.slice (some ⟨g, o, none⟩) (x0 + 3) c2) (b.take (m2 - 2)) (by rw [HTK.out]; omega) w h)
    rw [HTE.out] at HT1
    have HYT : Hid (ByAt w2 (.slice (some ⟨g, o, none⟩) (x0 + 3) c2) (b.take (m2 - 2))) := by
      have := by_sub HY2.out HN.out 0 (x0 + 3) (by omega) hnc HGG.out
      rw [List.drop_zero, Nat.sub_zero, Nat.add_zero] at this
      rw [hn5]
      exact this
    obtain ⟨y0, HQ0⟩ : ∃ y0, Hid ((b.getD (x0 + 3) 0).toNat = y0) := ⟨_, rfl⟩
    obtain ⟨y1, HQ1⟩ : ∃ y1, Hid ((b.getD (x0 + 4) 0).toNat = y1) := ⟨_, rfl⟩
    have hy0 : y0 < 256 := by rw [← HQ0.out]; exact (b.getD (x0 + 3) 0).toNat_lt
    have hy1 : y1 < 256 := by rw [← HQ1.out]; exact (b.getD (x0 + 4) 0).toNat_lt
    have r0 := HCC.out (x0 + 3) (by omega)
    rw [HQ0.out] at r0
    have r1 := HCC.out (x0 + 4) (by omega)
    rw [HQ1.out] at r1
    have HN2 : Hid (Go.Proofs.YtpemajghaceegaaGreatDoor.n2 b (m2 - 2) = 256 * y0 + y1) := by
      show Go.Proofs.YtpemajghaceegaaGreatDoor.n2 b (m2 - 2) = _
      rw [hn5]; unfold Go.Proofs.YtpemajghaceegaaGreatDoor.n2; rw [HQ0.out, show x0 + 3 + 1 = x0 + 4 from rfl, HQ1.out]
    rw [HTE.out, HN2.out] at HR
    have HKK : Hid (∀ w', Below w2.heap.size w2 w' → ∃ i : KB w2 [g], w' = i.v) := fun w' hb => ⟨⟨w', fun y hy => by rw [List.mem_singleton] at hy; subst hy; exact hb.block _ HGG.out⟩, rfl⟩
    have HDR : Hid (Below w2.heap.size w2 w2.drew) := below_drewN (Below.refl _ _) 1
    have s0 : ∀ i : KB w2 [g], i.v.cell? ⟨g, o + (x0 + 3), none⟩ = some (.int .u8 (y0 : Int)) := fun i => (i.cell (b := g) (by simp) _).trans r0
    have s1 : ∀ i : KB w2 [g], i.v.cell? ⟨g, o + (x0 + 4), none⟩ = some (.int .u8 (y1 : Int)) := fun i => (i.cell (b := g) (by simp) _).trans r1
    have hn3 : (x0 : Int) + 3 ≤ m2 := by omega
    have hn3' : (x0 : Int) + 3 < m2 := by omega
    have hn4' : (x0 : Int) + 4 < m2 := by omega
    have hn3c : x0 + 3 ≤ c2 := by omega
    refine wp_region_seg [0, 0, 0, 0, 0, 0, 0, 1, 2, 0, 0, 0, 0, 0, 0, 0, 0, 0, 0, 0, 0, 0, 0, 2, 99, 99] 1 24 [g] (by kernel_rfl) (by kernel_rfl) (by kernel_rfl) (by kernel_rfl) (by kernel_rfl) (by kernel_rfl) (by kernel_rfl) (by kernel_rfl) (fun _ _ _ _ _ h => h) ?_
    simp only [SegW, pk, Nat.reduceMul, Nat.reduceAdd, Nat.reduceBEq, cond_true, cond_false]
    repeat (go_big_quiet_step (fail))
    refine wpQuiet_nil ?_
    go_wp2_with (go_at_call 41; refine (HT1.out _ (HYT.out.next HDR.out)).mono ?_; rintro e w3 ⟨rfl, hw3⟩; subst w3; clear HT1)
    refine ⟨HKK.out _ HDR.out, ?_⟩
    repeat (go_big_quiet_step (fail))
    refine wpQuiet_nil ?_
    go_wp2_with fail
    · have hct : ((T : Int) % 65536 != 256 * (y0 : Int) + (y1 : Int)) = true := by assumption
      have ct := bne_iff_ne.1 hct
      have HR1 : Hid (mosS b = .error 211) := by show _ = _; rw [HR.out, if_pos (by omega)]
      refine bodyPost_ret (v := .tuple #[.int .i64 0, .int .i64 0, .int .i64 0, .slice none 0 0, .int .i64 211]) (by simp [results, Tryz.results19, go_sem]) rfl ?_
      rw [HRB.out, HR1.out]
      exact ⟨Below.next HB2.out HDR.out, rfl, .inr rfl⟩
    have hct : ((T : Int) % 65536 != 256 * (y0 : Int) + (y1 : Int)) = false := by assumption
    have ct : T % 65536 = 256 * y0 + y1 := by have := ne_f hct; omega
    rw [if_neg (by omega)] at HR
    clear hct
    have hl1 : (1 : Int) < m2 := by omega
    have hl2 : (2 : Int) < m2 := by omega
    have hl3 : (3 : Int) < m2 := by omega
    obtain ⟨x1, HX1⟩ : ∃ x1, Hid ((b.getD 1 0).toNat = x1) := ⟨_, rfl⟩
    obtain ⟨x2, HX2⟩ : ∃ x2, Hid ((b.getD 2 0).toNat = x2) := ⟨_, rfl⟩
    obtain ⟨x3, HX3⟩ : ∃ x3, Hid ((b.getD 3 0).toNat = x3) := ⟨_, rfl⟩
    have hx1 : x1 < 256 := by rw [← HX1.out]; exact (b.getD 1 0).toNat_lt
    have hx2 : x2 < 256 := by rw [← HX2.out]; exact (b.getD 2 0).toNat_lt
    have hx3 : x3 < 256 := by rw [← HX3.out]; exact (b.getD 3 0).toNat_lt
    have p0 := HDR.out.cell (p := ⟨g, o, none⟩) HGG.out
    rw [q0] at p0
    have p1 := (HDR.out.cell (p := ⟨g, o + 1, none⟩) HGG.out).trans (HCC.out 1 (by omega))
    rw [HX1.out] at p1
    have p2 := (HDR.out.cell (p := ⟨g, o + 2, none⟩) HGG.out).trans (HCC.out 2 (by omega))
    rw [HX2.out] at p2
    have p3 := (HDR.out.cell (p := ⟨g, o + 3, none⟩) HGG.out).trans (HCC.out 3 (by omega))
    rw [HX3.out] at p3
    have HNA : Hid (Go.Proofs.YtpemajghaceegaaGreatDoor.n2 b 1 = 256 * x1 + x2) := by show _ = _; unfold Go.Proofs.YtpemajghaceegaaGreatDoor.n2; rw [HX1.out, HX2.out]
    have HSD := hidD (by_sub HY2.out HN.out 3 (m2 - 5) (by omega) hnc HGG.out)
    obtain ⟨dd, HDD⟩ : ∃ dd, Hid ((b.drop 3).take (m2 - 5) = dd) := ⟨_, rfl⟩
    have HDL : Hid (dd.length = m2 - 5) := by show _ = _; rw [← HDD.out, List.length_take, List.length_drop, HN.out]; omega
    rw [HNA.out, HDD.out] at HR
    rw [HDD.out] at HSD
    by_cases ck : x0 = 0
    · rw [if_pos ck] at HR
      have cki : ((x0 : Int) == 0) = true := beq_iff_eq.2 (by omega)
      obtain ⟨A, HA⟩ : ∃ A : Nat, Hid (256 * x1 + x2 = A) := ⟨_, rfl⟩
      rw [HA.out] at HR
      obtain ⟨mb, HMB⟩ : ∃ mb, Hid (mayS 3 (1 : Nat) (A : Nat) dd = mb) := ⟨_, rfl⟩
      have HM := hidD (fun w v h => refMay_any 3 (1 : Nat) (A : Nat) v dd (by rw [HDL.out]; omega) w h)
      rw [HMB.out] at HM
      have HRF : Hid (r = if mb then .ok (3, 1, A, dd) else .error 210) := by show _ = _; rw [HRB.out, HR.out, ← HMB.out]; rfl
      have HDB : Hid (Below w.heap.size w w2.drew) := Below.next HB2.out HDR.out
      have HSD2 := hidD (HSD.out.next HDR.out)
      have HPB : Hid (∀ n, Below w2.drew.heap.size w2.drew (w2.drew.drewN n)) := fun n => below_drewN (Below.refl _ _) n
      have hxm : (256 : Int) * x1 + x2 < 65536 := by omega
      have HAI : Hid ((256 : Int) * x1 + x2 = (A : Int)) := by have := HA.out; show _ = _; omega
      have HLE : Hid (dd.length ≤ 300) := by rw [HDL.out]; show _ ≤ _; omega
      generalize w2.drew = W2 at *
      go_wp2_with fail
      go_quiet (fail)
      rw [HAI.out]
      have HDB3 := hidD (Below.next HDB.out (HPB.out nq))
      have HSD3 := hidD (HSD2.out.next (HPB.out nq))
      have HSL : Hid (∀ L M : Nat, L = m2 - 5 → M = c2 - 3 → ByAt (W2.drewN nq) (.slice (some ⟨g, o + 3, none⟩) L M) dd) := fun L M h h' => by subst h; subst h'; exact HSD3.out
      go_wp2_with fail
      go_at_call 39
      refine (HM.out _ _ (HSL.out _ _ (by omega) rfl)).mono ?_
      rintro e w5 ⟨rfl, hw5⟩
      subst w5
      clear HM p0 p1 p2 p3
      have HYE : Hid (∀ o, Below (W2.drewN nq).heap.size (W2.drewN nq) ((W2.drewN nq).alloc o)) := fun o => (Below.refl _ _).alloc (Nat.le_refl _) o
      generalize W2.drewN nq = W3 at *
      cases mb with
      | false =>
        go_wp2_with fail
        refine bodyPost_ret (v := .tuple #[.int .i64 0, .int .i64 0, .int .i64 0, .slice none 0 0, .int .i64 210]) (by simp [results, Tryz.results19, go_sem]) rfl ?_
        rw [HRF.out]
        exact ⟨HDB3.out, rfl, .inl rfl⟩
      | true =>
        go_wp2_with first
          | (at_builtin
             refine wpList_append_by rfl _ _ rfl W3.heap.size (.slice (some ⟨W3.heap.size, 0, none⟩) 0 0) 0 [] rfl (full_row (Nat.le_refl _) rfl (by decide) (heap_alloc_last _ _)) _ dd rfl ((HSL.out _ _ (by omega) rfl).next (HYE.out _)) (by have := HLE.out; omega) (HYE.out _).size ?_
             intro v6 w6 hown6 hg6
             rw [Nat.zero_add, List.nil_append] at hown6
             have HO6 := hidD hown6
             have HB6 : Hid (Below W3.heap.size W3 w6) := row_grown (xs := []) (full_row (Nat.le_refl _) rfl (by decide) (heap_alloc_last _ _)) (HYE.out _) hg6 (HYE.out _).size
             obtain ⟨a6, c6, rfl⟩ := row_shape hown6
             clear hown6 hg6)
        refine bodyPost_ret (v := .tuple #[.int .i64 3, .int .i64 1, .int .i64 (A : Int), .slice a6 dd.length c6, .int .i64 0]) (by simp [results, Tryz.results19, go_sem]) rfl ?_
        rw [HRF.out]
        exact ⟨Below.next HDB3.out HB6.out, _, rfl, by_of_own HO6.out⟩
    rw [if_neg ck] at HR
    have cki : ((x0 : Int) == 0) = false := beq_eq_false_iff_ne.2 (by omega)
    obtain ⟨A, HA⟩ : ∃ A : Nat, Hid (256 * x1 + x2 = A) := ⟨_, rfl⟩
    rw [HA.out] at HR
    obtain ⟨mb, HMB⟩ : ∃ mb, Hid (mayS 3 (0 : Nat) (A : Nat) dd = mb) := ⟨_, rfl⟩
    have HM := hidD (fun w v h => refMay_any 3 (0 : Nat) (A : Nat) v dd (by rw [HDL.out]; omega) w h)
    rw [HMB.out] at HM
    have HRF : Hid (r = if mb then .ok (3, 0, A, dd) else .error 210) := by show _ = _; rw [HRB.out, HR.out, ← HMB.out]; rfl
    have HDB : Hid (Below w.heap.size w w2.drew) := Below.next HB2.out HDR.out
    have HSD2 := hidD (HSD.out.next HDR.out)
    have HPB : Hid (∀ n, Below w2.drew.heap.size w2.drew (w2.drew.drewN n)) := fun n => below_drewN (Below.refl _ _) n
    have hxm : (256 : Int) * x1 + x2 < 65536 := by omega
    have HAI : Hid ((256 : Int) * x1 + x2 = (A : Int)) := by have := HA.out; show _ = _; omega
    have HLE : Hid (dd.length ≤ 300) := by rw [HDL.out]; show _ ≤ _; omega
    generalize w2.drew = W2 at *
    go_wp2_with fail
    go_quiet (fail)
    rw [HAI.out]
    have HDB3 := hidD (Below.next HDB.out (HPB.out nq))
    have HSD3 := hidD (HSD2.out.next (HPB.out nq))
    have HSL : Hid (∀ L M : Nat, L = m2 - 5 → M = c2 - 3 → ByAt (W2.drewN nq) (.slice (some ⟨g, o + 3, none⟩) L M) dd) := fun L M h h' => by subst h; subst h'; exact HSD3.out
    go_wp2_with fail
    go_at_call 39
    refine (HM.out _ _ (HSL.out _ _ (by omega) rfl)).mono ?_
    rintro e w5 ⟨rfl, hw5⟩
    subst w5
    clear HM p0 p1 p2 p3
    have HYE : Hid (∀ o, Below (W2.drewN nq).heap.size (W2.drewN nq) ((W2.drewN nq).alloc o)) := fun o => (Below.refl _ _).alloc (Nat.le_refl _) o
    generalize W2.drewN nq = W3 at *
    cases mb with
    | false =>
      go_wp2_with fail
      refine bodyPost_ret (v := .tuple #[.int .i64 0, .int .i64 0, .int .i64 0, .slice none 0 0, .int .i64 210]) (by simp [results, Tryz.results19, go_sem]) rfl ?_
      rw [HRF.out]
      exact ⟨HDB3.out, rfl, .inl rfl⟩
    | true =>
      go_wp2_with first
        | (at_builtin
           refine wpList_append_by rfl _ _ rfl W3.heap.size (.slice (some ⟨W3.heap.size, 0, none⟩) 0 0) 0 [] rfl (full_row (Nat.le_refl _) rfl (by decide) (heap_alloc_last _ _)) _ dd rfl ((HSL.out _ _ (by omega) rfl).next (HYE.out _)) (by have := HLE.out; omega) (HYE.out _).size ?_
           intro v6 w6 hown6 hg6
           rw [Nat.zero_add, List.nil_append] at hown6
           have HO6 := hidD hown6
           have HB6 : Hid (Below W3.heap.size W3 w6) := row_grown (xs := []) (full_row (Nat.le_refl _) rfl (by decide) (heap_alloc_last _ _)) (HYE.out _) hg6 (HYE.out _).size
           obtain ⟨a6, c6, rfl⟩ := row_shape hown6
           clear hown6 hg6)
      refine bodyPost_ret (v := .tuple #[.int .i64 3, .int .i64 0, .int .i64 (A : Int), .slice a6 dd.length c6, .int .i64 0]) (by simp [results, Tryz.results19, go_sem]) rfl ?_
      rw [HRF.out]
      exact ⟨Below.next HDB3.out HB6.out, _, rfl, by_of_own HO6.out⟩

set_option maxRecDepth 100000 in
set_option maxHeartbeats 3200000 in
theorem refSplitNil_any  (w : World) : Calls Tryz.prog 19 #[.string (bA ([]))] w fun e w' => SplIs (.error 210) e w w' := by
  have hs1 : ((bA []).size : Int) < 1 := by decide
  generalize bA [] = s at *
  go_enter Tryz.func19, Tryz.ntmps19
  go_wp2_with fail
  refine bodyPost_ret (v := .tuple #[.int .i64 0, .int .i64 0, .int .i64 0, .slice none 0 0, .int .i64 210]) (by simp [results, Tryz.results19, go_sem]) rfl ?_
  exact ⟨Below.refl _ _, rfl, .inl rfl⟩
set_option maxRecDepth 100000 in
set_option maxHeartbeats 3200000 in
theorem refSplitOther_any (c : UInt8) (t : List UInt8) (ht : t.length ≤ 140737488355000) (h1 : ¬ c = 58) (h2 : ¬ c = 83) (h3 : ¬ c = 59) (w : World) : Calls Tryz.prog 19 #[.string (bA (c :: t))] w fun e w' => SplIs (.error 210) e w w' := by
  have hsz1 : ¬ ((bA (c :: t)).size : Int) < 1 := by rw [ba_size]; simp only [List.length_cons]; omega
  have hsz0 : 0 < (bA (c :: t)).size := by omega
  have hsz0i : (0 : Int) < (bA (c :: t)).size := by omega
  have HG := hidD (ba_get (c :: t) 0 hsz0)
  have HSZ := hidD (show (bA (c :: t)).size = t.length + 1 by rw [ba_size]; rfl)
  have hsb : (bA (c :: t)).size ≤ 140737488355100 := by rw [HSZ.out]; omega
  generalize bA (c :: t) = s at *
  have z58 : (((s[0]'hsz0).toNat : Int) == 58) = false := by rw [HG.out]; exact u8_f 58 rfl h1
  have z83 : (((s[0]'hsz0).toNat : Int) == 83) = false := by rw [HG.out]; exact u8_f 83 rfl h2
  have z59 : (((s[0]'hsz0).toNat : Int) == 59) = false := by rw [HG.out]; exact u8_f 59 rfl h3
  go_enter Tryz.func19, Tryz.ntmps19
  go_wp2_with fail
  refine bodyPost_ret (v := .tuple #[.int .i64 0, .int .i64 0, .int .i64 0, .slice none 0 0, .int .i64 210]) (by simp [results, Tryz.results19, go_sem]) rfl ?_
  exact ⟨Below.refl _ _, rfl, .inl rfl⟩
set_option maxRecDepth 100000 in
set_option maxHeartbeats 3200000 in
theorem refSplitOne_any  (w : World) : Calls Tryz.prog 19 #[.string (bA ([83]))] w fun e w' => SplIs (.error 210) e w w' := by
  have hsz1 : ¬ ((bA ([83])).size : Int) < 1 := by rw [ba_size]; simp only [List.length_cons]; omega
  have hsz0 : 0 < (bA ([83])).size := by omega
  have hsz0i : (0 : Int) < (bA ([83])).size := by omega
  have HG := hidD (ba_get ([83]) 0 hsz0)
  have hs2 : ((bA [83]).size : Int) < 2 := by decide
  generalize bA [83] = s at *
  have z58 : (((s[0]'hsz0).toNat : Int) == 58) = false := by rw [HG.out]; rfl
  have z83 : (((s[0]'hsz0).toNat : Int) == 83) = true := by rw [HG.out]; rfl
  go_enter Tryz.func19, Tryz.ntmps19
  go_wp2_with fail
  refine bodyPost_ret (v := .tuple #[.int .i64 0, .int .i64 0, .int .i64 0, .slice none 0 0, .int .i64 210]) (by simp [results, Tryz.results19, go_sem]) rfl ?_
  exact ⟨Below.refl _ _, rfl, .inl rfl⟩
set_option maxRecDepth 100000 in
set_option maxHeartbeats 3200000 in
theorem refSplitKind_any (k : UInt8) (u : List UInt8) (hu : u.length ≤ 140737488355000) (h48 : ¬ k = 48) (h49 : ¬ k = 49) (h53 : ¬ k = 53) (h57 : ¬ k = 57) (w : World) : Calls Tryz.prog 19 #[.string (bA (83 :: k :: u))] w fun e w' => SplIs (.error 210) e w w' := by
  have hsz1 : ¬ ((bA (83 :: k :: u)).size : Int) < 1 := by rw [ba_size]; simp only [List.length_cons]; omega
  have hsz0 : 0 < (bA (83 :: k :: u)).size := by omega
  have hsz0i : (0 : Int) < (bA (83 :: k :: u)).size := by omega
  have HG := hidD (ba_get (83 :: k :: u) 0 hsz0)
  have HSZ := hidD (show (bA (83 :: k :: u)).size = u.length + 2 by rw [ba_size]; rfl)
  have hsb : (bA (83 :: k :: u)).size ≤ 140737488355100 := by rw [HSZ.out]; omega
  have hsz2 : ¬ ((bA (83 :: k :: u)).size : Int) < 2 := by rw [HSZ.out]; omega
  have hs1 : 1 < (bA (83 :: k :: u)).size := by omega
  have hs1i : (1 : Int) < (bA (83 :: k :: u)).size := by omega
  have HG1 := hidD (ba_get (83 :: k :: u) 1 hs1)
  generalize bA (83 :: k :: u) = s at *
  have z58 : (((s[0]'hsz0).toNat : Int) == 58) = false := by rw [HG.out]; rfl
  have z83 : (((s[0]'hsz0).toNat : Int) == 83) = true := by rw [HG.out]; rfl
  have y48 : (((s[1]'hs1).toNat : Int) != 48) = true := by rw [HG1.out]; exact u8_nf 48 rfl (fun h => h48 (UInt8.toNat_inj.1 h))
  have y49 : (((s[1]'hs1).toNat : Int) != 49) = true := by rw [HG1.out]; exact u8_nf 49 rfl (fun h => h49 (UInt8.toNat_inj.1 h))
  have y53 : (((s[1]'hs1).toNat : Int) != 53) = true := by rw [HG1.out]; exact u8_nf 53 rfl (fun h => h53 (UInt8.toNat_inj.1 h))
  have y57 : (((s[1]'hs1).toNat : Int) != 57) = true := by rw [HG1.out]; exact u8_nf 57 rfl (fun h => h57 (UInt8.toNat_inj.1 h))
  go_enter Tryz.func19, Tryz.ntmps19
  go_wp2_with fail
  refine bodyPost_ret (v := .tuple #[.int .i64 0, .int .i64 0, .int .i64 0, .slice none 0 0, .int .i64 210]) (by simp [results, Tryz.results19, go_sem]) rfl ?_
  exact ⟨Below.refl _ _, rfl, .inl rfl⟩
end Go.Proofs.YtpemajghaceegaaGreatDoor
