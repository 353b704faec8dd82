/- Texts of one proof, one behind the other. -/
import Derived.Test.YtnldpofljeodiaaGr
/- ShaStates. -/
namespace Go.Proofs.Ytnldpofljeodiaa
open Go.RowKit
set_option linter.unusedVariables false

theorem StAt.grown {w w' : World} {g k : Nat} {s : Ps} {row : Option Nat} (h : StAt w g k s) (hg : w.grownBy w' row) (hne : some g ≠ row) : StAt w' g k s := (hg.block g h.lt hne).trans h
theorem ByAt.butN {g : Nat} {w w' : World} {sl : Value} {bs : List UInt8} (h : ByAt w sl bs) (hb : But g w w') (hn : bs ≠ [] → Off sl g) : ByAt w' sl bs := by
  by_cases he : bs = []
  · rcases h with h | ⟨g', off, cap, rfl, hg, hc⟩
    · exact .inl h
    · subst he
      exact .inl ⟨rfl, some ⟨g', off, none⟩, cap, rfl, nofun⟩
  · exact h.but hb (hn he)
set_option maxRecDepth 100000 in
theorem clone_none (w : World) : Calls Try.prog 32 #[.pointer none] w fun e w' => e = .returned (.pointer none) ∧ w' = w := by
  go_enter Try.func32, Try.ntmps32
  go_wp2_with fail
  go_ret
  exact ⟨rfl, rfl⟩
set_option maxRecDepth 100000 in
set_option maxHeartbeats 2000000 in
theorem states_no (x : Int) (h : x ≠ 224 ∧ x ≠ 256 ∧ x ≠ 384 ∧ x ≠ 512) (sl : Value) (z : Int) (w : World) : Calls Try.prog 7 #[.int .i64 x, sl, .int .i64 z] w fun e w' => e = .returned (.bool true) ∧ Below w.heap.size w w' := by
  have H30 := hidD (begin_no x h)
  have H31 := hidD (rBegin_no x h)
  have HN1 := hidD (no_any 1)
  have HLV := hidD live_any
  have H26 := hidD write_none
  have H28 := hidD stSum_none
  have H27 := hidD len_nil
  have H32 := hidD clone_none
  clear h
  go_enter Try.func7, Try.ntmps7
  go_wp2_with (first
    | (go_at_call 30; refine (H30.out _).mono ?_; rintro e wz ⟨rfl, hwz⟩; subst wz)
    | (go_at_call 31; refine (H31.out _).mono ?_; rintro e w1 ⟨rfl, hb1⟩; have HB1 := hidD hb1; clear hb1)
    | (go_at_call 12; refine (HN1.out _).mono ?_; rintro e wz ⟨rfl, hwz⟩; subst wz)
    | (go_at_call 13; refine (HLV.out _).mono ?_; rintro e w2 ⟨rfl, hb2⟩; have HB2 := hidD (Below.next HB1.out hb2); clear hb2)
    | (go_at_call 26; refine (H26.out _ _).mono ?_; rintro e wz ⟨rfl, hwz⟩; subst wz)
    | (go_at_call 28; refine (H28.out _).mono ?_; rintro e wz ⟨rfl, hwz⟩; subst wz)
    | (go_at_call 27; refine (H27.out _).mono ?_; rintro e wz ⟨rfl, hwz⟩; subst wz)
    | (go_at_call 32; refine (H32.out _).mono ?_; rintro e wz ⟨rfl, hwz⟩; subst wz))
  all_goals try (apply False.elim; apply undef_boolT; assumption)
  refine bodyPost_ret (v := .bool true) (by simp [results, Try.results7, go_sem]) rfl ⟨rfl, HB2.out.alloc HB2.out.size _⟩
set_option maxRecDepth 100000 in
set_option maxHeartbeats 8000000 in
theorem states_any (k : Nat) (hk : Kind k) (L : List (List UInt8)) (hL : L.length ≤ 1048576) (hp : ∀ q, q < L.length → (L.getD q []).length ≤ 1048576) (sl : Value) (z : Int) (w : World) (hs : PcAt w sl L) : Calls Try.prog 7 #[.int .i64 (k : Int), sl, .int .i64 z] w fun e w' => e = .returned (.bool true) ∧ Below w.heap.size w w' := by
  obtain ⟨ap, cp, rfl, hsh⟩ := hs
  have H30 := hidD (begin_any k hk)
  have H31 := hidD (rBegin3_any k hk)
  have HN0 := hidD (no_any 0)
  have HLV := hidD live_any
  have HCL : Hid (∀ (g : Nat) (s : Ps) (w : World), StAt w g k s → Calls Try.prog 32 #[.pointer (some ⟨g, 0, none⟩)] w fun e w' => ∃ g', e = .returned (.pointer (some ⟨g', 0, none⟩)) ∧ w.heap.size ≤ g' ∧ StAt w' g' k s ∧ Below w.heap.size w w') := fun g s w h => clone_any k g s w h
  have HOI : Hid (∀ (P : List UInt8) (LP : Nat) (a : Option Addr) (c : Nat) (w : World), P.length = LP → LP ≤ 1099511627776 → ByAt w (.slice a LP c) P → Calls Try.prog 8 #[.slice a LP c] w fun e w' => ∃ g c', e = .returned (.slice (some ⟨g, 0, none⟩) LP c') ∧ w.heap.size ≤ g ∧ g < w'.heap.size ∧ LP ≤ c' ∧ w'.ownsRow w.heap.size 5 1 (.slice (some ⟨g, 0, none⟩) LP c') LP (P.map encB) ∧ Below w.heap.size w w') := fun P LP a c w h1 h2 h3 => by
    subst h1; exact ownC_any P (by omega) a c w h3
  have HWR : Hid (∀ (g : Nat) (P Q : List UInt8) (LQ : Nat) (a : Option Addr) (c : Nat) (w : World), Q.length = LQ → True → LQ ≤ 1048576 → StAt w g k (feedP k (newP k) P) → ByAt w (.slice a LQ c) Q → (Q ≠ [] → Off (.slice a LQ c) g) → Calls Try.prog 26 #[.pointer (some ⟨g, 0, none⟩), .slice a LQ c] w fun e w' => e = .returned (.int .i64 (LQ : Int)) ∧ StAt w' g k (feedP k (newP k) (P ++ Q)) ∧ But g w w') := fun g P Q LQ a c w h1 _ h2 h3 h4 h5 => by
    subst h1
    have h := write_any k hk g (feedP k (newP k) P) (feed_nlt k _ (show 0 < 18446744073709551616 by decide) P) (feed_lt2 k hk P) Q (by omega) a c w h3 h4 h5
    rw [← feed_app] at h
    exact h
  have HSI : Hid (∀ (P : List UInt8) (u v : Value) (w : World), P.length ≤ 1048576 → ByAt w u P → ByAt w v P → Calls Try.prog 11 #[u, v] w fun e w' => e = .returned (.bool true) ∧ Below w.heap.size w w') := fun P u v w h1 h2 h3 => same_true P (by omega) u v w h2 h3
  have hk8 : k / 8 ≤ 64 ∧ 28 ≤ k / 8 := by rcases hk with rfl | rfl | rfl | rfl <;> decide
  have HSD : Hid (∀ (P : List UInt8) (u v : Value) (w : World), ByAt w u (shaL k P) → ByAt w v (shaL k P) → Calls Try.prog 11 #[u, v] w fun e w' => e = .returned (.bool true) ∧ Below w.heap.size w w') := fun P u v w h2 h3 => same_true (shaL k P) (by rw [shaL_len]; omega) u v w h2 h3
  have HSS : Hid (∀ (g : Nat) (P : List UInt8) (w : World), True → StAt w g k (feedP k (newP k) P) → Calls Try.prog 28 #[.pointer (some ⟨g, 0, none⟩)] w fun e w' => ∃ g', e = .returned (.slice (some ⟨g', 0, none⟩) (k / 8) (k / 8)) ∧ w.heap.size ≤ g' ∧ RowZ w' g' .u8 (k / 8) 5 (fun i => ((dgP k (feedP k (newP k) P) i).toNat : Int)) ∧ ByAt w' (.slice (some ⟨g', 0, none⟩) (k / 8) (k / 8)) (shaL k P) ∧ Below w.heap.size w w') := fun g P w _ h => (stSum_any k hk g _ (feed_nlt k _ (show 0 < 18446744073709551616 by decide) P) (feed_lt2 k hk P) w h).mono fun e w' ⟨g', he, h1, hz, hb⟩ => ⟨g', he, h1, hz, rowZ_byL hz, hb⟩
  have HRS : Hid (∀ (g : Nat) (P : List UInt8) (LP : Nat) (a : Option Addr) (c : Nat) (w : World), P.length = LP → LP ≤ 1099511627776 → HfT w g k (hS k) 0 (.slice a LP c) → ByAt w (.slice a LP c) P → Calls Try.prog 29 #[.pointer (some ⟨g, 0, none⟩)] w fun e w' => ∃ u, e = .returned u ∧ ByAt w' u (shaL k P) ∧ Below w.heap.size w w') := fun g P LP a c w h1 h2 h3 h4 => by
    subst h1
    exact (h3.hf.sum hk (by decide) (Nat.zero_mod _) (newP_lt k hk) (by omega) h4).mono fun e w' ⟨g', cap, he, _, _, _, hby, hb⟩ => ⟨_, he, hby, hb⟩
  have HR10 : Hid (∀ (P : List UInt8) (LP : Nat) (a : Option Addr) (c : Nat) (w : World), P.length = LP → LP ≤ 1099511627777 → ByAt w (.slice a LP c) P → Calls Try.prog 10 #[.int .i64 (k : Int), .slice a LP c] w fun e w' => ∃ u, e = .returned (.tuple #[u, .int .i64 0]) ∧ ByAt w' u (shaL k P) ∧ Below w.heap.size w w') := fun P LP a c w h1 h2 h3 => by
    subst h1
    exact (rSum_any k hk P (by omega) a c w h3).mono fun e w' ⟨g', cap', he, _, hby, hb⟩ => ⟨_, he, hby, hb⟩
  have HLE : Hid (∀ (g : Nat) (P : List UInt8) (w : World), P.length ≤ 1099511627777 → StAt w g k (feedP k (newP k) P) → Calls Try.prog 27 #[.pointer (some ⟨g, 0, none⟩)] w fun e w' => e = .returned (.int .u64 (P.length : Int)) ∧ w' = w) := fun g P w h1 h2 => by
    have h := len_any g k _ w h2
    rw [feed_n k P _ (show (newP k).n < 18446744073709551616 by show 0 < _; decide), show (newP k).n = 0 from rfl, Nat.zero_add, Nat.mod_eq_of_lt (by omega)] at h
    exact h
  have HFL : Hid (∀ i, i ≤ L.length → ((L.take i).flatten).length ≤ 1099511627776) := fun i hi => by
    have h1 := flat_le hp i hi
    have h2 : i * 1048576 ≤ 1048576 * 1048576 := Nat.mul_le_mul_right _ (by omega)
    omega
  have HTK := hidD (fun i (h : i < L.length) => flat_take h)
  have HF0 : Hid ((L.take 0).flatten = []) := rfl
  have HPL := hidD hp
  have HSH := hidD hsh
  have hlf1 : True := trivial
  clear hk hp hsh
  obtain ⟨F, hF⟩ : ∃ F : Nat → List UInt8, (fun i => (L.take i).flatten) = F := ⟨_, rfl⟩
  have eF : ∀ i, (L.take i).flatten = F i := fun i => by rw [← hF]
  simp only [eF] at HFL HTK HF0
  clear eF hF
  generalize hDP : (fun P i => dgP k (feedP k (newP k) P) i) = DP at *
  have HSS2 : Hid (∀ (g : Nat) (P : List UInt8) (w : World), True → StAt w g k (feedP k (newP k) P) → Calls Try.prog 28 #[.pointer (some ⟨g, 0, none⟩)] w fun e w' => ∃ g', e = .returned (.slice (some ⟨g', 0, none⟩) (k / 8) (k / 8)) ∧ w.heap.size ≤ g' ∧ RowZ w' g' .u8 (k / 8) 5 (fun i => ((DP P i).toNat : Int)) ∧ ByAt w' (.slice (some ⟨g', 0, none⟩) (k / 8) (k / 8)) (shaL k P) ∧ Below w.heap.size w w') := by rw [← hDP]; exact HSS.out
  clear HSS hDP
  have HSS := hidD HSS2.out
  clear HSS2
  generalize k / 8 = SZ at *
  obtain ⟨N, hN⟩ : ∃ N : Nat, L.length = N := ⟨_, rfl⟩
  rcases Nat.eq_zero_or_pos L.length with hz0 | hz1
  · rw [hN] at hL HFL HTK hz0 ⊢
    clear HSH HPL hN
    go_enter Try.func7, Try.ntmps7
    go_wp2_with (first
      | (go_at_call 30; refine (H30.out _).mono ?_; rintro e w1 ⟨gs, rfl, hgs, hst1, hb1⟩; have HB1 := hidD hb1; have HS1 := hidD hst1; clear hst1 hb1 H30)
      | (go_at_call 31; refine (H31.out _).mono ?_; rintro e w2 ⟨gt, rfl, hgt, hht2, hb2⟩; have hsl1 := HS1.out.lt; have HS2 := hidD (HS1.out.next hb2); have HT2 := hidD hht2; have HB2 := hidD (Below.next HB1.out hb2); have hw01 := HB1.out.size; clear hht2 hb2 HS1 HB1 H31)
      | (go_at_call 12; refine (HN0.out _).mono ?_; rintro e wz ⟨rfl, hwz⟩; subst wz)
      | (go_at_call 13; refine (HLV.out _).mono ?_; rintro e w3 ⟨rfl, hb3⟩; have HS3 := hidD (HS2.out.next hb3); have HT3 := hidD (HT2.out.next hb3); have HB3 := hidD (Below.next HB2.out hb3); clear hb3 HS2 HT2 HB2 HLV))
    all_goals try (apply False.elim; apply undef_boolT; assumption)
    have hgts : gt ≠ gs := by omega
    have hwgs : w.heap.size ≤ gs := hgs
    have hwgt : w.heap.size ≤ gt := by omega
    have HS0 : Hid (StAt w3 gs k (feedP k (newP k) (F 0))) := by show StAt _ _ _ _; rw [HF0.out]; exact HS3.out
    have HT0 : Hid (HfT w3 gt k (hS k) 0 (.slice none (F 0).length 0)) := by show HfT _ _ _ _ _ _; rw [HF0.out]; exact HT3.out
    have HY0 : Hid (ByAt w3 (.slice none (F 0).length 0) (F 0)) := by show ByAt _ _ _; rw [HF0.out]; exact ByAt.nil _
    have HOF0 : Hid (F 0 ≠ [] → Off (.slice none (F 0).length 0) gs) := fun h => absurd HF0.out h
    clear HS3 HT3 HF0
    go_loopw [12, 13, 14] (fun cv fv iv wr => ∃ i : Nat, i ≤ N ∧ iv = .int .i64 (i : Int) ∧ StAt wr gs k (feedP k (newP k) (F i)) ∧ (∃ ab cb, HfT wr gt k (hS k) 0 (.slice ab (F i).length cb) ∧ ByAt wr (.slice ab (F i).length cb) (F i) ∧ (F i ≠ [] → Off (.slice ab (F i).length cb) gs)) ∧ FkAt k F w.heap.size gs gt wr cv fv ∧ Below w.heap.size w wr) (fun _ _ iv _ => N - (intOf iv).toNat)
    case atStart => exact ⟨0, by omega, rfl, HS0.out, ⟨none, 0, HT0.out, HY0.out, HOF0.out⟩, .inl ⟨rfl, rfl⟩, HB3.out⟩
    case round =>
      clear HS0 HT0 HY0 HOF0 HB3
      obtain ⟨i, hi, rfl, hst, ⟨ab, cb, hht, hbb, hoff⟩, hfk, hbel⟩ := hrel
      obtain rfl : N = i := by omega
      have HSN := hidD hst
      have HTN := hidD hht
      have HBN := hidD hbb
      have HFK := hidD hfk
      have HBWN := hidD hbel
      have hlPN := HFL.out N (by omega)
      clear hst hht hbb hoff hfk hbel
      obtain ⟨PN, hPN⟩ : ∃ PN : List UInt8, F N = PN := ⟨_, rfl⟩
      rw [hPN] at HSN HTN HBN hlPN
      clear hPN
      obtain ⟨LB, hLB⟩ : ∃ LB : Nat, PN.length = LB := ⟨_, rfl⟩
      rw [hLB] at HTN HBN
      have HLB := hidD hLB
      have hlB : LB ≤ 1099511627776 := by rw [← hLB]; exact hlPN
      clear hLB
      go_wp2_with fail
      go_at_call 28
      refine (HSS.out gs PN _ trivial HSN.out).mono ?_
      rintro e w1 ⟨gd, rfl, hgd, hrz, hby1, hb1⟩
      have HS1 := hidD (HSN.out.next hb1)
      have HT1 := hidD (HTN.out.next hb1)
      have HN1 := hidD (HBN.out.next hb1)
      have HD1 := hidD hby1
      have HF1 := hidD (HFK.out.next hb1)
      have HBW1 := hidD (Below.next HBWN.out hb1)
      clear hrz hby1 hb1 HSN HTN HBN HFK HBWN
      go_wp2_with fail
      go_at_call 29
      refine (HRS.out gt PN LB ab cb _ HLB.out hlB HT1.out HN1.out).mono ?_
      rintro e w2 ⟨u2, rfl, hy2, hb2⟩
      have HS2 := hidD (HS1.out.next hb2)
      have HF2 := hidD (HF1.out.next hb2)
      have HBW2 := hidD (Below.next HBW1.out hb2)
      have HM2 := hidD (HSD.out PN _ _ w2 (HD1.out.next hb2) hy2)
      clear hy2 hb2 HS1 HT1 HN1 HD1 HF1 HBW1
      go_wp2_with fail
      go_at_call 11
      refine HM2.out.mono ?_
      rintro e w3 ⟨rfl, hb3⟩
      have HS3 := hidD (HS2.out.next hb3)
      have HBW3 := hidD (Below.next HBW2.out hb3)
      have hfk3 := HF2.out.next hb3
      clear hb3 HS2 HF2 HBW2 HM2
      rcases hfk3 with ⟨rfl, rfl⟩ | ⟨gc, f, gf, cf, rfl, hsc, hgcs, hgct, hwgc, rfl, hlf, hrow⟩
      · go_wp2_with fail
        refine bodyPost_ret (v := .bool true) (by simp [results, Try.results7, go_sem]) rfl ⟨rfl, HBW3.out⟩
      · have HC3 := hidD hsc
        have HO3 := hidD hrow
        obtain ⟨PF, hPF⟩ : ∃ PF : List UInt8, F f = PF := ⟨_, rfl⟩
        rw [hPF] at HC3 HO3 hlf ⊢
        obtain ⟨LF, hLF⟩ : ∃ LF : Nat, PF.length = LF := ⟨_, rfl⟩
        rw [hLF] at HO3 hlf ⊢
        have HLF := hidD hLF
        have hlfL : PF.length ≤ 1099511627776 := by rw [hLF]; exact hlf
        clear hsc hrow hPF hLF
        go_wp2_with fail
        go_at_call 28
        refine (HSS.out gs PN _ trivial HS3.out).mono ?_
        rintro e w4 ⟨gl, rfl, hgl, hrz, hby4, hb4⟩
        have HS4 := hidD (HS3.out.next hb4)
        have HC4 := hidD (HC3.out.next hb4)
        have HO4 := hidD (row_below HO3.out hb4)
        have HLA4 := hidD hby4
        have HBW4 := hidD (Below.next HBW3.out hb4)
        have hgcl := HC3.out.lt
        have hgfl3 : gf < w3.heap.size := (HO3.out.lt gf rfl).2
        have hglc : gl ≠ gc := by omega
        have hglf : gl ≠ gf := by omega
        clear hrz hby4 hb4 HS3 HC3 HO3 HBW3
        go_wp2_with fail
        go_at_call 10
        refine (HR10.out PF LF _ _ _ HLF.out (Nat.le_trans hlf (by omega)) (row_by (bs := PF) (by rw [HLF.out]; exact HO4.out))).mono ?_
        rintro e w5 ⟨u5, rfl, hy5, hb5⟩
        have HS5 := hidD (HS4.out.next hb5)
        have HC5 := hidD (HC4.out.next hb5)
        have HO5 := hidD (row_below HO4.out hb5)
        have HLA5 := hidD (HLA4.out.next hb5)
        have HX5 := hidD hy5
        have HBW5 := hidD (Below.next HBW4.out hb5)
        clear hy5 hb5 HS4 HC4 HO4 HLA4 HBW4
        go_wp2_with fail
        go_at_call 28
        refine (HSS.out gc PF _ trivial HC5.out).mono ?_
        rintro e w6 ⟨g6, rfl, hg6, hrz6, hby6, hb6⟩
        have HS6 := hidD (HS5.out.next hb6)
        have HC6 := hidD (HC5.out.next hb6)
        have HO6 := hidD (row_below HO5.out hb6)
        have HLA6 := hidD (HLA5.out.next hb6)
        have HBW6 := hidD (Below.next HBW5.out hb6)
        have HM6 := hidD (HSD.out PF _ _ w6 hby6 (HX5.out.next hb6))
        clear hrz6 hby6 hb6 HS5 HC5 HO5 HLA5 HX5 HBW5
        go_wp2_with fail
        go_at_call 11
        refine HM6.out.mono ?_
        rintro e w7 ⟨rfl, hb7⟩
        have hba : Below w7.heap.size w7 (w7.alloc (.cells #[.int .u8 7] (5 : TypeId))) := (Below.refl _ _).alloc (Nat.le_refl _) _
        have HS7 := hidD ((HS6.out.next hb7).next hba)
        have HC7 := hidD ((HC6.out.next hb7).next hba)
        have HO7 := hidD (row_below (row_below HO6.out hb7) hba)
        have HLA7 := hidD ((HLA6.out.next hb7).next hba)
        have HBW7 := hidD (Below.next (Below.next HBW6.out hb7) hba)
        have hgc7 : gc < w7.heap.size := (HC6.out.next hb7).lt
        have HW7 := hidD (HWR.out gc PF [7] 1 (some ⟨w7.heap.size, 0, none⟩) 1 _ rfl trivial (by omega) ((HC6.out.next hb7).next hba) (ByAt.one w7 7) (fun _ => by intro h o m c he; cases he; omega))
        clear hb7 hba HS6 HC6 HO6 HLA6 HBW6 HM6
        have HON7 : Hid (∀ w : World, ByAt (w.alloc (.cells #[.int .u8 7] (5 : TypeId))) (.slice (some ⟨w.heap.size, 0, none⟩) 1 1) [7]) := fun w => ByAt.one w 7
        have hlq7 : LF + [(7 : UInt8)].length ≤ 140737488355328 := by simp; omega
        have HLF1 : Hid ((PF ++ [(7 : UInt8)]).length = LF + 1) := by show _ = _; rw [List.length_append, HLF.out]; rfl
        go_wp2_with (first
          | (go_at_call 26; refine HW7.out.mono ?_; rintro e w8 ⟨rfl, hs8, hb8⟩; have HC8 := hidD hs8; obtain ⟨cs7, hcs7⟩ := HC7.out.block; have HS8 := hidD (HS7.out.but hb8 (Ne.symm hgcs)); have HO8 := hidD (row_butQ HO7.out hb8 (fun g' hg' => row_type HO7.out hg' hcs7 (by decide))); have HLA8 := hidD (HLA7.out.but hb8 (by intro h o m c he; cases he; exact hglc)); have HBW8 : Hid (Below w.heap.size w w8) := HBW7.out.trans (hb8.bel.mono hwgc); have HA8 : Hid (Below w8.heap.size w8 (w8.alloc (.cells #[.int .u8 7] (5 : TypeId)))) := (Below.refl _ _).alloc (Nat.le_refl _) _; have HO8a := hidD (row_below HO8.out HA8.out); have HB8a := hidD (Below.next HBW8.out HA8.out); have hwz8 := HB8a.out.size; clear hs8 hb8 hcs7 HW7 HS7 HC7 HO7 HLA7 HBW7)
          | (at_builtin; refine wpList_append_by rfl (.tmp 187) (.tmp 188) rfl w.heap.size (.slice (some ⟨gf, 0, none⟩) LF cf) LF (PF.map encB) rfl HO8a.out (.slice (some ⟨w8.heap.size, 0, none⟩) 1 1) [7] rfl (HON7.out w8) hlq7 hwz8 ?_; intro v9 w9 hown9 hg9; obtain ⟨cs8, hcs8⟩ := (HC8.out.next HA8.out).block; obtain ⟨ds8, hds8⟩ := (HS8.out.next HA8.out).block; have HC9 := hidD ((HC8.out.next HA8.out).grown hg9 (fun he => row_type HO8a.out (g := gc) he.symm hcs8 (by decide) rfl)); have HS9 := hidD ((HS8.out.next HA8.out).grown hg9 (fun he => row_type HO8a.out (g := gs) he.symm hds8 (by decide) rfl)); have HLA9 := hidD ((HLA8.out.next HA8.out).grown hg9 (fun gg oo nn cc he => by cases he; intro hc; exact hglf (by simpa [Value.ownBlock] using hc))); have HB9 := hidD (row_grown HO8a.out HB8a.out hg9 hwz8); rw [← List.map_append] at hown9; have hbb9 := row_by (bs := PF ++ [7]) (by rw [HLF1.out]; exact hown9); obtain ⟨a9, c9, hv9⟩ := row_shape hown9; subst hv9; have HX9 := hidD (HR10.out (PF ++ [7]) (LF + 1) a9 c9 w9 HLF1.out (by omega) hbb9); clear hown9 hg9 hbb9 hcs8 hds8 HC8 HS8 HLA8 HBW8 HO8 HO8a HA8 HB8a)
          | (go_at_call 10; refine HX9.out.mono ?_; rintro e w10 ⟨u10, rfl, hy10, hb10⟩; have HC10 := hidD (HC9.out.next hb10); have HS10 := hidD (HS9.out.next hb10); have HLA10 := hidD (HLA9.out.next hb10); have HB10 := hidD (Below.next HB9.out hb10); have HY10 := hidD hy10; clear hy10 hb10 HX9 HC9 HS9 HLA9 HB9))
        all_goals try (apply False.elim; apply undef_boolT; assumption)
        go_at_call 28
        refine (HSS.out gc (PF ++ [7]) _ trivial HC10.out).mono ?_
        rintro e w11 ⟨g11, rfl, hg11, hrz11, hby11, hb11⟩
        have HC11 := hidD (HC10.out.next hb11)
        have HS11 := hidD (HS10.out.next hb11)
        have HLA11 := hidD (HLA10.out.next hb11)
        have HB11 := hidD (Below.next HB10.out hb11)
        have HM11 := hidD (HSD.out (PF ++ [7]) _ _ w11 hby11 (HY10.out.next hb11))
        clear hrz11 hby11 hb11 HC10 HS10 HLA10 HB10 HY10
        go_wp2_with fail
        go_at_call 11
        refine HM11.out.mono ?_
        rintro e w12 ⟨rfl, hb12⟩
        have HC12 := hidD (HC11.out.next hb12)
        have HS12 := hidD (HS11.out.next hb12)
        have HLA12 := hidD (HLA11.out.next hb12)
        have HB12 := hidD (Below.next HB11.out hb12)
        clear hb12 HC11 HS11 HLA11 HB11 HM11
        go_wp2_with fail
        go_at_call 28
        refine (HSS.out gs PN _ trivial HS12.out).mono ?_
        rintro e w13 ⟨g13, rfl, hg13, hrz13, hby13, hb13⟩
        have HC13 := hidD (HC12.out.next hb13)
        have HB13 := hidD (Below.next HB12.out hb13)
        have HM13 := hidD (HSD.out PN _ _ w13 hby13 (HLA12.out.next hb13))
        clear hrz13 hby13 hb13 HC12 HS12 HLA12 HB12
        go_wp2_with fail
        go_at_call 11
        refine HM13.out.mono ?_
        rintro e w14 ⟨rfl, hb14⟩
        have HB14 := hidD (Below.next HB13.out hb14)
        have HL14 := hidD (HLE.out gc (PF ++ [7]) w14 (by rw [HLF1.out]; omega) (HC13.out.next hb14))
        rw [HLF1.out] at HL14
        clear hb14 HC13 HB13 HM13
        have hlfi : ((LF + 1 : Nat) : Int) = (LF : Int) + 1 := by omega
        rw [hlfi] at HL14
        clear hlfi
        go_wp2_with (go_at_call 27; refine HL14.out.mono ?_; rintro e wz ⟨rfl, hwz⟩; subst wz)
        all_goals try (apply False.elim; apply undef_boolT; assumption)
        refine bodyPost_ret (v := .bool true) (by simp [results, Try.results7, go_sem]) rfl ⟨rfl, HB14.out⟩
  · obtain ⟨gp, op, rfl, hgp, HPC⟩ : ∃ gp op, ap = some ⟨gp, op, none⟩ ∧ gp < w.heap.size ∧ Hid (∀ q, q < N → ∃ ai LI ci PI, w.cell? ⟨gp, op + q, none⟩ = some (.slice ai LI ci) ∧ ByAt w (.slice ai LI ci) PI ∧ (L.getD q [] = PI ∧ PI.length = LI) ∧ LI ≤ 1048576) := by
      obtain ⟨g1, o1, v1, he1, hg1, _, _⟩ := HSH.out 0 hz1
      refine ⟨g1, o1, he1, hg1, fun q hq => ?_⟩
      obtain ⟨g2, o2, v2, he2, _, hc2, hb2⟩ := HSH.out q (by omega)
      rw [he1] at he2
      cases he2
      obtain ⟨a3, c3, he3, _⟩ := hb2.shape
      subst he3
      exact ⟨a3, _, c3, L.getD q [], hc2, hb2, ⟨rfl, rfl⟩, HPL.out q (by omega)⟩
    rw [hN] at hL HFL HTK hz1 ⊢
    clear HSH HPL hN
    go_enter Try.func7, Try.ntmps7
    go_wp2_with (first
      | (go_at_call 30; refine (H30.out _).mono ?_; rintro e w1 ⟨gs, rfl, hgs, hst1, hb1⟩; have HB1 := hidD hb1; have HS1 := hidD hst1; clear hst1 hb1 H30)
      | (go_at_call 31; refine (H31.out _).mono ?_; rintro e w2 ⟨gt, rfl, hgt, hht2, hb2⟩; have hsl1 := HS1.out.lt; have HS2 := hidD (HS1.out.next hb2); have HT2 := hidD hht2; have HB2 := hidD (Below.next HB1.out hb2); have hw01 := HB1.out.size; clear hht2 hb2 HS1 HB1 H31)
      | (go_at_call 12; refine (HN0.out _).mono ?_; rintro e wz ⟨rfl, hwz⟩; subst wz)
      | (go_at_call 13; refine (HLV.out _).mono ?_; rintro e w3 ⟨rfl, hb3⟩; have HS3 := hidD (HS2.out.next hb3); have HT3 := hidD (HT2.out.next hb3); have HB3 := hidD (Below.next HB2.out hb3); clear hb3 HS2 HT2 HB2 HLV))
    all_goals try (apply False.elim; apply undef_boolT; assumption)
    have hgts : gt ≠ gs := by omega
    have hwgs : w.heap.size ≤ gs := hgs
    have hwgt : w.heap.size ≤ gt := by omega
    have HS0 : Hid (StAt w3 gs k (feedP k (newP k) (F 0))) := by show StAt _ _ _ _; rw [HF0.out]; exact HS3.out
    have HT0 : Hid (HfT w3 gt k (hS k) 0 (.slice none (F 0).length 0)) := by show HfT _ _ _ _ _ _; rw [HF0.out]; exact HT3.out
    have HY0 : Hid (ByAt w3 (.slice none (F 0).length 0) (F 0)) := by show ByAt _ _ _; rw [HF0.out]; exact ByAt.nil _
    have HOF0 : Hid (F 0 ≠ [] → Off (.slice none (F 0).length 0) gs) := fun h => absurd HF0.out h
    clear HS3 HT3 HF0
    go_loopw [12, 13, 14] (fun cv fv iv wr => ∃ i : Nat, i ≤ N ∧ iv = .int .i64 (i : Int) ∧ StAt wr gs k (feedP k (newP k) (F i)) ∧ (∃ ab cb, HfT wr gt k (hS k) 0 (.slice ab (F i).length cb) ∧ ByAt wr (.slice ab (F i).length cb) (F i) ∧ (F i ≠ [] → Off (.slice ab (F i).length cb) gs)) ∧ FkAt k F w.heap.size gs gt wr cv fv ∧ Below w.heap.size w wr) (fun _ _ iv _ => N - (intOf iv).toNat)
    case atStart => exact ⟨0, by omega, rfl, HS0.out, ⟨none, 0, HT0.out, HY0.out, HOF0.out⟩, .inl ⟨rfl, rfl⟩, HB3.out⟩
    case round =>
      clear HS0 HT0 HY0 HOF0 HB3
      obtain ⟨i, hi, rfl, hst, ⟨ab, cb, hht, hbb, hoff⟩, hfk, hbel⟩ := hrel
      by_cases hlt : i < N
      · have hlti : (i : Int) < (N : Int) := by omega
        obtain ⟨ai, LI, ci, PI, hpc0, hbyi, hPIe, hlPI⟩ := HPC.out i hlt
        have HFN := hidD (HTK.out i hlt)
        have hlP0' := HFL.out i (by omega)
        have hlP1' := HFL.out (i + 1) (by omega)
        rw [hPIe.1] at HFN
        obtain ⟨P0, hP0⟩ : ∃ P0 : List UInt8, F i = P0 := ⟨_, rfl⟩
        rw [hP0] at hst hht hbb hoff HFN hlP0'
        obtain ⟨P1, hP1⟩ : ∃ P1 : List UInt8, P0 ++ PI = P1 := ⟨_, rfl⟩
        rw [hP1] at HFN
        rw [HFN.out] at hlP1'
        have HPN : Hid (P1 = P0 ++ PI) := hP1.symm
        obtain ⟨LB, hLB⟩ : ∃ LB : Nat, P0.length = LB := ⟨_, rfl⟩
        rw [hLB] at hht hbb hoff hlP0'
        have HLB := hidD hLB
        have HLI : Hid (PI.length = LI) := hPIe.2
        obtain ⟨LN, hLN⟩ : ∃ LN : Nat, LB + LI = LN := ⟨_, rfl⟩
        have HLN := hidD hLN
        have HL1 : Hid (P1.length = LN) := by show _ = _; rw [← hP1, List.length_append, hLB, HLI.out, hLN]
        have hlP1 : LN ≤ 1099511627776 := by rw [HL1.out] at hlP1'; exact hlP1'
        have hlP1L : P1.length ≤ 1099511627776 := hlP1'
        have hlP0 : LB ≤ 1099511627776 := hlP0'
        have hlPIL : PI.length ≤ 1048576 := by rw [HLI.out]; exact hlPI
        clear hP1 hLB hLN hPIe hlP0' hlP1'
        by_cases hfork : (i : Int) = z
        · have hfe : ((i : Int) == z) = true := by simpa using hfork
          have hfd : decide ((i : Int) = z) = true := by simpa using hfork
          clear hfork
          have HSf := hidD hst
          have HTf := hidD hht
          have HBf := hidD hbb
          have HOFF := hidD hoff
          have HBWf := hidD hbel
          have hc4 := hht.cells.1
          have hslf := hst.lt
          have htlf := hht.lt
          clear hst hht hbb hoff hfk hbel
          have HCL2 : Hid (∀ w8 : World, Below wr.heap.size wr w8 → w8.cell? ⟨gt, 4, none⟩ = some (.slice ab LB cb)) := fun w8 h => (h.cell (p := ⟨gt, 4, none⟩) htlf).trans hc4
          clear hc4
          go_upto_region 15 with (go_at_call 32; refine (HCL.out gs _ _ HSf.out).mono ?_; rintro e wc ⟨gc, rfl, hgc, hsc, hbc⟩; have HSC := hidD hsc; have HBC := hidD hbc; have hc4 := HCL2.out _ hbc; clear hsc hbc)
          go_upto_region 18 with (go_at_call 8; refine (HOI.out P0 LB _ _ _ HLB.out hlP0 (HBf.out.next HBC.out)).mono ?_; rintro e wa ⟨gf, cf, rfl, hgf, hgfl, hcf, hownf, hbf⟩; have HOF2 := hidD hownf; have HBF := hidD (Below.next HBC.out hbf); have HSC2 := hidD (HSC.out.next hbf); clear hownf hbf hc4)
          have HSa := hidD (HSf.out.next HBF.out)
          have HTa := hidD (HTf.out.next HBF.out)
          have HBa := hidD (HBf.out.next HBF.out)
          have HBWa := hidD (Below.next HBWf.out HBF.out)
          have HFa : Hid (FkAt k F w.heap.size gs gt wa (.pointer (some ⟨gc, 0, none⟩)) (.slice (some ⟨gf, 0, none⟩) LB cf)) := .inr ⟨gc, i, gf, cf, rfl, by rw [hP0]; exact HSC2.out, by omega, by omega, by have := HBWf.out.size; omega, by rw [hP0, HLB.out], by rw [hP0, HLB.out]; exact hlP0, by rw [hP0, HLB.out]; exact row_mono HOF2.out (by have := HBWf.out.size; have := HBC.out.size; omega)⟩
          clear HSf HTf HBf HBWf HSC HSC2 HBC HBF HOF2 HCL2 hfe hfd
          have hpc : Hid (∀ wA, Below w.heap.size w wA → wA.cell? ⟨gp, op + i, none⟩ = some (.slice ai LI ci)) := fun wA h => (h.cell (p := ⟨gp, op + i, none⟩) hgp).trans hpc0
          have HYI : Hid (∀ wA, Below w.heap.size w wA → ByAt wA (.slice ai LI ci) PI) := fun wA h => hbyi.next h
          have hca := hpc.out _ HBWa.out
          have hsla := HSa.out.lt
          have htla := HTa.out.lt
          obtain ⟨csa, hcsa⟩ := HSa.out.block
          obtain ⟨dsa, hdsa⟩ := HTa.out.block
          have HCS := hidD hcsa
          have HDS := hidD hdsa
          clear hcsa hdsa
          go_wp2_with fail
          go_at_call 8
          refine (HOI.out PI LI _ _ _ HLI.out (Nat.le_trans hlPI (by omega)) (HYI.out _ HBWa.out)).mono ?_
          rintro e w1 ⟨gq, c1, rfl, hgq, hgql, hcq, hown1, hb1⟩
          have HT1 := hidD (HTa.out.next hb1)
          have HBB1 := hidD (HBa.out.next hb1)
          have HBW1 := hidD (Below.next HBWa.out hb1)
          have HO1 := hidD hown1
          have HW1 := hidD (HWR.out gs P0 PI LI (some ⟨gq, 0, none⟩) c1 w1 HLI.out trivial hlPI (HSa.out.next hb1) (by have h := row_by (bs := PI) (by rw [HLI.out]; exact hown1); exact h) (fun _ => own_off hown1 hsla))
          have B21 := hidD ((But2.refl gs gt wa).next hb1)
          have HS1 := hidD (HSa.out.next hb1)
          have hgqs : gq ≠ gs := by omega
          have hgqt : gq ≠ gt := by omega
          clear hown1 hb1 hca
          go_wp2_with fail
          go_at_call 26
          refine HW1.out.mono ?_
          rintro e w2 ⟨rfl, hs2, hb2⟩
          rw [← HPN.out] at hs2
          obtain ⟨cs1, hcs1⟩ := HS1.out.block
          have HS2 := hidD hs2
          have HT2 := hidD (HT1.out.but hb2 hcs1 (by decide) hgts)
          have HO2 := hidD (row_butQ HO1.out hb2 (fun g' hg' => by have := (HO1.out.lt g' hg').1; omega))
          have HBB2 := hidD (HBB1.out.butN hb2 HOFF.out)
          have HBW2 : Hid (Below w.heap.size w w2) := HBW1.out.trans (hb2.bel.mono hwgs)
          have B22 := hidD (B21.out.fst hb2)
          have hc2 := hpc.out _ HBW2.out
          have HSM2 := hidD (HSI.out PI _ _ w2 hlPIL (by have h := row_by (bs := PI) (by rw [HLI.out]; exact HO2.out); exact h) (HYI.out _ HBW2.out))
          clear hs2 hb2 hcs1 HS1 HT1 HO1 HBB1 HBW1 B21 HW1
          go_wp2_with (go_at_call 11; refine HSM2.out.mono ?_; rintro e w3 ⟨rfl, hb3⟩; have HS3 := hidD (HS2.out.next hb3); have HT3 := hidD (HT2.out.next hb3); have HO3 := hidD (row_below HO2.out hb3); have HBB3 := hidD (HBB2.out.next hb3); have HBW3 := hidD (Below.next HBW2.out hb3); have B23 := hidD (B22.out.next hb3); clear hb3 HSM2 HS2 HT2 HO2 HBB2 HBW2 B22)
          all_goals try (apply False.elim; apply undef_boolT; assumption)
          clear hc2
          have HP3 : Hid (w3.ownsRow wa.heap.size 5 1 (.slice (some ⟨gq, 0, none⟩) LI c1) LI (byR (fun q => if q < 0 then PI.getD q 0 + 1 else PI.getD q 0) LI)) := by
            show World.ownsRow _ _ _ _ _ _ _
            have h := HO3.out
            rw [byR_list PI LI HLI.out] at h
            rw [byR_congr _ (fun q => PI.getD q 0) LI (fun q _ => if_neg (by omega))]; exact h
          clear HO3
          go_loopw [16] (fun kv wr => ∃ q : Nat, q ≤ LI ∧ kv = .int .i64 (q : Int) ∧ wr.ownsRow wa.heap.size 5 1 (.slice (some ⟨gq, 0, none⟩) LI c1) LI (byR (fun x => if x < q then PI.getD x 0 + 1 else PI.getD x 0) LI) ∧ But gq w3 wr) (fun kv _ => LI - (intOf kv).toNat)
          case atStart => exact ⟨0, by omega, rfl, HP3.out, But.refl _ _⟩
          case round =>
            obtain ⟨q, hq, rfl, hrow, hbut⟩ := hrel
            by_cases hlq : q < LI
            · have hlqi : (q : Int) < (LI : Int) := by omega
              have hc1 := (hrow.cellAt q (by omega)).trans (byR_at _ LI q hlq)
              rw [if_neg (by omega)] at hc1
              have hf1 := hrow.frozenAt q
              have hadd : ((PI.getD q 0).toNat + 1 : Int) % 256 = ((PI.getD q 0 + 1).toNat : Int) := by
                rw [UInt8.toNat_add]; simp
              have hby : (PI.getD q 0).toNat < 256 := UInt8.toNat_lt _
              have HST : Hid ((wr.setCell ⟨gq, q, none⟩ (.int .u8 ((PI.getD q 0 + 1).toNat : Int))).ownsRow wa.heap.size 5 1 (.slice (some ⟨gq, 0, none⟩) LI c1) LI (byR (fun x => if x < q + 1 then PI.getD x 0 + 1 else PI.getD x 0) LI)) := by
                show World.ownsRow _ _ _ _ _ _ _
                have h := (hrow.stored q (.int .u8 ((PI.getD q 0 + 1).toNat : Int))).1
                rw [byR_set _ (fun x => if x < q + 1 then PI.getD x 0 + 1 else PI.getD x 0) LI q (PI.getD q 0 + 1) hlq (fun x hx => by
                  by_cases e1 : x = q
                  · subst e1; rw [if_pos rfl, if_pos (by omega)]
                  · rw [if_neg e1]
                    by_cases e2 : x < q
                    · rw [if_pos (by omega), if_pos e2]
                    · rw [if_neg (by omega), if_neg e2])] at h
                exact h
              have HBT : Hid (But gq w3 (wr.setCell ⟨gq, q, none⟩ (.int .u8 ((PI.getD q 0 + 1).toNat : Int)))) := hbut.put q _
              clear hrow hbut
              generalize ((PI.getD q 0 + 1).toNat : Int) = X1 at *
              generalize (PI.getD q 0).toNat = X0 at *
              go_wp2_with fail
              go_roundw
              case rel =>
                first
                | exact ⟨q + 1, by omega, by go_num, HST.out, HBT.out⟩
                | ((repeat apply Exists.intro); refine And.intro ?_ rfl; exact ⟨q + 1, by omega, by go_num, HST.out, HBT.out⟩)
              case measure => simp [intOf]; omega
            · obtain rfl : LI = q := by omega
              obtain ⟨cq, hcq5⟩ := row_block HP3.out
              have HS4 := hidD (HS3.out.but hbut (Ne.symm hgqs))
              have HT4 := hidD (HT3.out.but hbut hcq5 (by decide) (Ne.symm hgqt))
              have HBB4 := hidD (HBB3.out.butN hbut (fun hne => HBa.out.off hgq hne))
              have HBW4 : Hid (Below w.heap.size w wr) := HBW3.out.trans (hbut.bel.mono (by have := HBWa.out.size; omega))
              have B24 := hidD (B23.out.new hbut hgq)
              clear hrow hbut hcq5 HP3 HS3 HT3 HBB3 HBW3 B23
              have hc4a := HT4.out.cells.1
              have hpc4 := hpc.out _ HBW4.out
              have htl4 := HT4.out.lt
              have hgpl4 : gp < wr.heap.size := Nat.lt_of_lt_of_le hgp HBW4.out.size
              have HKK : Hid (∀ wB, Below wr.heap.size wr wB → ∃ i : KB wr [gt, gp], wB = i.v) := fun wB hb => ⟨⟨wB, fun x hx => by
                have hx : x = gt ∨ x = gp := by simpa using hx
                rcases hx with rfl | rfl
                · exact hb.block _ htl4
                · exact hb.block _ hgpl4⟩, rfl⟩
              have f1 : ∀ i : KB wr [gt, gp], i.v.cell? ⟨gt, 4, none⟩ = some (.slice ab LB cb) := fun i => (i.cell (b := gt) (by simp) _).trans hc4a
              have f2 : ∀ j : KB wr [gt, gp], j.v.cell? ⟨gp, op + i, none⟩ = some (.slice ai LI ci) := fun j => (j.cell (b := gp) (by simp) _).trans hpc4
              have HDR : Hid (Below wr.heap.size wr wr.drew) := (Below.refl _ _).drew
              clear hc4a hpc4
              go_wp2_with fail
              refine wp_region_seg [0, 0, 0, 0, 0, 1, 0, 0, 0, 0, 3, 4, 4, 99] 2 13 [gt, gp] (by kernel_rfl) (by kernel_rfl) (by kernel_rfl) (by kernel_rfl) (by kernel_rfl) (by kernel_rfl) (by kernel_rfl) (by kernel_rfl) (fun _ _ _ _ _ h => h) ?_
              simp only [SegW, pk, Nat.reduceMul, Nat.reduceAdd, Nat.reduceBEq, cond_true, cond_false]
              repeat (go_big_quiet_step (fail))
              refine wpQuiet_nil ?_
              go_wp2_with (go_at_call 8; refine (HOI.out P0 LB _ _ _ HLB.out hlP0 (HBB4.out.next HDR.out)).mono ?_; rintro e w5 ⟨gr, c5, rfl, hgr, hgrl, hcr, hown5, hb5⟩; have HB45 : Hid (Below wr.heap.size wr w5) := HDR.out.trans hb5; have HO5 := hidD hown5; clear hown5 hb5)
              refine ⟨HKK.out _ HB45.out, ?_⟩
              refine wpQuiet_nil ?_
              have hw5 := HB45.out.size
              have HBI5 := hidD (HYI.out _ (Below.next HBW4.out HB45.out))
              have hwaw : wa.heap.size ≤ wr.heap.size := B24.out.bel.size
              have hlapp : LB + PI.length ≤ 140737488355328 := by have := HLI.out; omega
              go_wp2_with (at_builtin; refine wpList_append_by rfl (.tmp 127) (.tmp 131) rfl wr.heap.size (.slice (some ⟨gr, 0, none⟩) LB c5) LB (P0.map encB) rfl HO5.out (.slice ai LI ci) PI rfl HBI5.out hlapp hw5 ?_; intro v6 w6 hown6 hg6; rw [HLI.out, HLN.out, ← List.map_append, ← HPN.out] at hown6; have HB46 := hidD (row_grown HO5.out HB45.out hg6 hw5); clear hg6)
              obtain ⟨an, cn, hvn⟩ := row_shape hown6
              subst hvn
              have HON := hidD hown6
              clear hown6
              refine ⟨HKK.out _ HB46.out, ?_⟩
              repeat (go_big_quiet_step (fail))
              refine wpQuiet_nil ?_
              have HS6 := hidD (HS4.out.next HB46.out)
              have HT6 := hidD (HT4.out.next HB46.out)
              have hc6 := HT6.out.cells.1
              have hf6 := HT6.out.cells.2.2.2 4
              have HBW6 := hidD (Below.next HBW4.out HB46.out)
              have B26 := hidD (B24.out.next HB46.out)
              clear f1 f2 HKK
              have HT7 := hidD (HT6.out.setB (.slice an LN cn))
              have hbp : But gt w6 (w6.setCell ⟨gt, 4, none⟩ (.slice an LN cn)) := (But.refl gt w6).put 4 _
              have HS7 := hidD (HS6.out.but hbp (Ne.symm hgts))
              have B27 := hidD (B26.out.snd hbp)
              have HBW7 : Hid (Below w.heap.size w (w6.setCell ⟨gt, 4, none⟩ (.slice an LN cn))) := below_setCell HBW6.out hwgt 4 _
              have HN7 := hidD (row_butQ HON.out hbp (fun g' hg' => by have := (HON.out.lt g' hg').1; omega))
              have HOFN : Hid (P1 ≠ [] → Off (.slice an LN cn) gs) := fun _ => own_off HON.out (Nat.lt_of_lt_of_le hsla hwaw)
              clear hbp HS6 HT6 HBW6 B26 HON HS4 HT4 HBB4 HBW4 B24 HB45 HB46 HO5
              have HNB7 : Hid (ByAt (w6.setCell ⟨gt, 4, none⟩ (.slice an LN cn)) (.slice an LN cn) P1) := row_by (bs := P1) (by rw [HL1.out]; exact HN7.out)
              go_wp2_with (first
                | (go_at_call 28; refine (HSS.out gs P1 _ trivial HS7.out).mono ?_; rintro e w8 ⟨gd, rfl, hgd, hrz, hby8, hb8⟩; have HR8 := hidD hrz; have HD8 := hidD hby8; have HOFD : Hid (P1 ≠ [] → Off (.slice an LN cn) gd) := (fun hne => HNB7.out.off hgd hne); have HS8 := hidD (HS7.out.next hb8); have HT8 := hidD (HT7.out.next hb8); have HN8 := hidD (HNB7.out.next hb8); have HBW8 := hidD (Below.next HBW7.out hb8); have B28 := hidD (B27.out.next hb8); clear hrz hb8 hby8 hc6 hf6))
              have htl8 := HT8.out.lt
              have HKK : Hid (∀ wB, Below w8.heap.size w8 wB → ∃ i : KB w8 [gt], wB = i.v) := fun wB hb => ⟨⟨wB, fun x hx => by
                rw [show x = gt by simpa using hx]
                exact hb.block _ htl8⟩, rfl⟩
              have hc8 := HT8.out.cells.1
              have f1 : ∀ i : KB w8 [gt], i.v.cell? ⟨gt, 4, none⟩ = some (.slice an LN cn) := fun i => (i.cell (b := gt) (by simp) _).trans hc8
              have HDR8 : Hid (Below w8.heap.size w8 w8.drew) := (Below.refl _ _).drew
              clear hc8
              refine wp_region_seg [0, 0, 1, 3, 4, 4, 4, 5, 4, 4, 4, 4, 4, 4, 6, 6] 3 16 [gt] (by kernel_rfl) (by kernel_rfl) (by kernel_rfl) (by kernel_rfl) (by kernel_rfl) (by kernel_rfl) (by kernel_rfl) (by kernel_rfl) (fun _ _ _ _ _ h => h) ?_
              simp only [SegW, pk, Nat.reduceMul, Nat.reduceAdd, Nat.reduceBEq, cond_true, cond_false]
              repeat (go_big_quiet_step (fail))
              refine wpQuiet_nil ?_
              go_wp2_with (go_at_call 29; refine (HRS.out gt P1 LN an cn _ HL1.out hlP1 (HT8.out.next HDR8.out) (HN8.out.next HDR8.out)).mono ?_; rintro e w9 ⟨u9, rfl, hy9, hb9⟩; have HB89 : Hid (Below w8.heap.size w8 w9) := HDR8.out.trans hb9; have HU9 := hidD hy9; clear hy9 hb9)
              refine ⟨HKK.out _ HB89.out, ?_⟩
              refine wpQuiet_nil ?_
              have HSM9 := hidD (HSD.out P1 _ _ w9 (HD8.out.next HB89.out) HU9.out)
              go_wp2_with (go_at_call 11; refine HSM9.out.mono ?_; rintro e w10 ⟨rfl, hb10⟩; have HB8x := hidD (Below.next HB89.out hb10); clear hb10)
              refine ⟨HKK.out _ HB8x.out, ?_⟩
              repeat (go_big_quiet_step (fail))
              refine wpQuiet_nil ?_
              have HL10 := hidD (HLE.out gs P1 w10 (Nat.le_trans hlP1L (by omega)) (HS8.out.next HB8x.out))
              rw [HL1.out] at HL10
              go_wp2_with (go_at_call 27; refine HL10.out.mono ?_; rintro e wz ⟨rfl, hwz⟩; subst wz)
              refine ⟨HKK.out _ HB8x.out, ?_⟩
              repeat (go_big_quiet_step (fail))
              refine wpQuiet_nil ?_
              have HSx := hidD (HS8.out.next HB8x.out)
              have HTx := hidD (HT8.out.next HB8x.out)
              have HNx := hidD (HN8.out.next HB8x.out)
              have HRx := hidD (HR8.out.next HB8x.out)
              have HBWx := hidD (Below.next HBW8.out HB8x.out)
              have B2x := hidD (B28.out.next HB8x.out)
              have hw7d : wa.heap.size ≤ gd := Nat.le_trans B27.out.bel.size hgd
              clear f1 HKK HS8 HT8 HN8 HR8 HBW8 B28 HSM9 HL10 HD8 HU9 HB89 HB8x HS7 HT7 HNB7 HBW7 HN7
              have HZ0 : Hid (RowZ w10 gd .u8 SZ 5 (fun x => ((if x < 0 then 0 else DP P1 x : UInt8).toNat : Int))) := HRx.out.congr fun x _ => by rw [if_neg (by omega)]
              have hgds : gs ≠ gd := by omega
              have hgdt : gt ≠ gd := by omega
              clear HRx
              go_wp2_with fail
              go_loopw [18] (fun kv wr => ∃ q : Nat, q ≤ SZ ∧ kv = .int .i64 (q : Int) ∧ RowZ wr gd .u8 SZ 5 (fun x => ((if x < q then 0 else DP P1 x : UInt8).toNat : Int)) ∧ But gd w10 wr) (fun kv _ => SZ - (intOf kv).toNat)
              case atStart => exact ⟨0, by omega, rfl, HZ0.out, But.refl _ _⟩
              case round =>
                obtain ⟨q, hq, rfl, hrow, hbut⟩ := hrel
                by_cases hlq : q < SZ
                · have hlqi : (q : Int) < (SZ : Int) := by omega
                  have hc1 := hrow.cell (k := q) hlq
                  have hf1 := hrow.frozen q
                  have HST : Hid (RowZ (wr.setCell ⟨gd, q, none⟩ (.int .u8 0)) gd .u8 SZ 5 (fun x => ((if x < q + 1 then 0 else DP P1 x : UInt8).toNat : Int))) := (hrow.set hlq 0).congr fun x hx => by
                    by_cases e1 : x = q
                    · subst e1; rw [if_pos rfl, if_pos (by omega)]; rfl
                    · rw [if_neg e1]
                      by_cases e2 : x < q
                      · rw [if_pos e2, if_pos (by omega)]
                      · rw [if_neg e2, if_neg (by omega)]
                  have HBT : Hid (But gd w10 (wr.setCell ⟨gd, q, none⟩ (.int .u8 0))) := hbut.put q _
                  clear hrow hbut
                  go_wp2_with fail
                  go_roundw
                  case rel =>
                    first
                    | exact ⟨q + 1, by omega, by go_num, HST.out, HBT.out⟩
                    | ((repeat apply Exists.intro); refine And.intro ?_ rfl; exact ⟨q + 1, by omega, by go_num, HST.out, HBT.out⟩)
                  case measure => simp [intOf]; omega
                · obtain rfl : SZ = q := by omega
                  have HSE := hidD (HSx.out.but hbut hgds)
                  have HTE := hidD (HTx.out.but hbut (show w10.heap[gd]? = some (.cells _ (5 : TypeId) (0, 0)) from HZ0.out) (by decide) hgdt)
                  have HNE := hidD (HNx.out.butN hbut HOFD.out)
                  have HBWE : Hid (Below w.heap.size w wr) := HBWx.out.trans (hbut.bel.mono (by have := HBWa.out.size; omega))
                  have B2E := hidD (B2x.out.new hbut hw7d)
                  have HFE := hidD (HFa.out.but2 B2E.out HCS.out HDS.out)
                  clear hrow hbut HSx HTx HNx HBWx B2x B2E HFa HZ0
                  go_wp2_with fail
                  go_roundw
                  case rel =>
                    first
                    | exact ⟨i + 1, by omega, by go_num, by rw [HFN.out]; exact HSE.out, ⟨an, cn, by rw [HFN.out, HL1.out]; exact HTE.out, by rw [HFN.out, HL1.out]; exact HNE.out, by rw [HFN.out, HL1.out]; exact HOFN.out⟩, HFE.out, HBWE.out⟩
                    | ((repeat apply Exists.intro); refine And.intro ?_ rfl; exact ⟨i + 1, by omega, by go_num, by rw [HFN.out]; exact HSE.out, ⟨an, cn, by rw [HFN.out, HL1.out]; exact HTE.out, by rw [HFN.out, HL1.out]; exact HNE.out, by rw [HFN.out, HL1.out]; exact HOFN.out⟩, HFE.out, HBWE.out⟩)
                  case measure => simp [intOf]; omega
        · have HSa := hidD hst
          have HTa := hidD hht
          have HBa := hidD hbb
          have HOFF := hidD hoff
          have HFa := hidD hfk
          have HBWa := hidD hbel
          obtain ⟨wa, hwa⟩ : ∃ wa : World, wa = wr := ⟨_, rfl⟩
          subst hwa
          clear hst hht hbb hoff hfk hbel
          have hpc : Hid (∀ wA, Below w.heap.size w wA → wA.cell? ⟨gp, op + i, none⟩ = some (.slice ai LI ci)) := fun wA h => (h.cell (p := ⟨gp, op + i, none⟩) hgp).trans hpc0
          have HYI : Hid (∀ wA, Below w.heap.size w wA → ByAt wA (.slice ai LI ci) PI) := fun wA h => hbyi.next h
          have hca := hpc.out _ HBWa.out
          have hsla := HSa.out.lt
          have htla := HTa.out.lt
          obtain ⟨csa, hcsa⟩ := HSa.out.block
          obtain ⟨dsa, hdsa⟩ := HTa.out.block
          have HCS := hidD hcsa
          have HDS := hidD hdsa
          clear hcsa hdsa
          go_wp2_with fail
          go_at_call 8
          refine (HOI.out PI LI _ _ _ HLI.out (Nat.le_trans hlPI (by omega)) (HYI.out _ HBWa.out)).mono ?_
          rintro e w1 ⟨gq, c1, rfl, hgq, hgql, hcq, hown1, hb1⟩
          have HT1 := hidD (HTa.out.next hb1)
          have HBB1 := hidD (HBa.out.next hb1)
          have HBW1 := hidD (Below.next HBWa.out hb1)
          have HO1 := hidD hown1
          have HW1 := hidD (HWR.out gs P0 PI LI (some ⟨gq, 0, none⟩) c1 w1 HLI.out trivial hlPI (HSa.out.next hb1) (by have h := row_by (bs := PI) (by rw [HLI.out]; exact hown1); exact h) (fun _ => own_off hown1 hsla))
          have B21 := hidD ((But2.refl gs gt wa).next hb1)
          have HS1 := hidD (HSa.out.next hb1)
          have hgqs : gq ≠ gs := by omega
          have hgqt : gq ≠ gt := by omega
          clear hown1 hb1 hca
          go_wp2_with fail
          go_at_call 26
          refine HW1.out.mono ?_
          rintro e w2 ⟨rfl, hs2, hb2⟩
          rw [← HPN.out] at hs2
          obtain ⟨cs1, hcs1⟩ := HS1.out.block
          have HS2 := hidD hs2
          have HT2 := hidD (HT1.out.but hb2 hcs1 (by decide) hgts)
          have HO2 := hidD (row_butQ HO1.out hb2 (fun g' hg' => by have := (HO1.out.lt g' hg').1; omega))
          have HBB2 := hidD (HBB1.out.butN hb2 HOFF.out)
          have HBW2 : Hid (Below w.heap.size w w2) := HBW1.out.trans (hb2.bel.mono hwgs)
          have B22 := hidD (B21.out.fst hb2)
          have hc2 := hpc.out _ HBW2.out
          have HSM2 := hidD (HSI.out PI _ _ w2 hlPIL (by have h := row_by (bs := PI) (by rw [HLI.out]; exact HO2.out); exact h) (HYI.out _ HBW2.out))
          clear hs2 hb2 hcs1 HS1 HT1 HO1 HBB1 HBW1 B21 HW1
          go_wp2_with (go_at_call 11; refine HSM2.out.mono ?_; rintro e w3 ⟨rfl, hb3⟩; have HS3 := hidD (HS2.out.next hb3); have HT3 := hidD (HT2.out.next hb3); have HO3 := hidD (row_below HO2.out hb3); have HBB3 := hidD (HBB2.out.next hb3); have HBW3 := hidD (Below.next HBW2.out hb3); have B23 := hidD (B22.out.next hb3); clear hb3 HSM2 HS2 HT2 HO2 HBB2 HBW2 B22)
          all_goals try (apply False.elim; apply undef_boolT; assumption)
          clear hc2
          have HP3 : Hid (w3.ownsRow wa.heap.size 5 1 (.slice (some ⟨gq, 0, none⟩) LI c1) LI (byR (fun q => if q < 0 then PI.getD q 0 + 1 else PI.getD q 0) LI)) := by
            show World.ownsRow _ _ _ _ _ _ _
            have h := HO3.out
            rw [byR_list PI LI HLI.out] at h
            rw [byR_congr _ (fun q => PI.getD q 0) LI (fun q _ => if_neg (by omega))]; exact h
          clear HO3
          go_loopw [16] (fun kv wr => ∃ q : Nat, q ≤ LI ∧ kv = .int .i64 (q : Int) ∧ wr.ownsRow wa.heap.size 5 1 (.slice (some ⟨gq, 0, none⟩) LI c1) LI (byR (fun x => if x < q then PI.getD x 0 + 1 else PI.getD x 0) LI) ∧ But gq w3 wr) (fun kv _ => LI - (intOf kv).toNat)
          case atStart => exact ⟨0, by omega, rfl, HP3.out, But.refl _ _⟩
          case round =>
            obtain ⟨q, hq, rfl, hrow, hbut⟩ := hrel
            by_cases hlq : q < LI
            · have hlqi : (q : Int) < (LI : Int) := by omega
              have hc1 := (hrow.cellAt q (by omega)).trans (byR_at _ LI q hlq)
              rw [if_neg (by omega)] at hc1
              have hf1 := hrow.frozenAt q
              have hadd : ((PI.getD q 0).toNat + 1 : Int) % 256 = ((PI.getD q 0 + 1).toNat : Int) := by
                rw [UInt8.toNat_add]; simp
              have hby : (PI.getD q 0).toNat < 256 := UInt8.toNat_lt _
              have HST : Hid ((wr.setCell ⟨gq, q, none⟩ (.int .u8 ((PI.getD q 0 + 1).toNat : Int))).ownsRow wa.heap.size 5 1 (.slice (some ⟨gq, 0, none⟩) LI c1) LI (byR (fun x => if x < q + 1 then PI.getD x 0 + 1 else PI.getD x 0) LI)) := by
                show World.ownsRow _ _ _ _ _ _ _
                have h := (hrow.stored q (.int .u8 ((PI.getD q 0 + 1).toNat : Int))).1
                rw [byR_set _ (fun x => if x < q + 1 then PI.getD x 0 + 1 else PI.getD x 0) LI q (PI.getD q 0 + 1) hlq (fun x hx => by
                  by_cases e1 : x = q
                  · subst e1; rw [if_pos rfl, if_pos (by omega)]
                  · rw [if_neg e1]
                    by_cases e2 : x < q
                    · rw [if_pos (by omega), if_pos e2]
                    · rw [if_neg (by omega), if_neg e2])] at h
                exact h
              have HBT : Hid (But gq w3 (wr.setCell ⟨gq, q, none⟩ (.int .u8 ((PI.getD q 0 + 1).toNat : Int)))) := hbut.put q _
              clear hrow hbut
              generalize ((PI.getD q 0 + 1).toNat : Int) = X1 at *
              generalize (PI.getD q 0).toNat = X0 at *
              go_wp2_with fail
              go_roundw
              case rel =>
                first
                | exact ⟨q + 1, by omega, by go_num, HST.out, HBT.out⟩
                | ((repeat apply Exists.intro); refine And.intro ?_ rfl; exact ⟨q + 1, by omega, by go_num, HST.out, HBT.out⟩)
              case measure => simp [intOf]; omega
            · obtain rfl : LI = q := by omega
              obtain ⟨cq, hcq5⟩ := row_block HP3.out
              have HS4 := hidD (HS3.out.but hbut (Ne.symm hgqs))
              have HT4 := hidD (HT3.out.but hbut hcq5 (by decide) (Ne.symm hgqt))
              have HBB4 := hidD (HBB3.out.butN hbut (fun hne => HBa.out.off hgq hne))
              have HBW4 : Hid (Below w.heap.size w wr) := HBW3.out.trans (hbut.bel.mono (by have := HBWa.out.size; omega))
              have B24 := hidD (B23.out.new hbut hgq)
              clear hrow hbut hcq5 HP3 HS3 HT3 HBB3 HBW3 B23
              have hc4a := HT4.out.cells.1
              have hpc4 := hpc.out _ HBW4.out
              have htl4 := HT4.out.lt
              have hgpl4 : gp < wr.heap.size := Nat.lt_of_lt_of_le hgp HBW4.out.size
              have HKK : Hid (∀ wB, Below wr.heap.size wr wB → ∃ i : KB wr [gt, gp], wB = i.v) := fun wB hb => ⟨⟨wB, fun x hx => by
                have hx : x = gt ∨ x = gp := by simpa using hx
                rcases hx with rfl | rfl
                · exact hb.block _ htl4
                · exact hb.block _ hgpl4⟩, rfl⟩
              have f1 : ∀ i : KB wr [gt, gp], i.v.cell? ⟨gt, 4, none⟩ = some (.slice ab LB cb) := fun i => (i.cell (b := gt) (by simp) _).trans hc4a
              have f2 : ∀ j : KB wr [gt, gp], j.v.cell? ⟨gp, op + i, none⟩ = some (.slice ai LI ci) := fun j => (j.cell (b := gp) (by simp) _).trans hpc4
              have HDR : Hid (Below wr.heap.size wr wr.drew) := (Below.refl _ _).drew
              clear hc4a hpc4
              go_wp2_with fail
              refine wp_region_seg [0, 0, 0, 0, 0, 1, 0, 0, 0, 0, 3, 4, 4, 99] 2 13 [gt, gp] (by kernel_rfl) (by kernel_rfl) (by kernel_rfl) (by kernel_rfl) (by kernel_rfl) (by kernel_rfl) (by kernel_rfl) (by kernel_rfl) (fun _ _ _ _ _ h => h) ?_
              simp only [SegW, pk, Nat.reduceMul, Nat.reduceAdd, Nat.reduceBEq, cond_true, cond_false]
              repeat (go_big_quiet_step (fail))
              refine wpQuiet_nil ?_
              go_wp2_with (go_at_call 8; refine (HOI.out P0 LB _ _ _ HLB.out hlP0 (HBB4.out.next HDR.out)).mono ?_; rintro e w5 ⟨gr, c5, rfl, hgr, hgrl, hcr, hown5, hb5⟩; have HB45 : Hid (Below wr.heap.size wr w5) := HDR.out.trans hb5; have HO5 := hidD hown5; clear hown5 hb5)
              refine ⟨HKK.out _ HB45.out, ?_⟩
              refine wpQuiet_nil ?_
              have hw5 := HB45.out.size
              have HBI5 := hidD (HYI.out _ (Below.next HBW4.out HB45.out))
              have hwaw : wa.heap.size ≤ wr.heap.size := B24.out.bel.size
              have hlapp : LB + PI.length ≤ 140737488355328 := by have := HLI.out; omega
              go_wp2_with (at_builtin; refine wpList_append_by rfl (.tmp 127) (.tmp 131) rfl wr.heap.size (.slice (some ⟨gr, 0, none⟩) LB c5) LB (P0.map encB) rfl HO5.out (.slice ai LI ci) PI rfl HBI5.out hlapp hw5 ?_; intro v6 w6 hown6 hg6; rw [HLI.out, HLN.out, ← List.map_append, ← HPN.out] at hown6; have HB46 := hidD (row_grown HO5.out HB45.out hg6 hw5); clear hg6)
              obtain ⟨an, cn, hvn⟩ := row_shape hown6
              subst hvn
              have HON := hidD hown6
              clear hown6
              refine ⟨HKK.out _ HB46.out, ?_⟩
              repeat (go_big_quiet_step (fail))
              refine wpQuiet_nil ?_
              have HS6 := hidD (HS4.out.next HB46.out)
              have HT6 := hidD (HT4.out.next HB46.out)
              have hc6 := HT6.out.cells.1
              have hf6 := HT6.out.cells.2.2.2 4
              have HBW6 := hidD (Below.next HBW4.out HB46.out)
              have B26 := hidD (B24.out.next HB46.out)
              clear f1 f2 HKK
              have HT7 := hidD (HT6.out.setB (.slice an LN cn))
              have hbp : But gt w6 (w6.setCell ⟨gt, 4, none⟩ (.slice an LN cn)) := (But.refl gt w6).put 4 _
              have HS7 := hidD (HS6.out.but hbp (Ne.symm hgts))
              have B27 := hidD (B26.out.snd hbp)
              have HBW7 : Hid (Below w.heap.size w (w6.setCell ⟨gt, 4, none⟩ (.slice an LN cn))) := below_setCell HBW6.out hwgt 4 _
              have HN7 := hidD (row_butQ HON.out hbp (fun g' hg' => by have := (HON.out.lt g' hg').1; omega))
              have HOFN : Hid (P1 ≠ [] → Off (.slice an LN cn) gs) := fun _ => own_off HON.out (Nat.lt_of_lt_of_le hsla hwaw)
              clear hbp HS6 HT6 HBW6 B26 HON HS4 HT4 HBB4 HBW4 B24 HB45 HB46 HO5
              have HNB7 : Hid (ByAt (w6.setCell ⟨gt, 4, none⟩ (.slice an LN cn)) (.slice an LN cn) P1) := row_by (bs := P1) (by rw [HL1.out]; exact HN7.out)
              go_wp2_with (first
                | (go_at_call 28; refine (HSS.out gs P1 _ trivial HS7.out).mono ?_; rintro e w8 ⟨gd, rfl, hgd, hrz, hby8, hb8⟩; have HR8 := hidD hrz; have HD8 := hidD hby8; have HOFD : Hid (P1 ≠ [] → Off (.slice an LN cn) gd) := (fun hne => HNB7.out.off hgd hne); have HS8 := hidD (HS7.out.next hb8); have HT8 := hidD (HT7.out.next hb8); have HN8 := hidD (HNB7.out.next hb8); have HBW8 := hidD (Below.next HBW7.out hb8); have B28 := hidD (B27.out.next hb8); clear hrz hb8 hby8 hc6 hf6))
              have htl8 := HT8.out.lt
              have HKK : Hid (∀ wB, Below w8.heap.size w8 wB → ∃ i : KB w8 [gt], wB = i.v) := fun wB hb => ⟨⟨wB, fun x hx => by
                rw [show x = gt by simpa using hx]
                exact hb.block _ htl8⟩, rfl⟩
              have hc8 := HT8.out.cells.1
              have f1 : ∀ i : KB w8 [gt], i.v.cell? ⟨gt, 4, none⟩ = some (.slice an LN cn) := fun i => (i.cell (b := gt) (by simp) _).trans hc8
              have HDR8 : Hid (Below w8.heap.size w8 w8.drew) := (Below.refl _ _).drew
              clear hc8
              refine wp_region_seg [0, 0, 1, 3, 4, 4, 4, 5, 4, 4, 4, 4, 4, 4, 6, 6] 3 16 [gt] (by kernel_rfl) (by kernel_rfl) (by kernel_rfl) (by kernel_rfl) (by kernel_rfl) (by kernel_rfl) (by kernel_rfl) (by kernel_rfl) (fun _ _ _ _ _ h => h) ?_
              simp only [SegW, pk, Nat.reduceMul, Nat.reduceAdd, Nat.reduceBEq, cond_true, cond_false]
              repeat (go_big_quiet_step (fail))
              refine wpQuiet_nil ?_
              go_wp2_with (go_at_call 29; refine (HRS.out gt P1 LN an cn _ HL1.out hlP1 (HT8.out.next HDR8.out) (HN8.out.next HDR8.out)).mono ?_; rintro e w9 ⟨u9, rfl, hy9, hb9⟩; have HB89 : Hid (Below w8.heap.size w8 w9) := HDR8.out.trans hb9; have HU9 := hidD hy9; clear hy9 hb9)
              refine ⟨HKK.out _ HB89.out, ?_⟩
              refine wpQuiet_nil ?_
              have HSM9 := hidD (HSD.out P1 _ _ w9 (HD8.out.next HB89.out) HU9.out)
              go_wp2_with (go_at_call 11; refine HSM9.out.mono ?_; rintro e w10 ⟨rfl, hb10⟩; have HB8x := hidD (Below.next HB89.out hb10); clear hb10)
              refine ⟨HKK.out _ HB8x.out, ?_⟩
              repeat (go_big_quiet_step (fail))
              refine wpQuiet_nil ?_
              have HL10 := hidD (HLE.out gs P1 w10 (Nat.le_trans hlP1L (by omega)) (HS8.out.next HB8x.out))
              rw [HL1.out] at HL10
              go_wp2_with (go_at_call 27; refine HL10.out.mono ?_; rintro e wz ⟨rfl, hwz⟩; subst wz)
              refine ⟨HKK.out _ HB8x.out, ?_⟩
              repeat (go_big_quiet_step (fail))
              refine wpQuiet_nil ?_
              have HSx := hidD (HS8.out.next HB8x.out)
              have HTx := hidD (HT8.out.next HB8x.out)
              have HNx := hidD (HN8.out.next HB8x.out)
              have HRx := hidD (HR8.out.next HB8x.out)
              have HBWx := hidD (Below.next HBW8.out HB8x.out)
              have B2x := hidD (B28.out.next HB8x.out)
              have hw7d : wa.heap.size ≤ gd := Nat.le_trans B27.out.bel.size hgd
              clear f1 HKK HS8 HT8 HN8 HR8 HBW8 B28 HSM9 HL10 HD8 HU9 HB89 HB8x HS7 HT7 HNB7 HBW7 HN7
              have HZ0 : Hid (RowZ w10 gd .u8 SZ 5 (fun x => ((if x < 0 then 0 else DP P1 x : UInt8).toNat : Int))) := HRx.out.congr fun x _ => by rw [if_neg (by omega)]
              have hgds : gs ≠ gd := by omega
              have hgdt : gt ≠ gd := by omega
              clear HRx
              go_wp2_with fail
              go_loopw [18] (fun kv wr => ∃ q : Nat, q ≤ SZ ∧ kv = .int .i64 (q : Int) ∧ RowZ wr gd .u8 SZ 5 (fun x => ((if x < q then 0 else DP P1 x : UInt8).toNat : Int)) ∧ But gd w10 wr) (fun kv _ => SZ - (intOf kv).toNat)
              case atStart => exact ⟨0, by omega, rfl, HZ0.out, But.refl _ _⟩
              case round =>
                obtain ⟨q, hq, rfl, hrow, hbut⟩ := hrel
                by_cases hlq : q < SZ
                · have hlqi : (q : Int) < (SZ : Int) := by omega
                  have hc1 := hrow.cell (k := q) hlq
                  have hf1 := hrow.frozen q
                  have HST : Hid (RowZ (wr.setCell ⟨gd, q, none⟩ (.int .u8 0)) gd .u8 SZ 5 (fun x => ((if x < q + 1 then 0 else DP P1 x : UInt8).toNat : Int))) := (hrow.set hlq 0).congr fun x hx => by
                    by_cases e1 : x = q
                    · subst e1; rw [if_pos rfl, if_pos (by omega)]; rfl
                    · rw [if_neg e1]
                      by_cases e2 : x < q
                      · rw [if_pos e2, if_pos (by omega)]
                      · rw [if_neg e2, if_neg (by omega)]
                  have HBT : Hid (But gd w10 (wr.setCell ⟨gd, q, none⟩ (.int .u8 0))) := hbut.put q _
                  clear hrow hbut
                  go_wp2_with fail
                  go_roundw
                  case rel =>
                    first
                    | exact ⟨q + 1, by omega, by go_num, HST.out, HBT.out⟩
                    | ((repeat apply Exists.intro); refine And.intro ?_ rfl; exact ⟨q + 1, by omega, by go_num, HST.out, HBT.out⟩)
                  case measure => simp [intOf]; omega
                · obtain rfl : SZ = q := by omega
                  have HSE := hidD (HSx.out.but hbut hgds)
                  have HTE := hidD (HTx.out.but hbut (show w10.heap[gd]? = some (.cells _ (5 : TypeId) (0, 0)) from HZ0.out) (by decide) hgdt)
                  have HNE := hidD (HNx.out.butN hbut HOFD.out)
                  have HBWE : Hid (Below w.heap.size w wr) := HBWx.out.trans (hbut.bel.mono (by have := HBWa.out.size; omega))
                  have B2E := hidD (B2x.out.new hbut hw7d)
                  have HFE := hidD (HFa.out.but2 B2E.out HCS.out HDS.out)
                  clear hrow hbut HSx HTx HNx HBWx B2x B2E HFa HZ0
                  go_wp2_with fail
                  go_roundw
                  case rel =>
                    first
                    | exact ⟨i + 1, by omega, by go_num, by rw [HFN.out]; exact HSE.out, ⟨an, cn, by rw [HFN.out, HL1.out]; exact HTE.out, by rw [HFN.out, HL1.out]; exact HNE.out, by rw [HFN.out, HL1.out]; exact HOFN.out⟩, HFE.out, HBWE.out⟩
                    | ((repeat apply Exists.intro); refine And.intro ?_ rfl; exact ⟨i + 1, by omega, by go_num, by rw [HFN.out]; exact HSE.out, ⟨an, cn, by rw [HFN.out, HL1.out]; exact HTE.out, by rw [HFN.out, HL1.out]; exact HNE.out, by rw [HFN.out, HL1.out]; exact HOFN.out⟩, HFE.out, HBWE.out⟩)
                  case measure => simp [intOf]; omega
      · obtain rfl : N = i := by omega
        have HSN := hidD hst
        have HTN := hidD hht
        have HBN := hidD hbb
        have HFK := hidD hfk
        have HBWN := hidD hbel
        have hlPN := HFL.out N (by omega)
        clear hst hht hbb hoff hfk hbel
        obtain ⟨PN, hPN⟩ : ∃ PN : List UInt8, F N = PN := ⟨_, rfl⟩
        rw [hPN] at HSN HTN HBN hlPN
        clear hPN
        obtain ⟨LB, hLB⟩ : ∃ LB : Nat, PN.length = LB := ⟨_, rfl⟩
        rw [hLB] at HTN HBN
        have HLB := hidD hLB
        have hlB : LB ≤ 1099511627776 := by rw [← hLB]; exact hlPN
        clear hLB
        go_wp2_with fail
        go_at_call 28
        refine (HSS.out gs PN _ trivial HSN.out).mono ?_
        rintro e w1 ⟨gd, rfl, hgd, hrz, hby1, hb1⟩
        have HS1 := hidD (HSN.out.next hb1)
        have HT1 := hidD (HTN.out.next hb1)
        have HN1 := hidD (HBN.out.next hb1)
        have HD1 := hidD hby1
        have HF1 := hidD (HFK.out.next hb1)
        have HBW1 := hidD (Below.next HBWN.out hb1)
        clear hrz hby1 hb1 HSN HTN HBN HFK HBWN
        go_wp2_with fail
        go_at_call 29
        refine (HRS.out gt PN LB ab cb _ HLB.out hlB HT1.out HN1.out).mono ?_
        rintro e w2 ⟨u2, rfl, hy2, hb2⟩
        have HS2 := hidD (HS1.out.next hb2)
        have HF2 := hidD (HF1.out.next hb2)
        have HBW2 := hidD (Below.next HBW1.out hb2)
        have HM2 := hidD (HSD.out PN _ _ w2 (HD1.out.next hb2) hy2)
        clear hy2 hb2 HS1 HT1 HN1 HD1 HF1 HBW1
        go_wp2_with fail
        go_at_call 11
        refine HM2.out.mono ?_
        rintro e w3 ⟨rfl, hb3⟩
        have HS3 := hidD (HS2.out.next hb3)
        have HBW3 := hidD (Below.next HBW2.out hb3)
        have hfk3 := HF2.out.next hb3
        clear hb3 HS2 HF2 HBW2 HM2
        rcases hfk3 with ⟨rfl, rfl⟩ | ⟨gc, f, gf, cf, rfl, hsc, hgcs, hgct, hwgc, rfl, hlf, hrow⟩
        · go_wp2_with fail
          refine bodyPost_ret (v := .bool true) (by simp [results, Try.results7, go_sem]) rfl ⟨rfl, HBW3.out⟩
        · have HC3 := hidD hsc
          have HO3 := hidD hrow
          obtain ⟨PF, hPF⟩ : ∃ PF : List UInt8, F f = PF := ⟨_, rfl⟩
          rw [hPF] at HC3 HO3 hlf ⊢
          obtain ⟨LF, hLF⟩ : ∃ LF : Nat, PF.length = LF := ⟨_, rfl⟩
          rw [hLF] at HO3 hlf ⊢
          have HLF := hidD hLF
          have hlfL : PF.length ≤ 1099511627776 := by rw [hLF]; exact hlf
          clear hsc hrow hPF hLF
          go_wp2_with fail
          go_at_call 28
          refine (HSS.out gs PN _ trivial HS3.out).mono ?_
          rintro e w4 ⟨gl, rfl, hgl, hrz, hby4, hb4⟩
          have HS4 := hidD (HS3.out.next hb4)
          have HC4 := hidD (HC3.out.next hb4)
          have HO4 := hidD (row_below HO3.out hb4)
          have HLA4 := hidD hby4
          have HBW4 := hidD (Below.next HBW3.out hb4)
          have hgcl := HC3.out.lt
          have hgfl3 : gf < w3.heap.size := (HO3.out.lt gf rfl).2
          have hglc : gl ≠ gc := by omega
          have hglf : gl ≠ gf := by omega
          clear hrz hby4 hb4 HS3 HC3 HO3 HBW3
          go_wp2_with fail
          go_at_call 10
          refine (HR10.out PF LF _ _ _ HLF.out (Nat.le_trans hlf (by omega)) (row_by (bs := PF) (by rw [HLF.out]; exact HO4.out))).mono ?_
          rintro e w5 ⟨u5, rfl, hy5, hb5⟩
          have HS5 := hidD (HS4.out.next hb5)
          have HC5 := hidD (HC4.out.next hb5)
          have HO5 := hidD (row_below HO4.out hb5)
          have HLA5 := hidD (HLA4.out.next hb5)
          have HX5 := hidD hy5
          have HBW5 := hidD (Below.next HBW4.out hb5)
          clear hy5 hb5 HS4 HC4 HO4 HLA4 HBW4
          go_wp2_with fail
          go_at_call 28
          refine (HSS.out gc PF _ trivial HC5.out).mono ?_
          rintro e w6 ⟨g6, rfl, hg6, hrz6, hby6, hb6⟩
          have HS6 := hidD (HS5.out.next hb6)
          have HC6 := hidD (HC5.out.next hb6)
          have HO6 := hidD (row_below HO5.out hb6)
          have HLA6 := hidD (HLA5.out.next hb6)
          have HBW6 := hidD (Below.next HBW5.out hb6)
          have HM6 := hidD (HSD.out PF _ _ w6 hby6 (HX5.out.next hb6))
          clear hrz6 hby6 hb6 HS5 HC5 HO5 HLA5 HX5 HBW5
          go_wp2_with fail
          go_at_call 11
          refine HM6.out.mono ?_
          rintro e w7 ⟨rfl, hb7⟩
          have hba : Below w7.heap.size w7 (w7.alloc (.cells #[.int .u8 7] (5 : TypeId))) := (Below.refl _ _).alloc (Nat.le_refl _) _
          have HS7 := hidD ((HS6.out.next hb7).next hba)
          have HC7 := hidD ((HC6.out.next hb7).next hba)
          have HO7 := hidD (row_below (row_below HO6.out hb7) hba)
          have HLA7 := hidD ((HLA6.out.next hb7).next hba)
          have HBW7 := hidD (Below.next (Below.next HBW6.out hb7) hba)
          have hgc7 : gc < w7.heap.size := (HC6.out.next hb7).lt
          have HW7 := hidD (HWR.out gc PF [7] 1 (some ⟨w7.heap.size, 0, none⟩) 1 _ rfl trivial (by omega) ((HC6.out.next hb7).next hba) (ByAt.one w7 7) (fun _ => by intro h o m c he; cases he; omega))
          clear hb7 hba HS6 HC6 HO6 HLA6 HBW6 HM6
          have HON7 : Hid (∀ w : World, ByAt (w.alloc (.cells #[.int .u8 7] (5 : TypeId))) (.slice (some ⟨w.heap.size, 0, none⟩) 1 1) [7]) := fun w => ByAt.one w 7
          have hlq7 : LF + [(7 : UInt8)].length ≤ 140737488355328 := by simp; omega
          have HLF1 : Hid ((PF ++ [(7 : UInt8)]).length = LF + 1) := by show _ = _; rw [List.length_append, HLF.out]; rfl
          go_wp2_with (first
            | (go_at_call 26; refine HW7.out.mono ?_; rintro e w8 ⟨rfl, hs8, hb8⟩; have HC8 := hidD hs8; obtain ⟨cs7, hcs7⟩ := HC7.out.block; have HS8 := hidD (HS7.out.but hb8 (Ne.symm hgcs)); have HO8 := hidD (row_butQ HO7.out hb8 (fun g' hg' => row_type HO7.out hg' hcs7 (by decide))); have HLA8 := hidD (HLA7.out.but hb8 (by intro h o m c he; cases he; exact hglc)); have HBW8 : Hid (Below w.heap.size w w8) := HBW7.out.trans (hb8.bel.mono hwgc); have HA8 : Hid (Below w8.heap.size w8 (w8.alloc (.cells #[.int .u8 7] (5 : TypeId)))) := (Below.refl _ _).alloc (Nat.le_refl _) _; have HO8a := hidD (row_below HO8.out HA8.out); have HB8a := hidD (Below.next HBW8.out HA8.out); have hwz8 := HB8a.out.size; clear hs8 hb8 hcs7 HW7 HS7 HC7 HO7 HLA7 HBW7)
            | (at_builtin; refine wpList_append_by rfl (.tmp 187) (.tmp 188) rfl w.heap.size (.slice (some ⟨gf, 0, none⟩) LF cf) LF (PF.map encB) rfl HO8a.out (.slice (some ⟨w8.heap.size, 0, none⟩) 1 1) [7] rfl (HON7.out w8) hlq7 hwz8 ?_; intro v9 w9 hown9 hg9; obtain ⟨cs8, hcs8⟩ := (HC8.out.next HA8.out).block; obtain ⟨ds8, hds8⟩ := (HS8.out.next HA8.out).block; have HC9 := hidD ((HC8.out.next HA8.out).grown hg9 (fun he => row_type HO8a.out (g := gc) he.symm hcs8 (by decide) rfl)); have HS9 := hidD ((HS8.out.next HA8.out).grown hg9 (fun he => row_type HO8a.out (g := gs) he.symm hds8 (by decide) rfl)); have HLA9 := hidD ((HLA8.out.next HA8.out).grown hg9 (fun gg oo nn cc he => by cases he; intro hc; exact hglf (by simpa [Value.ownBlock] using hc))); have HB9 := hidD (row_grown HO8a.out HB8a.out hg9 hwz8); rw [← List.map_append] at hown9; have hbb9 := row_by (bs := PF ++ [7]) (by rw [HLF1.out]; exact hown9); obtain ⟨a9, c9, hv9⟩ := row_shape hown9; subst hv9; have HX9 := hidD (HR10.out (PF ++ [7]) (LF + 1) a9 c9 w9 HLF1.out (by omega) hbb9); clear hown9 hg9 hbb9 hcs8 hds8 HC8 HS8 HLA8 HBW8 HO8 HO8a HA8 HB8a)
            | (go_at_call 10; refine HX9.out.mono ?_; rintro e w10 ⟨u10, rfl, hy10, hb10⟩; have HC10 := hidD (HC9.out.next hb10); have HS10 := hidD (HS9.out.next hb10); have HLA10 := hidD (HLA9.out.next hb10); have HB10 := hidD (Below.next HB9.out hb10); have HY10 := hidD hy10; clear hy10 hb10 HX9 HC9 HS9 HLA9 HB9))
          all_goals try (apply False.elim; apply undef_boolT; assumption)
          go_at_call 28
          refine (HSS.out gc (PF ++ [7]) _ trivial HC10.out).mono ?_
          rintro e w11 ⟨g11, rfl, hg11, hrz11, hby11, hb11⟩
          have HC11 := hidD (HC10.out.next hb11)
          have HS11 := hidD (HS10.out.next hb11)
          have HLA11 := hidD (HLA10.out.next hb11)
          have HB11 := hidD (Below.next HB10.out hb11)
          have HM11 := hidD (HSD.out (PF ++ [7]) _ _ w11 hby11 (HY10.out.next hb11))
          clear hrz11 hby11 hb11 HC10 HS10 HLA10 HB10 HY10
          go_wp2_with fail
          go_at_call 11
          refine HM11.out.mono ?_
          rintro e w12 ⟨rfl, hb12⟩
          have HC12 := hidD (HC11.out.next hb12)
          have HS12 := hidD (HS11.out.next hb12)
          have HLA12 := hidD (HLA11.out.next hb12)
          have HB12 := hidD (Below.next HB11.out hb12)
          clear hb12 HC11 HS11 HLA11 HB11 HM11
          go_wp2_with fail
          go_at_call 28
          refine (HSS.out gs PN _ trivial HS12.out).mono ?_
          rintro e w13 ⟨g13, rfl, hg13, hrz13, hby13, hb13⟩
          have HC13 := hidD (HC12.out.next hb13)
          have HB13 := hidD (Below.next HB12.out hb13)
          have HM13 := hidD (HSD.out PN _ _ w13 hby13 (HLA12.out.next hb13))
          clear hrz13 hby13 hb13 HC12 HS12 HLA12 HB12
          go_wp2_with fail
          go_at_call 11
          refine HM13.out.mono ?_
          rintro e w14 ⟨rfl, hb14⟩
          have HB14 := hidD (Below.next HB13.out hb14)
          have HL14 := hidD (HLE.out gc (PF ++ [7]) w14 (by rw [HLF1.out]; omega) (HC13.out.next hb14))
          rw [HLF1.out] at HL14
          clear hb14 HC13 HB13 HM13
          have hlfi : ((LF + 1 : Nat) : Int) = (LF : Int) + 1 := by omega
          rw [hlfi] at HL14
          clear hlfi
          go_wp2_with (go_at_call 27; refine HL14.out.mono ?_; rintro e wz ⟨rfl, hwz⟩; subst wz)
          all_goals try (apply False.elim; apply undef_boolT; assumption)
          refine bodyPost_ret (v := .bool true) (by simp [results, Try.results7, go_sem]) rfl ⟨rfl, HB14.out⟩
end Go.Proofs.Ytnldpofljeodiaa
/- ShaStates, for every kind. -/
namespace Go.Proofs.Ytnldpofljeodiaa
open Go.RowKit
set_option linter.unusedVariables false

theorem statesLaw_any (x : Int) (L : List (List UInt8)) (hL : L.length ≤ 1048576) (hp : ∀ q, q < L.length → (L.getD q []).length ≤ 1048576) (sl : Value) (z : Int) (w : World) (hs : PcAt w sl L) : Calls Try.prog 7 #[.int .i64 x, sl, .int .i64 z] w fun e w' => e = .returned (.bool true) ∧ Below w.heap.size w w' := by
  rcases kind_or x with ⟨k, hk, rfl⟩ | hno
  · exact states_any k hk L hL hp sl z w hs
  · exact states_no x hno sl z w
end Go.Proofs.Ytnldpofljeodiaa
