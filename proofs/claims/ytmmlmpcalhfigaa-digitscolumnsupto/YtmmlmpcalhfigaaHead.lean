/- What Head answers, the document's and the program's. -/
import Derived.Test.YtmmlmpcalhfigaaMark
namespace Go.Proofs.Ytmmlmpcalhfigaa
open Go.RowKit
set_option linter.unusedVariables false

theorem head_big {s : List UInt8} {K A i : Nat} (hm : markS s = (K, A)) (h : runS K s (s.length - A) A 0 = (none, i)) : headS s = (0, 0, i, 3) := by
  unfold headS; rw [hm]; simp only; rw [h]
theorem head_none {s : List UInt8} {K A v : Nat} (hm : markS s = (K, A)) (h : runS K s (s.length - A) A 0 = (some v, A)) : headS s = (0, 0, A, 20) := by
  unfold headS; rw [hm]; simp only; rw [h]; simp
theorem head_ok {s : List UInt8} {K A v i : Nat} (hm : markS s = (K, A)) (h : runS K s (s.length - A) A 0 = (some v, i)) (hi : i ≠ A) : headS s = (v, K, i, 0) := by
  unfold headS; rw [hm]; simp only; rw [h]; simp [hi]
theorem ofB_digit {c K : Nat} (h : ofB c K = true) : ∃ d : Nat, digV c = d ∧ d ≤ 15 := by
  unfold ofB at h
  rw [Bool.and_eq_true, decide_eq_true_eq] at h
  have := digV_range c
  exact ⟨(digV c).toNat, by omega, by omega⟩
theorem ret_four {a b c d a' b' c' d' : Int} (h1 : a = a') (h2 : b = b') (h3 : c = c') (h4 : d = d') : Ending.returned (.tuple #[.int .u64 a, .int .i64 b, .int .i64 c, .int .i64 d]) = .returned (.tuple #[.int .u64 a', .int .i64 b', .int .i64 c', .int .i64 d']) := by rw [h1, h2, h3, h4]

set_option maxRecDepth 100000 in
set_option maxHeartbeats 1000000 in
theorem refHead_any (s : List UInt8) (hs : s.length ≤ maxLen) (w : World) : Calls Try.prog 7 #[.string ⟨s.toArray⟩] w fun e w' => e = .returned (.tuple #[.int .u64 (headS s).1, .int .i64 (headS s).2.1, .int .i64 (headS s).2.2.1, .int .i64 (headS s).2.2.2]) ∧ w' = w := by
  have HM := hidD (refMark_any s hs w)
  have hb := markS_le s
  unfold maxLen at hs
  obtain ⟨K, A, hm⟩ : ∃ K A, markS s = (K, A) := ⟨_, _, rfl⟩
  rw [hm] at HM hb
  simp only at HM hb
  obtain ⟨hA, hK2, hK16⟩ := hb
  have HB := hidD (fun i => head_big (i := i) hm)
  have HN := hidD (fun v => head_none (v := v) hm)
  have HK := hidD (fun v i => head_ok (v := v) (i := i) hm)
  clear hm
  generalize headS s = hd at *
  go_enter Try.func7, Try.ntmps7
  go_wp2_with (go_at_call 27; refine HM.out.mono ?_; rintro e w' ⟨rfl, rfl⟩)
  go_loop [8, 9] (fun v i => ∃ (k V : Nat), A ≤ k ∧ k ≤ s.length ∧ i = .int .i64 k ∧ v = .int .u64 V ∧ V ≤ 18446744073709551615 ∧ runS K s (s.length - A) A 0 = runS K s (s.length - k) k V) (fun _ i => s.length - (intOf i).toNat)
  case atStart => exact ⟨A, 0, Nat.le_refl _, hA, rfl, rfl, by omega, rfl⟩
  case round =>
    obtain ⟨k, V, hAk, hk, rfl, rfl, hV, hrun⟩ := hrel
    have HR := hidD hrun
    clear hrun
    by_cases hlt : k < s.length
    · have hlt' : k < ({ data := s.toArray } : ByteArray).size := by rw [ba_size]; exact hlt
      have ek := ba_nat s k hlt'
      have hki : (k : Int) < s.length := by omega
      have HOF := hidD (fun (w : World) => refOf_any (byteAt s k) (byteAt_le s k) K w)
      have HDG := hidD (fun (w : World) => refDigit_any (byteAt s k) (byteAt_le s k) w)
      have HST := hidD (fun ho hb => HR.out.trans (runS_step (kind := K) (s := s) (i := k) (v := V) hlt ho hb))
      have HBG := hidD (fun ho hb => HR.out.trans (runS_big (kind := K) (s := s) (i := k) (v := V) hlt ho hb))
      have HSP := hidD (fun h => HR.out.trans (runS_stop (kind := K) (s := s) (f := s.length - k) (i := k) (v := V) h))
      generalize hby : byteAt s k = c at *
      cases hof : ofB c K with
      | true =>
        obtain ⟨d, hd1, hd15⟩ := ofB_digit hof
        rw [hof] at HOF
        rw [hd1] at HDG HST HBG
        have HBI := hidD (big_iff (v := V) (d := d) (k := K) (by omega) (by omega))
        by_cases hbig : 18446744073709551615 < V * K + d
        · have hdv : ((18446744073709551615 : Int) - (d : Int)) / (K : Int) < (V : Int) := by
            have h1 := HBI.out.2 hbig
            have h2 : ((18446744073709551615 - d : Nat) : Int) = 18446744073709551615 - (d : Int) := by omega
            rw [← h2, ← Int.natCast_ediv]
            exact_mod_cast h1
          have HE := hidD (HB.out k (HBG.out hof (by simpa using hbig)))
          clear hbig
          go_wp2_with (first
            | (go_at_call 28; refine (HOF.out _).mono ?_; rintro e w' ⟨rfl, rfl⟩)
            | (go_at_call 29; refine (HDG.out _).mono ?_; rintro e w' ⟨rfl, rfl⟩))
          refine bodyPost_ret (v := .tuple #[.int .u64 0, .int .i64 0, .int .i64 k, .int .i64 3]) (by simp [results, Try.results7, go_sem]) rfl ⟨?_, rfl⟩
          rw [HE.out]; rfl
        · have hdv : ¬ ((18446744073709551615 : Int) - (d : Int)) / (K : Int) < (V : Int) := by
            intro h0
            refine hbig (HBI.out.1 ?_)
            have h2 : ((18446744073709551615 - d : Nat) : Int) = 18446744073709551615 - (d : Int) := by omega
            rw [← h2, ← Int.natCast_ediv] at h0
            exact_mod_cast h0
          have HE := hidD (HST.out hof (by simpa using hbig))
          obtain ⟨M, hM⟩ : ∃ M, V * K = M := ⟨_, rfl⟩
          have hMi : (V : Int) * (K : Int) = (M : Int) := by rw [← hM]; exact (Int.natCast_mul V K).symm
          have hMb : M + d ≤ 18446744073709551615 := by omega
          rw [hM] at HE
          clear hbig hM
          go_wp2_with (first
            | (go_at_call 28; refine (HOF.out _).mono ?_; rintro e w' ⟨rfl, rfl⟩)
            | (go_at_call 29; refine (HDG.out _).mono ?_; rintro e w' ⟨rfl, rfl⟩))
          go_round
          case rel => exact ⟨k + 1, M + d, by omega, by omega, by go_num, by go_num, hMb, by simpa using HE.out⟩
          case measure => simp [intOf]; omega
      | false =>
        rw [hof] at HOF
        have HSTOP := hidD (HSP.out (by rw [hof]; simp))
        clear HST HBG
        by_cases hkA : k = A
        · subst hkA
          have hkk : ((k : Int) == (k : Int)) = true := by simp
          have HE := hidD (HN.out V HSTOP.out)
          go_wp2_with (go_at_call 28; refine (HOF.out _).mono ?_; rintro e w' ⟨rfl, rfl⟩)
          refine bodyPost_ret (v := .tuple #[.int .u64 0, .int .i64 0, .int .i64 k, .int .i64 20]) (by simp [results, Try.results7, go_sem]) rfl ⟨?_, rfl⟩
          rw [HE.out]; rfl
        · have hkA' : ((k : Int) == (A : Int)) = false := by simp; omega
          have HE := hidD (HK.out V k HSTOP.out hkA)
          go_wp2_with (go_at_call 28; refine (HOF.out _).mono ?_; rintro e w' ⟨rfl, rfl⟩)
          refine bodyPost_ret (v := .tuple #[.int .u64 V, .int .i64 K, .int .i64 k, .int .i64 0]) (by simp [results, Try.results7, go_sem]) rfl ⟨?_, rfl⟩
          rw [HE.out]; rfl
    · have hki : ¬ (k : Int) < s.length := by omega
      have HSTOP := hidD (HR.out.trans (runS_stop (kind := K) (s := s) (f := s.length - k) (i := k) (v := V) (fun h => hlt h.1)))
      by_cases hkA : k = A
      · subst hkA
        have hkk : ((k : Int) == (k : Int)) = true := by simp
        have HE := hidD (HN.out V HSTOP.out)
        go_wp2
        refine bodyPost_ret (v := .tuple #[.int .u64 0, .int .i64 0, .int .i64 k, .int .i64 20]) (by simp [results, Try.results7, go_sem]) rfl ⟨?_, rfl⟩
        rw [HE.out]; rfl
      · have hkA' : ((k : Int) == (A : Int)) = false := by simp; omega
        have HE := hidD (HK.out V k HSTOP.out hkA)
        go_wp2
        refine bodyPost_ret (v := .tuple #[.int .u64 V, .int .i64 K, .int .i64 k, .int .i64 0]) (by simp [results, Try.results7, go_sem]) rfl ⟨?_, rfl⟩
        rw [HE.out]; rfl

set_option maxRecDepth 100000 in
set_option maxHeartbeats 1000000 in
theorem head_any (s : List UInt8) (hs : s.length ≤ maxLen) (w : World) : Calls Try.prog 6 #[.string ⟨s.toArray⟩] w fun e w' => e = .returned (.tuple #[.int .u64 (headS s).1, .int .i64 (headS s).2.1, .int .i64 (headS s).2.2.1, .int .i64 (headS s).2.2.2]) ∧ w' = w := by
  have HM := hidD (kindOf_any s hs w)
  have hb := markS_le s
  unfold maxLen at hs
  obtain ⟨K, A, hm⟩ : ∃ K A, markS s = (K, A) := ⟨_, _, rfl⟩
  rw [hm] at HM hb
  simp only at HM hb
  obtain ⟨hA, hK2, hK16⟩ := hb
  have HB := hidD (fun i => head_big (i := i) hm)
  have HN := hidD (fun v => head_none (v := v) hm)
  have HK := hidD (fun v i => head_ok (v := v) (i := i) hm)
  clear hm
  generalize headS s = hd at *
  go_enter Try.func6, Try.ntmps6
  go_wp2_with (go_at_call 24; refine HM.out.mono ?_; rintro e w' ⟨rfl, rfl⟩)
  go_loop [2, 3, 4] (fun v kd i => ∃ (k V : Nat), A ≤ k ∧ k ≤ s.length ∧ i = .int .i64 k ∧ v = .int .u64 V ∧ kd = .int .i64 K ∧ V ≤ 18446744073709551615 ∧ runS K s (s.length - A) A 0 = runS K s (s.length - k) k V) (fun _ _ i => s.length - (intOf i).toNat)
  case atStart => exact ⟨A, 0, Nat.le_refl _, hA, rfl, rfl, rfl, by omega, rfl⟩
  case round =>
    obtain ⟨k, V, hAk, hk, rfl, rfl, rfl, hV, hrun⟩ := hrel
    have HR := hidD hrun
    clear hrun
    by_cases hlt : k < s.length
    · have hlt' : k < ({ data := s.toArray } : ByteArray).size := by rw [ba_size]; exact hlt
      have ek := ba_nat s k hlt'
      have hki : (k : Int) < s.length := by omega
      have HOF := hidD (fun (w : World) => isDigit_any (byteAt s k) (byteAt_le s k) K w)
      have HDG := hidD (fun (w : World) => digit_any (byteAt s k) (byteAt_le s k) w)
      have HST := hidD (fun ho hb => HR.out.trans (runS_step (kind := K) (s := s) (i := k) (v := V) hlt ho hb))
      have HBG := hidD (fun ho hb => HR.out.trans (runS_big (kind := K) (s := s) (i := k) (v := V) hlt ho hb))
      have HSP := hidD (fun h => HR.out.trans (runS_stop (kind := K) (s := s) (f := s.length - k) (i := k) (v := V) h))
      generalize hby : byteAt s k = c at *
      cases hof : ofB c K with
      | true =>
        obtain ⟨d, hd1, hd15⟩ := ofB_digit hof
        rw [hof] at HOF
        rw [hd1] at HDG HST HBG
        have HBI := hidD (big_iff (v := V) (d := d) (k := K) (by omega) (by omega))
        by_cases hbig : 18446744073709551615 < V * K + d
        · have hdv : ((18446744073709551615 : Int) - (d : Int)) / (K : Int) < (V : Int) := by
            have h1 := HBI.out.2 hbig
            have h2 : ((18446744073709551615 - d : Nat) : Int) = 18446744073709551615 - (d : Int) := by omega
            rw [← h2, ← Int.natCast_ediv]
            exact_mod_cast h1
          have HE := hidD (HB.out k (HBG.out hof (by simpa using hbig)))
          clear hbig
          go_wp2_with (first
            | (go_at_call 25; refine (HOF.out _).mono ?_; rintro e w' ⟨rfl, rfl⟩)
            | (go_at_call 26; refine (HDG.out _).mono ?_; rintro e w' ⟨rfl, rfl⟩))
          refine bodyPost_ret (v := .tuple #[.int .u64 0, .int .i64 0, .int .i64 k, .int .i64 3]) (by simp [results, Try.results6, go_sem]) rfl ⟨?_, rfl⟩
          rw [HE.out]; rfl
        · have hdv : ¬ ((18446744073709551615 : Int) - (d : Int)) / (K : Int) < (V : Int) := by
            intro h0
            refine hbig (HBI.out.1 ?_)
            have h2 : ((18446744073709551615 - d : Nat) : Int) = 18446744073709551615 - (d : Int) := by omega
            rw [← h2, ← Int.natCast_ediv] at h0
            exact_mod_cast h0
          have HE := hidD (HST.out hof (by simpa using hbig))
          obtain ⟨M, hM⟩ : ∃ M, V * K = M := ⟨_, rfl⟩
          have hMi : (V : Int) * (K : Int) = (M : Int) := by rw [← hM]; exact (Int.natCast_mul V K).symm
          have hMb : M + d ≤ 18446744073709551615 := by omega
          rw [hM] at HE
          clear hbig hM
          go_wp2_with (first
            | (go_at_call 25; refine (HOF.out _).mono ?_; rintro e w' ⟨rfl, rfl⟩)
            | (go_at_call 26; refine (HDG.out _).mono ?_; rintro e w' ⟨rfl, rfl⟩))
          go_round
          case rel => exact ⟨k + 1, M + d, by omega, by omega, by go_num, by go_num, rfl, hMb, by simpa using HE.out⟩
          case measure => simp [intOf]; omega
      | false =>
        rw [hof] at HOF
        have HSTOP := hidD (HSP.out (by rw [hof]; simp))
        clear HST HBG
        by_cases hkA : k = A
        · subst hkA
          have hkk : ((k : Int) == (k : Int)) = true := by simp
          have HE := hidD (HN.out V HSTOP.out)
          go_wp2_with (go_at_call 25; refine (HOF.out _).mono ?_; rintro e w' ⟨rfl, rfl⟩)
          refine bodyPost_ret (v := .tuple #[.int .u64 0, .int .i64 0, .int .i64 k, .int .i64 20]) (by simp [results, Try.results6, go_sem]) rfl ⟨?_, rfl⟩
          rw [HE.out]; rfl
        · have hkA' : ((k : Int) == (A : Int)) = false := by simp; omega
          have HE := hidD (HK.out V k HSTOP.out hkA)
          go_wp2_with (go_at_call 25; refine (HOF.out _).mono ?_; rintro e w' ⟨rfl, rfl⟩)
          refine bodyPost_ret (v := .tuple #[.int .u64 V, .int .i64 K, .int .i64 k, .int .i64 0]) (by simp [results, Try.results6, go_sem]) rfl ⟨?_, rfl⟩
          rw [HE.out]; rfl
    · have hki : ¬ (k : Int) < s.length := by omega
      have HSTOP := hidD (HR.out.trans (runS_stop (kind := K) (s := s) (f := s.length - k) (i := k) (v := V) (fun h => hlt h.1)))
      by_cases hkA : k = A
      · subst hkA
        have hkk : ((k : Int) == (k : Int)) = true := by simp
        have HE := hidD (HN.out V HSTOP.out)
        go_wp2
        refine bodyPost_ret (v := .tuple #[.int .u64 0, .int .i64 0, .int .i64 k, .int .i64 20]) (by simp [results, Try.results6, go_sem]) rfl ⟨?_, rfl⟩
        rw [HE.out]; rfl
      · have hkA' : ((k : Int) == (A : Int)) = false := by simp; omega
        have HE := hidD (HK.out V k HSTOP.out hkA)
        go_wp2
        refine bodyPost_ret (v := .tuple #[.int .u64 V, .int .i64 K, .int .i64 k, .int .i64 0]) (by simp [results, Try.results6, go_sem]) rfl ⟨?_, rfl⟩
        rw [HE.out]; rfl

end Go.Proofs.Ytmmlmpcalhfigaa
