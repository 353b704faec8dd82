/- What Read and Signed answer, the document's and the program's. -/
import Derived.Test.YtmmlmpcalhfigaaHead
namespace Go.Proofs.Ytmmlmpcalhfigaa
open Go.RowKit
set_option linter.unusedVariables false

theorem runS_max (kind : Nat) (s : List UInt8) : ∀ (f i v : Nat), v ≤ 18446744073709551615 → ∀ v' j, runS kind s f i v = (some v', j) → v' ≤ 18446744073709551615
  | 0, i, v, hv, v', j, h => by simp only [runS, Prod.mk.injEq, Option.some.injEq] at h; omega
  | f + 1, i, v, hv, v', j, h => by
    rw [runS] at h
    split at h
    · split at h
      · simp at h
      · rename_i hb
        exact runS_max kind s f _ _ (by omega) v' j h
    · simp only [Prod.mk.injEq, Option.some.injEq] at h; omega
theorem runS_le (kind : Nat) (s : List UInt8) : ∀ (f i v : Nat), i ≤ s.length → ∀ r j, runS kind s f i v = (r, j) → i ≤ j ∧ j ≤ s.length
  | 0, i, v, hi, r, j, h => by simp only [runS, Prod.mk.injEq] at h; omega
  | f + 1, i, v, hi, r, j, h => by
    rw [runS] at h
    split at h
    · rename_i hc
      split at h
      · simp only [Prod.mk.injEq] at h; omega
      · have := runS_le kind s f (i + 1) _ (by omega) r j h
        omega
    · simp only [Prod.mk.injEq] at h; omega
theorem headS_le (s : List UInt8) : (headS s).1 ≤ 18446744073709551615 ∧ (headS s).2.2.1 ≤ s.length ∧ (headS s).2.1 ≤ 16 := by
  have hm := markS_le s
  unfold headS
  cases hr : runS (markS s).1 s (s.length - (markS s).2) (markS s).2 0 with
  | mk o i =>
    have h2 := runS_le _ _ _ _ _ hm.1 _ _ hr
    cases o with
    | none => exact ⟨Nat.zero_le _, h2.2, Nat.zero_le _⟩
    | some v =>
      have h1 := runS_max _ _ _ _ _ (by omega) _ _ hr
      simp only
      split
      · exact ⟨Nat.zero_le _, h2.2, Nat.zero_le _⟩
      · exact ⟨h1, h2.2, hm.2.2⟩
theorem readS_eq {s : List UInt8} {v kd n er : Nat} (h : headS s = (v, kd, n, er)) : readS s = if er ≠ 0 then (0, 0, n, er) else if n < s.length then (0, 0, n, 20) else (v, kd, 0, 0) := by
  unfold readS
  rw [h]
theorem readS_le (s : List UInt8) : (readS s).1 ≤ 18446744073709551615 ∧ (readS s).2.2.1 ≤ s.length ∧ (readS s).2.1 ≤ 16 := by
  have h := headS_le s
  unfold readS
  split
  · exact ⟨Nat.zero_le _, h.2.1, Nat.zero_le _⟩
  · split
    · exact ⟨Nat.zero_le _, h.2.1, Nat.zero_le _⟩
    · exact ⟨h.1, Nat.zero_le _, h.2.2⟩

set_option maxRecDepth 100000 in
set_option maxHeartbeats 1000000 in
theorem refRead_any (s : List UInt8) (hs : s.length ≤ maxLen) (w : World) : Calls Try.prog 11 #[.string ⟨s.toArray⟩] w fun e w' => e = .returned (.tuple #[.int .u64 (readS s).1, .int .i64 (readS s).2.1, .int .i64 (readS s).2.2.1, .int .i64 (readS s).2.2.2]) ∧ w' = w := by
  have HH := hidD (refHead_any s hs w)
  have hb := headS_le s
  unfold maxLen at hs
  obtain ⟨v, kd, n, er, hh⟩ : ∃ v kd n er, headS s = (v, kd, n, er) := ⟨_, _, _, _, rfl⟩
  have HE := hidD (readS_eq hh)
  rw [hh] at HH hb
  simp only at HH hb
  clear hh
  generalize readS s = rd at *
  by_cases h0 : er = 0
  · subst h0
    by_cases h1 : n < s.length
    · have hi : (n : Int) < s.length := by omega
      have e : rd = (0, 0, n, 20) := by rw [HE.out, if_neg (by simp), if_pos h1]
      clear HE
      go_enter Try.func11, Try.ntmps11
      go_wp2_with (go_at_call 7; refine HH.out.mono ?_; rintro e w' ⟨rfl, rfl⟩)
      refine bodyPost_ret (v := .tuple #[.int .u64 0, .int .i64 0, .int .i64 n, .int .i64 20]) (by simp [results, Try.results11, go_sem]) rfl ⟨?_, rfl⟩
      rw [e]; rfl
    · have hi : ¬ (n : Int) < s.length := by omega
      have e : rd = (v, kd, 0, 0) := by rw [HE.out, if_neg (by simp), if_neg h1]
      clear HE
      go_enter Try.func11, Try.ntmps11
      go_wp2_with (go_at_call 7; refine HH.out.mono ?_; rintro e w' ⟨rfl, rfl⟩)
      refine bodyPost_ret (v := .tuple #[.int .u64 v, .int .i64 kd, .int .i64 0, .int .i64 0]) (by simp [results, Try.results11, go_sem]) rfl ⟨?_, rfl⟩
      rw [e]; rfl
  · have hi : ¬ (er : Int) = 0 := by omega
    have e : rd = (0, 0, n, er) := by rw [HE.out, if_pos h0]
    clear HE
    go_enter Try.func11, Try.ntmps11
    go_wp2_with (go_at_call 7; refine HH.out.mono ?_; rintro e w' ⟨rfl, rfl⟩)
    refine bodyPost_ret (v := .tuple #[.int .u64 0, .int .i64 0, .int .i64 n, .int .i64 er]) (by simp [results, Try.results11, go_sem]) rfl ⟨?_, rfl⟩
    rw [e]; rfl

set_option maxRecDepth 100000 in
set_option maxHeartbeats 1000000 in
theorem read_any (s : List UInt8) (hs : s.length ≤ maxLen) (w : World) : Calls Try.prog 10 #[.string ⟨s.toArray⟩] w fun e w' => e = .returned (.tuple #[.int .u64 (readS s).1, .int .i64 (readS s).2.1, .int .i64 (readS s).2.2.1, .int .i64 (readS s).2.2.2]) ∧ w' = w := by
  have HH := hidD (head_any s hs w)
  have hb := headS_le s
  unfold maxLen at hs
  obtain ⟨v, kd, n, er, hh⟩ : ∃ v kd n er, headS s = (v, kd, n, er) := ⟨_, _, _, _, rfl⟩
  have HE := hidD (readS_eq hh)
  rw [hh] at HH hb
  simp only at HH hb
  clear hh
  generalize readS s = rd at *
  by_cases h0 : er = 0
  · subst h0
    by_cases h1 : n < s.length
    · have hi : (n : Int) < s.length := by omega
      have e : rd = (0, 0, n, 20) := by rw [HE.out, if_neg (by simp), if_pos h1]
      clear HE
      go_enter Try.func10, Try.ntmps10
      go_wp2_with (go_at_call 6; refine HH.out.mono ?_; rintro e w' ⟨rfl, rfl⟩)
      refine bodyPost_ret (v := .tuple #[.int .u64 0, .int .i64 0, .int .i64 n, .int .i64 20]) (by simp [results, Try.results10, go_sem]) rfl ⟨?_, rfl⟩
      rw [e]; rfl
    · have hi : ¬ (n : Int) < s.length := by omega
      have e : rd = (v, kd, 0, 0) := by rw [HE.out, if_neg (by simp), if_neg h1]
      clear HE
      go_enter Try.func10, Try.ntmps10
      go_wp2_with (go_at_call 6; refine HH.out.mono ?_; rintro e w' ⟨rfl, rfl⟩)
      refine bodyPost_ret (v := .tuple #[.int .u64 v, .int .i64 kd, .int .i64 0, .int .i64 0]) (by simp [results, Try.results10, go_sem]) rfl ⟨?_, rfl⟩
      rw [e]; rfl
  · have hi : ¬ (er : Int) = 0 := by omega
    have e : rd = (0, 0, n, er) := by rw [HE.out, if_pos h0]
    clear HE
    go_enter Try.func10, Try.ntmps10
    go_wp2_with (go_at_call 6; refine HH.out.mono ?_; rintro e w' ⟨rfl, rfl⟩)
    refine bodyPost_ret (v := .tuple #[.int .u64 0, .int .i64 0, .int .i64 n, .int .i64 er]) (by simp [results, Try.results10, go_sem]) rfl ⟨?_, rfl⟩
    rw [e]; rfl

end Go.Proofs.Ytmmlmpcalhfigaa
