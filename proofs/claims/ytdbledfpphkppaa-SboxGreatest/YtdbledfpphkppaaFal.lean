/- What the document's falling answers. -/
import Derived.Test.YtdbledfpphkppaaIsl
namespace Go.Proofs.Ytdbledfpphkppaa
open Go.RowKit
set_option linter.unusedVariables false

theorem empty_own (w : World) : (w.alloc (.cells #[] (3 : TypeId))).ownsRow w.heap.size 3 1 (.slice (some ⟨w.heap.size, 0, none⟩) 0 0) 0 [] := full_row (Nat.le_refl _) rfl (by unfold maxLen; omega) (heap_alloc_last _ _)
set_option maxRecDepth 100000 in
set_option maxHeartbeats 800000 in
theorem falling_any (l : List Int) (hl : l.length ≤ 1000) (n : Int) (a : Option Addr) (cap : Nat) (hcap : l.length ≤ cap) (hcm : cap ≤ 9223372036854775807) (w : World) (hv : IsAt w (.slice a l.length cap) l) : Calls Try.prog 59 #[.slice a l.length cap, .int .i64 n] w fun e w' => ∃ v', e = .returned v' ∧ w'.ownsRow w.heap.size 3 1 v' (l.length + 1) ((insF n l).map encI) ∧ Below w.heap.size w w' := by
  have HSH : Hid (∀ k, k < l.length → ∃ g off, a = some ⟨g, off, none⟩ ∧ g < w.heap.size ∧ w.cell? ⟨g, off + k, none⟩ = some (.int .i64 (l.getD k 0))) := by
    obtain ⟨a', c', he, h⟩ := hv.shape
    cases he; exact h
  have HCL := hidD (cut_le n l)
  have HLT := hidD (fun k h => cut_lt n l (k := k) h)
  have HAT := hidD (cut_at n l)
  have HTK : Hid (∀ w', Below w.heap.size w w' → IsAt w' (.slice a (cutF n l) cap) (l.take (cutF n l))) := fun w' h => (hv.next h).take (cut_le n l)
  have HIN : Hid (insF n l = l.take (cutF n l) ++ n :: l.drop (cutF n l)) := rfl
  have HV := hidD hv
  have HTL : Hid ((l.take (cutF n l)).length = cutF n l) := by show _ = _; rw [List.length_take]; have := cut_le n l; omega
  have HDL : Hid ((l.drop (cutF n l)).length = l.length - cutF n l) := List.length_drop
  clear hv
  generalize insF n l = R at *
  generalize hc : cutF n l = c at *
  have HCE := hidD hc
  generalize hlen : l.length = m at *
  have HM := hidD hlen
  clear hc hlen
  go_enter Try.func59, Try.ntmps59
  go_wp2_with fail
  go_loopw [5] (fun i wr => ∃ k : Nat, k ≤ c ∧ i = .int .i64 k ∧ wr = w) (fun i _ => c - (intOf i).toNat)
  case atStart => exact ⟨0, Nat.zero_le _, rfl, rfl⟩
  case round =>
    obtain ⟨k, hk, rfl, rfl⟩ := hrel
    have hcm' := HCL.out
    by_cases hlt : k < c
    · obtain ⟨g, o, rfl, hg, hcell⟩ := HSH.out k (by omega)
      have hge := HLT.out k hlt
      have hlti : (k : Int) < m := by omega
      generalize l.getD k 0 = X at *
      go_wp2_with fail
      go_roundw
      case rel => exact ⟨k + 1, by omega, by go_num, trivial⟩
      case measure => simp [intOf]; omega
    · obtain rfl : k = c := by omega
      by_cases hkm : k < m
      · obtain ⟨g, o, rfl, hg, hcell⟩ := HSH.out k (by omega)
        have hge := HAT.out hkm
        have hlti : (k : Int) < m := by omega
        generalize l.getD k 0 = X at *
        have hkc : ¬ cap = k := by omega
        have hkci : (k : Int) ≤ cap := by omega
        have hkmi : (k : Int) ≤ m := by omega
        have hmci : (m : Int) ≤ cap := by omega
        have HOW := hidD (empty_own wr)
        have HAL : Hid (∀ (w' : World) o, Below w'.heap.size w' (w'.alloc o)) := fun w' o => (Below.refl _ _).alloc (Nat.le_refl _) o
        have HDR : Hid (∀ w', Below wr.heap.size wr w' → ∀ c', IsAt w' (.slice (some ⟨g, o + k, none⟩) (m - k) c') (l.drop k)) := fun w' h c' => by
          have h1 := HV.out.next h
          rw [← HM.out] at h1
          have := h1.drop (n := k) (by rw [HM.out]; exact hkm) c'
          rw [HM.out] at this; exact this
        go_wp2_with (first
          | (at_builtin; refine wpList_append_is rfl _ _ rfl wr.heap.size (.slice (some ⟨wr.heap.size, 0, none⟩) 0 0) 0 [] rfl HOW.out (.slice (some ⟨g, o, none⟩) k cap) (l.take k) rfl (HTK.out _ (HAL.out _ _)) (by rw [HTL.out]; omega) (by simp) ?_; intro v6 w6 hown6 hg6; have HB6 : Hid (Below wr.heap.size wr w6) := (row_grown HOW.out (HAL.out _ _) hg6 (by simp)); have HO6 : Hid (w6.ownsRow wr.heap.size 3 1 v6 k ((l.take k).map encI)) := (by have h := hown6; rw [Nat.zero_add, List.nil_append, HTL.out] at h; exact h); clear hown6 hg6 HOW)
          | (at_builtin; refine wpList_append_is rfl _ _ rfl wr.heap.size v6 k ((l.take k).map encI) rfl (HO6.out.alloc _) (.slice (some ⟨w6.heap.size, 0, none⟩) 1 1) [n] rfl (is_new _ _) (by simp <;> omega) (by have := HB6.out.size; simp; omega) ?_; intro v7 w7 hown7 hg7; have HB7 : Hid (Below wr.heap.size wr w7) := (row_grown (HO6.out.alloc _) (Below.next HB6.out (HAL.out _ _)) hg7 (by have := HB6.out.size; simp; omega)); have HO7 := hidD hown7; clear hown7 hg7 HO6)
          | (at_builtin; refine wpList_append_is rfl _ _ rfl wr.heap.size v7 (k + [n].length) ((l.take k).map encI ++ [n].map encI) rfl HO7.out (.slice (some ⟨g, o + k, none⟩) (m - k) (cap - k)) (l.drop k) rfl (HDR.out _ HB7.out _) (by rw [HDL.out]; simp; omega) HB7.out.size ?_; intro v8 w8 hown8 hg8; have HB8 : Hid (Below wr.heap.size wr w8) := (row_grown HO7.out HB7.out hg8 HB7.out.size); have HO8 := hidD hown8; clear hown8 hg8 HO7))
        go_ret
        refine ⟨_, rfl, ?_, HB8.out⟩
        have h8 := HO8.out
        rw [HDL.out, show k + [n].length + (m - k) = m + 1 by simp; omega] at h8
        rw [HIN.out]
        simpa using h8
      · obtain rfl : k = m := by omega
        have hkci : (k : Int) ≤ cap := by omega
        cases a with
        | none =>
          obtain rfl : cap = 0 := by
            rcases HV.out with ⟨_, a', c', he, hz⟩ | ⟨g, o, c', he, _⟩
            · cases he; exact hz rfl
            · cases he
          have h0 : k = 0 := by omega
          subst h0
          have HOW := hidD (empty_own wr)
          have HAL : Hid (∀ (w' : World) o, Below w'.heap.size w' (w'.alloc o)) := fun w' o => (Below.refl _ _).alloc (Nat.le_refl _) o
          have HNI : Hid (∀ (w' : World) (x : Option Addr) (c' : Nat), (x = none → c' = 0) → IsAt w' (.slice x 0 c') []) := fun w' x c' h => .inl ⟨rfl, x, c', rfl, h⟩
          go_wp2_with (first
            | (at_builtin; refine wpList_append_is rfl _ _ rfl wr.heap.size (.slice (some ⟨wr.heap.size, 0, none⟩) 0 0) 0 [] rfl HOW.out (.slice none 0 0) (l.take 0) rfl (HTK.out _ (HAL.out _ _)) (by rw [HTL.out]; omega) (by simp) ?_; intro v6 w6 hown6 hg6; have HB6 : Hid (Below wr.heap.size wr w6) := (row_grown HOW.out (HAL.out _ _) hg6 (by simp)); have HO6 : Hid (w6.ownsRow wr.heap.size 3 1 v6 0 ((l.take 0).map encI)) := (by have h := hown6; rw [Nat.zero_add, List.nil_append, HTL.out] at h; exact h); clear hown6 hg6 HOW)
            | (at_builtin; refine wpList_append_is rfl _ _ rfl wr.heap.size v6 0 ((l.take 0).map encI) rfl (HO6.out.alloc _) (.slice (some ⟨w6.heap.size, 0, none⟩) 1 1) [n] rfl (is_new _ _) (by simp <;> omega) (by have := HB6.out.size; simp; omega) ?_; intro v7 w7 hown7 hg7; have HB7 : Hid (Below wr.heap.size wr w7) := (row_grown (HO6.out.alloc _) (Below.next HB6.out (HAL.out _ _)) hg7 (by have := HB6.out.size; simp; omega)); have HO7 := hidD hown7; clear hown7 hg7 HO6)
            | (at_builtin; refine wpList_append_is rfl _ _ rfl wr.heap.size v7 (0 + [n].length) ((l.take 0).map encI ++ [n].map encI) rfl HO7.out _ [] rfl (HNI.out _ _ _ (by simp)) (by simp <;> omega) HB7.out.size ?_; intro v8 w8 hown8 hg8; have HB8 : Hid (Below wr.heap.size wr w8) := (row_grown HO7.out HB7.out hg8 HB7.out.size); have HO8 := hidD hown8; clear hown8 hg8 HO7))
          go_ret
          refine ⟨_, rfl, ?_, HB8.out⟩
          have h8 := HO8.out
          have hd : l.drop 0 = [] := List.drop_of_length_le (by rw [HM.out]; exact Nat.le_refl _)
          rw [show 0 + [n].length + ([] : List Int).length = 0 + 1 by simp] at h8
          rw [HIN.out, hd]
          simpa using h8
        | some ad =>
          by_cases hkc : k = cap
          · subst hkc
            have HOW := hidD (empty_own wr)
            have HAL : Hid (∀ (w' : World) o, Below w'.heap.size w' (w'.alloc o)) := fun w' o => (Below.refl _ _).alloc (Nat.le_refl _) o
            have HNI : Hid (∀ (w' : World) (x : Option Addr) (c' : Nat), (x = none → c' = 0) → IsAt w' (.slice x 0 c') []) := fun w' x c' h => .inl ⟨rfl, x, c', rfl, h⟩
            go_wp2_with (first
              | (at_builtin; refine wpList_append_is rfl _ _ rfl wr.heap.size (.slice (some ⟨wr.heap.size, 0, none⟩) 0 0) 0 [] rfl HOW.out (.slice (some ad) k k) (l.take k) rfl (HTK.out _ (HAL.out _ _)) (by rw [HTL.out]; omega) (by simp) ?_; intro v6 w6 hown6 hg6; have HB6 : Hid (Below wr.heap.size wr w6) := (row_grown HOW.out (HAL.out _ _) hg6 (by simp)); have HO6 : Hid (w6.ownsRow wr.heap.size 3 1 v6 k ((l.take k).map encI)) := (by have h := hown6; rw [Nat.zero_add, List.nil_append, HTL.out] at h; exact h); clear hown6 hg6 HOW)
              | (at_builtin; refine wpList_append_is rfl _ _ rfl wr.heap.size v6 k ((l.take k).map encI) rfl (HO6.out.alloc _) (.slice (some ⟨w6.heap.size, 0, none⟩) 1 1) [n] rfl (is_new _ _) (by simp <;> omega) (by have := HB6.out.size; simp; omega) ?_; intro v7 w7 hown7 hg7; have HB7 : Hid (Below wr.heap.size wr w7) := (row_grown (HO6.out.alloc _) (Below.next HB6.out (HAL.out _ _)) hg7 (by have := HB6.out.size; simp; omega)); have HO7 := hidD hown7; clear hown7 hg7 HO6)
              | (at_builtin; refine wpList_append_is rfl _ _ rfl wr.heap.size v7 (k + [n].length) ((l.take k).map encI ++ [n].map encI) rfl HO7.out _ [] rfl (HNI.out _ _ _ (by simp)) (by simp <;> omega) HB7.out.size ?_; intro v8 w8 hown8 hg8; have HB8 : Hid (Below wr.heap.size wr w8) := (row_grown HO7.out HB7.out hg8 HB7.out.size); have HO8 := hidD hown8; clear hown8 hg8 HO7))
            go_ret
            refine ⟨_, rfl, ?_, HB8.out⟩
            have h8 := HO8.out
            have hd : l.drop k = [] := List.drop_of_length_le (by rw [HM.out]; exact Nat.le_refl _)
            rw [show k + [n].length + ([] : List Int).length = k + 1 by simp] at h8
            rw [HIN.out, hd]
            simpa using h8
          · have hkc' : ¬ (cap : Int) = k := by omega
            have HOW := hidD (empty_own wr)
            have HAL : Hid (∀ (w' : World) o, Below w'.heap.size w' (w'.alloc o)) := fun w' o => (Below.refl _ _).alloc (Nat.le_refl _) o
            have HNI : Hid (∀ (w' : World) (x : Option Addr) (c' : Nat), (x = none → c' = 0) → IsAt w' (.slice x 0 c') []) := fun w' x c' h => .inl ⟨rfl, x, c', rfl, h⟩
            go_wp2_with (first
              | (at_builtin; refine wpList_append_is rfl _ _ rfl wr.heap.size (.slice (some ⟨wr.heap.size, 0, none⟩) 0 0) 0 [] rfl HOW.out (.slice (some ad) k cap) (l.take k) rfl (HTK.out _ (HAL.out _ _)) (by rw [HTL.out]; omega) (by simp) ?_; intro v6 w6 hown6 hg6; have HB6 : Hid (Below wr.heap.size wr w6) := (row_grown HOW.out (HAL.out _ _) hg6 (by simp)); have HO6 : Hid (w6.ownsRow wr.heap.size 3 1 v6 k ((l.take k).map encI)) := (by have h := hown6; rw [Nat.zero_add, List.nil_append, HTL.out] at h; exact h); clear hown6 hg6 HOW)
              | (at_builtin; refine wpList_append_is rfl _ _ rfl wr.heap.size v6 k ((l.take k).map encI) rfl (HO6.out.alloc _) (.slice (some ⟨w6.heap.size, 0, none⟩) 1 1) [n] rfl (is_new _ _) (by simp <;> omega) (by have := HB6.out.size; simp; omega) ?_; intro v7 w7 hown7 hg7; have HB7 : Hid (Below wr.heap.size wr w7) := (row_grown (HO6.out.alloc _) (Below.next HB6.out (HAL.out _ _)) hg7 (by have := HB6.out.size; simp; omega)); have HO7 := hidD hown7; clear hown7 hg7 HO6)
              | (at_builtin; refine wpList_append_is rfl _ _ rfl wr.heap.size v7 (k + [n].length) ((l.take k).map encI ++ [n].map encI) rfl HO7.out _ [] rfl (HNI.out _ _ _ (by simp)) (by simp <;> omega) HB7.out.size ?_; intro v8 w8 hown8 hg8; have HB8 : Hid (Below wr.heap.size wr w8) := (row_grown HO7.out HB7.out hg8 HB7.out.size); have HO8 := hidD hown8; clear hown8 hg8 HO7))
            go_ret
            refine ⟨_, rfl, ?_, HB8.out⟩
            have h8 := HO8.out
            have hd : l.drop k = [] := List.drop_of_length_le (by rw [HM.out]; exact Nat.le_refl _)
            rw [show k + [n].length + ([] : List Int).length = k + 1 by simp] at h8
            rw [HIN.out, hd]
            simpa using h8
end Go.Proofs.Ytdbledfpphkppaa
