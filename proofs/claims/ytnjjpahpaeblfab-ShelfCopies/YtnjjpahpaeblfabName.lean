/- What isName of package shelf answers, for every string of a readable length. -/
import Derived.Test.YtnjjpahpaeblfabLeaf
namespace Go.Proofs.Ytnjjpahpaeblfab
open Go.RowKit Go.Maps
set_option linter.unusedVariables false

theorem all_take_succ {l : List UInt8} {k : Nat} (hk : k < l.length) (h : ∀ j, j < k → okB (l.getD j 0) = true) (h1 : okB (l.getD k 0) = true) : ∀ j, j < k + 1 → okB (l.getD j 0) = true := by
  intro j hj
  by_cases e : j = k
  · subst e; exact h1
  · exact h j (by omega)
theorem all_of_getD {l : List UInt8} (h : ∀ j, j < l.length → okB (l.getD j 0) = true) : l.all okB = true := by
  rw [List.all_eq_true]
  intro x hx
  obtain ⟨j, hj, rfl⟩ := List.mem_iff_getElem.1 hx
  have := h j hj
  simpa [List.getD, List.getElem?_eq_getElem hj] using this
theorem all_false_of_getD {l : List UInt8} {k : Nat} (hk : k < l.length) (h : okB (l.getD k 0) = false) : l.all okB = false := by
  cases ha : l.all okB with
  | false => rfl
  | true =>
    rw [List.all_eq_true] at ha
    have := ha l[k] (List.getElem_mem hk)
    simp [List.getD, List.getElem?_eq_getElem hk, this] at h

theorem ret_bool {a b : Bool} (h : a = b) : Ending.returned (.bool a) = .returned (.bool b) := by rw [h]

theorem ba_get (l : List UInt8) (k : Nat) (h : k < ({ data := l.toArray } : ByteArray).size) : ({ data := l.toArray } : ByteArray)[k] = l.getD k 0 := by
  have h' : k < l.length := by have : ({ data := l.toArray } : ByteArray).size = l.length := by simp [ByteArray.size]
                               omega
  show l.toArray[k] = _
  simp [List.getD, List.getElem?_eq_getElem h']

set_option maxHeartbeats 1000000 in
theorem isName_any (l : List UInt8) (w : World) (hl : l.length ≤ maxLen) : Calls Try.prog 24 #[encStr l] w fun e w' => e = .returned (.bool (nmB l)) ∧ w' = w := by
  unfold maxLen at hl
  unfold encStr
  by_cases h1 : (l.length : Int) < 1
  · have e : nmB l = false := by simp [nmB]; omega
    rw [e]
    go_enter Try.func24, Try.ntmps24
    go_wp2
    go_ret
    exact ⟨rfl, rfl⟩
  by_cases h2 : (32 : Int) < l.length
  · have e : nmB l = false := by simp [nmB]; omega
    rw [e]
    go_enter Try.func24, Try.ntmps24
    go_wp2
    go_ret
    exact ⟨rfl, rfl⟩
  have h0 : 0 < l.length := by omega
  have hsz : ({ data := l.toArray } : ByteArray).size = l.length := by simp [ByteArray.size]
  have h0' : 0 < ({ data := l.toArray } : ByteArray).size := by rw [hsz]; exact h0
  clear hsz
  cases h3 : letB (l.getD 0 0) with
  | false =>
    have e : nmB l = false := by simp only [nmB, h3]; simp
    rw [e]
    have H3 : letB (({ data := l.toArray } : ByteArray)[0]) = false := by rw [ba_get]; exact h3
    clear h3
    go_enter Try.func24, Try.ntmps24
    go_wp2_with (go_at_call 28; refine (isLetter_any _ _).mono ?_; rintro e w' ⟨rfl, rfl⟩)
    go_ret
    exact ⟨rfl, rfl⟩
  | true =>
    have H3 : letB (({ data := l.toArray } : ByteArray)[0]) = true := by rw [ba_get]; exact h3
    have HN : Hid (nmB l = l.all okB) := by show nmB l = l.all okB; simp only [nmB, h3]; simp; omega
    clear h3
    go_enter Try.func24, Try.ntmps24
    go_wp2_with (go_at_call 28; refine (isLetter_any _ _).mono ?_; rintro e w' ⟨rfl, rfl⟩)
    go_loop [20] (fun i => ∃ k : Nat, k ≤ l.length ∧ i = .int .i64 k ∧ ∀ j, j < k → okB (l.getD j 0) = true) (fun i => l.length - (intOf i).toNat)
    case atStart => exact ⟨0, Nat.zero_le _, rfl, fun j hj => by omega⟩
    case round =>
      obtain ⟨k, hk, rfl, hall⟩ := hrel
      have HA : Hid (∀ j, j < k → okB (l.getD j 0) = true) := hall
      clear hall
      by_cases hlt : k < l.length
      · have hlt' : k < ({ data := l.toArray } : ByteArray).size := by
          have hsz : ({ data := l.toArray } : ByteArray).size = l.length := by simp [ByteArray.size]
          rw [hsz]; exact hlt
        have HG : Hid (({ data := l.toArray } : ByteArray)[k] = l.getD k 0) := ba_get l k hlt'
        cases hL : letB (({ data := l.toArray } : ByteArray)[k]) with
        | true =>
          have HO : Hid (okB (l.getD k 0) = true) := by show okB (l.getD k 0) = true; rw [← HG.out]; simp [okB, hL]
          go_wp2_with (first
            | (go_at_call 28; refine (isLetter_any _ _).mono ?_; rintro e w' ⟨rfl, rfl⟩)
            | (go_at_call 29; refine (isDigit_any _ _).mono ?_; rintro e w' ⟨rfl, rfl⟩))
          go_round
          case rel => exact ⟨k + 1, by omega, by go_num, all_take_succ hlt HA.out HO.out⟩
          case measure => simp [intOf]; omega
        | false =>
          cases hD : digB (({ data := l.toArray } : ByteArray)[k]) with
          | true =>
            have HO : Hid (okB (l.getD k 0) = true) := by show okB (l.getD k 0) = true; rw [← HG.out]; simp [okB, hD]
            go_wp2_with (first
              | (go_at_call 28; refine (isLetter_any _ _).mono ?_; rintro e w' ⟨rfl, rfl⟩)
              | (go_at_call 29; refine (isDigit_any _ _).mono ?_; rintro e w' ⟨rfl, rfl⟩))
            go_round
            case rel => exact ⟨k + 1, by omega, by go_num, all_take_succ hlt HA.out HO.out⟩
            case measure => simp [intOf]; omega
          | false =>
            have HE : Hid (okB (l.getD k 0) = (({ data := l.toArray } : ByteArray)[k].toNat == 46)) := by show okB (l.getD k 0) = _; rw [← HG.out]; simp [okB, hL, hD]
            go_wp2_with (first
              | (go_at_call 28; refine (isLetter_any _ _).mono ?_; rintro e w' ⟨rfl, rfl⟩)
              | (go_at_call 29; refine (isDigit_any _ _).mono ?_; rintro e w' ⟨rfl, rfl⟩))
            · go_ret
              have hne : (({ data := l.toArray } : ByteArray)[k].toNat == 46) = false := by
                have h46 : ((({ data := l.toArray } : ByteArray)[k].toNat : Int) != 46) = true := by assumption
                simp only [bne_iff_ne, ne_eq] at h46
                simp only [beq_eq_false_iff_ne, ne_eq]
                omega
              exact ⟨ret_bool (by rw [HN.out, all_false_of_getD hlt (HE.out.trans hne)]), rfl⟩
            · go_round
              case rel =>
                have he : (({ data := l.toArray } : ByteArray)[k].toNat == 46) = true := by
                  have h46 : ((({ data := l.toArray } : ByteArray)[k].toNat : Int) != 46) = false := by assumption
                  simp only [bne_eq_false_iff_eq] at h46
                  simp only [beq_iff_eq]
                  omega
                exact ⟨k + 1, by omega, by go_num, all_take_succ hlt HA.out (HE.out.trans he)⟩
              case measure => simp [intOf]; omega
      · go_wp2
        go_ret
        have hn := HN.out
        have hkl : k = l.length := by omega
        subst hkl
        exact ⟨ret_bool (by rw [hn, all_of_getD HA.out]), rfl⟩
end Go.Proofs.Ytnjjpahpaeblfab
