/- What Among and Name of the document's answer for layer 1 answer. -/
import Derived.Test.YtnjjpahpaeblfabOrder
namespace Go.Proofs.Ytnjjpahpaeblfab
open Go.RowKit Go.Maps Go.Sort
set_option linter.unusedVariables false

theorem hidY {q : Prop} (h : q) : Hid q := h

theorem contains_at {ls : List (List UInt8)} {x : List UInt8} {k : Nat} (hk : k < ls.length) (h : (ls.getD k [] == x) = true) : ls.contains x = true := by
  rw [List.contains_iff_mem, ← beq_iff_eq.1 h]; exact mem_getD hk
theorem not_contains_of {ls : List (List UInt8)} {x : List UInt8} (h : ∀ j, j < ls.length → (ls.getD j [] == x) = false) : ls.contains x = false := by
  cases hc : ls.contains x with
  | false => rfl
  | true =>
    obtain ⟨j, hj, he⟩ := List.mem_iff_getElem.1 (List.contains_iff_mem.1 hc)
    have := h j hj
    rw [List.getD, List.getElem?_eq_getElem hj] at this
    simp [he] at this

set_option maxRecDepth 100000 in
set_option maxHeartbeats 1000000 in
theorem among_any (ls : List (List UInt8)) (hlen : ls.length ≤ 8796093022208) (x : List UInt8) (a : Option Addr) (cap : Nat) (w : World) (hs : StrsAt w (.slice a ls.length cap) ls) :
    Calls Try.prog 20 #[.slice a ls.length cap, .string ⟨x.toArray⟩] w fun e w' => e = .returned (.bool (ls.contains x)) ∧ w' = w := by
  have HS : Hid (StrsAt w (.slice a ls.length cap) ls) := hs
  clear hs
  obtain ⟨r, hr⟩ : ∃ r, r = ls.contains x := ⟨_, rfl⟩
  rw [← hr]
  have HR : Hid (r = ls.contains x) := hr
  clear hr
  go_enter Try.func20, Try.ntmps20
  go_wp2
  go_loop [5] (fun i => ∃ k : Nat, k ≤ ls.length ∧ i = .int .i64 k ∧ ∀ j, j < k → (ls.getD j [] == x) = false) (fun i => ls.length - (intOf i).toNat)
  case atStart => exact ⟨0, Nat.zero_le _, rfl, fun j hj => by omega⟩
  case round =>
    obtain ⟨k, hk, rfl, hall⟩ := hrel
    have HA : Hid (∀ j, j < k → (ls.getD j [] == x) = false) := hall
    clear hall
    by_cases hlt : k < ls.length
    · rcases HS.out with ⟨h0, _⟩ | ⟨g, off, cap', hsl, hg, hcl⟩
      · rw [h0] at hlt; exact absurd hlt (by simp)
      cases hsl
      have hcx : w.cell? ⟨g, off + k, none⟩ = some (.string ⟨(ls.getD k []).toArray⟩) := hcl k hlt
      have HT : Hid ((ls.getD k [] == x) = true → ls.contains x = true) := contains_at hlt
      clear hcl
      generalize hyy : ls.getD k [] = y at *
      have HY : Hid (ls.getD k [] = y) := hyy
      clear hyy
      cases hxy : (y == x) with
      | true =>
        go_wp2
        go_ret
        exact ⟨ret_bool (HR.out.trans (HT.out hxy)).symm, rfl⟩
      | false =>
        go_wp2
        go_round
        case rel =>
          refine ⟨k + 1, by omega, by go_num, fun j hj => ?_⟩
          by_cases e : j = k
          · subst e; rw [HY.out]; exact hxy
          · exact HA.out j (by omega)
        case measure => simp [intOf]; omega
    · go_wp2
      go_ret
      have hkl : k = ls.length := by omega
      subst hkl
      exact ⟨ret_bool (HR.out.trans (not_contains_of HA.out)).symm, rfl⟩

set_option maxRecDepth 100000 in
set_option maxHeartbeats 2000000 in
theorem refName_any (l : List UInt8) (w : World) (hl : l.length ≤ maxLen) : Calls Try.prog 19 #[.string ⟨l.toArray⟩] w fun e w' => e = .returned (.bool (nmB l)) ∧ w' = w := by
  unfold maxLen at hl
  by_cases h1 : (l.length : Int) < 1
  · have e : nmB l = false := by simp [nmB]; omega
    rw [e]
    go_enter Try.func19, Try.ntmps19
    go_wp2
    go_ret
    exact ⟨rfl, rfl⟩
  by_cases h2 : (32 : Int) < l.length
  · have e : nmB l = false := by simp [nmB]; omega
    rw [e]
    go_enter Try.func19, Try.ntmps19
    go_wp2
    go_ret
    exact ⟨rfl, rfl⟩
  have h0 : 0 < l.length := by omega
  have h0' : 0 < ({ data := l.toArray } : ByteArray).size := by
    have hsz : ({ data := l.toArray } : ByteArray).size = l.length := by simp [ByteArray.size]
    rw [hsz]; exact h0
  have HG0 : Hid (({ data := l.toArray } : ByteArray)[0] = l.getD 0 0) := ba_get l 0 h0'
  by_cases ha : ((({ data := l.toArray } : ByteArray)[0]).toNat : Int) < 97
  · have e : nmB l = false := by
      have : letB (l.getD 0 0) = false := by rw [← HG0.out]; simp [letB]; omega
      simp only [nmB, this]; simp
    rw [e]
    go_enter Try.func19, Try.ntmps19
    go_wp2
    go_ret
    exact ⟨rfl, rfl⟩
  by_cases hb : (122 : Int) < ((({ data := l.toArray } : ByteArray)[0]).toNat : Int)
  · have e : nmB l = false := by
      have : letB (l.getD 0 0) = false := by rw [← HG0.out]; simp [letB]; omega
      simp only [nmB, this]; simp
    rw [e]
    go_enter Try.func19, Try.ntmps19
    go_wp2
    go_ret
    exact ⟨rfl, rfl⟩
  have HN : Hid (nmB l = l.all okB) := by
    have : letB (l.getD 0 0) = true := by rw [← HG0.out]; simp [letB]; omega
    show nmB l = l.all okB
    simp only [nmB, this]; simp; omega
  go_enter Try.func19, Try.ntmps19
  go_wp2
  go_loop [3] (fun i => ∃ k : Nat, k ≤ l.length ∧ i = .int .i64 k ∧ ∀ j, j < k → okB (l.getD j 0) = true) (fun i => l.length - (intOf i).toNat)
  case atStart => exact ⟨0, Nat.zero_le _, rfl, fun j hj => by omega⟩
  case round =>
    obtain ⟨k, hk, rfl, hall⟩ := hrel
    have HA : Hid (∀ j, j < k → okB (l.getD j 0) = true) := hall
    clear hall
    by_cases hlt : k < l.length
    · have hlt' : k < ({ data := l.toArray } : ByteArray).size := by
        have hsz : ({ data := l.toArray } : ByteArray).size = l.length := by simp [ByteArray.size]
        rw [hsz]; exact hlt
      have HG : Hid (({ data := l.toArray } : ByteArray)[k] = l.getD k 0) := ba_get l k hlt'
      have HC : Hid (∀ b : Bool, (b = true ↔ (97 ≤ ((({ data := l.toArray } : ByteArray)[k]).toNat : Int) ∧ ((({ data := l.toArray } : ByteArray)[k]).toNat : Int) ≤ 122) ∨ (48 ≤ ((({ data := l.toArray } : ByteArray)[k]).toNat : Int) ∧ ((({ data := l.toArray } : ByteArray)[k]).toNat : Int) ≤ 57) ∨ ((({ data := l.toArray } : ByteArray)[k]).toNat : Int) = 46) → okB (l.getD k 0) = b) := by
        intro b hb
        rw [← HG.out, Bool.eq_iff_iff, hb]
        simp [okB, letB, digB]
        omega
      have HNO : Hid (okB (l.getD k 0) = false → nmB l = false) := fun h => by rw [HN.out, all_false_of_getD hlt h]
      have HYES : Hid (okB (l.getD k 0) = true → ∀ j, j < k + 1 → okB (l.getD j 0) = true) := fun h => all_take_succ hlt HA.out h
      by_cases a1 : ((({ data := l.toArray } : ByteArray)[k]).toNat : Int) < 97
      · by_cases a3 : ((({ data := l.toArray } : ByteArray)[k]).toNat : Int) < 48
        · by_cases a5 : ((({ data := l.toArray } : ByteArray)[k]).toNat : Int) = 46
          · have HK := hidY (HC.out true (by simp; omega))
            have a6 : (((({ data := l.toArray } : ByteArray)[k]).toNat : Int) != 46) = false := by simp only [bne_eq_false_iff_eq]; exact a5
            clear a5
            go_wp2
            go_round
            case rel => exact ⟨k + 1, by omega, by go_num, HYES.out HK.out⟩
            case measure => simp [intOf]; omega
          · have HK := hidY (HC.out false (by simp; omega))
            have a6 : (((({ data := l.toArray } : ByteArray)[k]).toNat : Int) != 46) = true := by simp only [bne_iff_ne]; exact a5
            clear a5
            go_wp2
            go_ret
            exact ⟨ret_bool (HNO.out HK.out).symm, rfl⟩
        · by_cases a4 : (57 : Int) < ((({ data := l.toArray } : ByteArray)[k]).toNat : Int)
          · have HK := hidY (HC.out false (by simp; omega))
            have a6 : (((({ data := l.toArray } : ByteArray)[k]).toNat : Int) != 46) = true := by simp only [bne_iff_ne]; omega
            go_wp2
            go_ret
            exact ⟨ret_bool (HNO.out HK.out).symm, rfl⟩
          · have HK := hidY (HC.out true (by simp; omega))
            go_wp2
            go_round
            case rel => exact ⟨k + 1, by omega, by go_num, HYES.out HK.out⟩
            case measure => simp [intOf]; omega
      · by_cases a2 : (122 : Int) < ((({ data := l.toArray } : ByteArray)[k]).toNat : Int)
        · have HK := hidY (HC.out false (by simp; omega))
          have a3 : ¬ ((({ data := l.toArray } : ByteArray)[k]).toNat : Int) < 48 := by omega
          have a4 : (57 : Int) < ((({ data := l.toArray } : ByteArray)[k]).toNat : Int) := by omega
          have a6 : (((({ data := l.toArray } : ByteArray)[k]).toNat : Int) != 46) = true := by simp only [bne_iff_ne]; omega
          go_wp2
          go_ret
          exact ⟨ret_bool (HNO.out HK.out).symm, rfl⟩
        · have HK := hidY (HC.out true (by simp; omega))
          go_wp2
          go_round
          case rel => exact ⟨k + 1, by omega, by go_num, HYES.out HK.out⟩
          case measure => simp [intOf]; omega
    · go_wp2
      go_ret
      have hn := HN.out
      have hkl : k = l.length := by omega
      subst hkl
      exact ⟨ret_bool (by rw [hn, all_of_getD HA.out]), rfl⟩
end Go.Proofs.Ytnjjpahpaeblfab
