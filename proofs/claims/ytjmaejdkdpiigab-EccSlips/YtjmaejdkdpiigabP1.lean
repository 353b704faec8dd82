/- A digit behind a text of digits. -/
import Derived.Test.YtjmaejdkdpiigabD4
namespace Go.Proofs.Ytjmaejdkdpiigab
open Go.RowKit
set_option linter.unusedVariables false

theorem ba_append (a b : List UInt8) : ({ data := a.toArray } : ByteArray) ++ { data := b.toArray } = { data := (a ++ b).toArray } := by
  apply ByteArray.ext; simp [ByteArray.data_append]
def chS (k : Nat) : UInt8 := UInt8.ofNat (48 + k)
theorem ch_nat {k : Nat} (h : k < 10) : (chS k).toNat = 48 + k := by unfold chS; rw [UInt8.toNat_ofNat', Nat.mod_eq_of_lt (by omega)]
theorem byte_left (s : List UInt8) (c : UInt8) (i : Nat) (h : i < s.length) : byteAt (s ++ [c]) i = byteAt s i := by
  unfold byteAt; simp [List.getD, List.getElem?_append_left h]
theorem byte_last (s : List UInt8) (c : UInt8) : byteAt (s ++ [c]) s.length = c.toNat := by
  unfold byteAt; simp [List.getD]
theorem snoc_all {s : List UInt8} (hs : AllD s) {k : Nat} (hk : k < 10) : AllD (s ++ [chS k]) := fun i hi => by
  rw [List.length_append, List.length_singleton] at hi
  unfold Gd
  rcases Nat.lt_or_ge i s.length with h | h
  · rw [byte_left s _ i h]; exact hs i h
  · obtain rfl : i = s.length := by omega
    rw [byte_last, ch_nat hk]; omega
theorem dg_snoc0 (s : List UInt8) {k : Nat} (hk : k < 10) : dgS (s ++ [chS k]) 0 = k := by
  unfold dgS
  rw [if_pos (by simp), List.length_append, List.length_singleton, show s.length + 1 - 1 - 0 = s.length by omega, byte_last, ch_nat hk]; omega
theorem dg_snoc (s : List UInt8) (c : UInt8) (i : Nat) : dgS (s ++ [c]) (i + 1) = dgS s i := by
  unfold dgS
  rw [List.length_append, List.length_singleton]
  by_cases h : i < s.length
  · rw [if_pos (by omega), if_pos h, show s.length + 1 - 1 - (i + 1) = s.length - 1 - i by omega, byte_left s c _ (by omega)]
  · rw [if_neg (by omega), if_neg h]
theorem snoc_ne (s : List UInt8) (c : UInt8) : s ++ [c] ≠ [] := by simp
theorem su_snoc {s : List UInt8} (hs : AllD s) {k : Nat} (hk : k < 10) : suTo (dgS (s ++ [chS k])) 0 (s ++ [chS k]).length = (k + suTo (dgS s) 1 s.length) % 10 := by
  rw [List.length_append, List.length_singleton, su_next (dg_dgs (snoc_all hs hk)) (dg_snoc s _) s.length, dg_snoc0 s hk]
theorem ve_snoc {s : List UInt8} (hs : AllD s) {k : Nat} (hk : k < 10) : veTo (dgS (s ++ [chS k])) 0 (s ++ [chS k]).length = prS k (veTo (dgS s) 1 s.length) := by
  rw [List.length_append, List.length_singleton, ve_next (dg_dgs hs) (dg_dgs (snoc_all hs hk)) (dg_snoc s _) s.length, dg_snoc0 s hk]
theorem lr_snoc {s : List UInt8} (hs : AllD s) {k : Nat} (hk : k < 10) : decide (lrP (s ++ [chS k])) = decide (k = ckS (suTo (dgS s) 1 s.length)) := by
  have h := ck_ok _ (su_lt (dgS s) 1 s.length) k hk
  have h2 := su_snoc hs hk
  apply decide_eq_decide.mpr
  unfold lrP
  rw [h2, h]
  exact ⟨fun q => q.2.2, fun q => ⟨snoc_ne s _, snoc_all hs hk, q⟩⟩
theorem vr_snoc {s : List UInt8} (hs : AllD s) {k : Nat} (hk : k < 10) : decide (vrP (s ++ [chS k])) = decide (k = ivS (veTo (dgS s) 1 s.length)) := by
  have hV := ve_lt (dg_dgs hs) 1 s.length
  have h2 := ve_snoc hs hk
  apply decide_eq_decide.mpr
  unfold vrP
  rw [h2]
  exact ⟨fun q => iv_left _ hV k hk q.2.2, fun q => ⟨snoc_ne s _, snoc_all hs hk, by rw [q]; exact (iv_ok _ hV).2.2⟩⟩
end Go.Proofs.Ytjmaejdkdpiigab
