/- What the two sums answer. -/
import Derived.Test.YtnjjpahpaeblfabOrder
namespace Go.Proofs.Ytnjjpahpaeblfab
open Go.RowKit Go.Maps Go.Sort
set_option linter.unusedVariables false

def fnv (h b : Int) : Int := bits BinOp.xor IntKind.u32 h b * 16777619 % 4294967296
def fnvW (h x : Int) : Int := fnv (fnv (fnv (fnv h (x / 16777216)) (x / 65536 % 256)) (x / 256 % 256)) (x % 256)
def sumL (xs : List Int) : Int := xs.foldl fnvW 2166136261

theorem fnv_bd (h b : Int) : 0 ≤ fnv h b ∧ fnv h b < 4294967296 := by unfold fnv; omega
theorem fnvW_bd (h x : Int) : 0 ≤ fnvW h x ∧ fnvW h x < 4294967296 := fnv_bd _ _
theorem sumL_bd (xs : List Int) : 0 ≤ sumL xs ∧ sumL xs < 4294967296 := by
  rcases List.eq_nil_or_concat xs with rfl | ⟨l, x, rfl⟩
  · decide
  · rw [List.concat_eq_append, sumL, List.foldl_append]; exact fnvW_bd _ _
theorem sumL_take {xs : List Int} {k : Nat} (hk : k < xs.length) : sumL (xs.take (k + 1)) = fnvW (sumL (xs.take k)) (xs.getD k 0) := by
  rw [List.take_succ_eq_append_getElem hk, sumL, List.foldl_append]
  simp [sumL, List.getD, List.getElem?_eq_getElem hk]

theorem and255 {y : Int} (h0 : 0 ≤ y) (h1 : y < 4294967296) : bits BinOp.and IntKind.u32 y 255 = y % 256 := by
  rw [u32_and y 255 h0 h1 (by omega) (by omega)]
  have e : y.toNat &&& (255 : Int).toNat = y.toNat % 256 := Nat.and_two_pow_sub_one_eq_mod y.toNat 8
  rw [e]
  omega

set_option maxHeartbeats 400000 in
theorem sumByte_any (h b : Int) (h0 : 0 ≤ h) (h1 : h < 4294967296) (b0 : 0 ≤ b) (b1 : b < 256) (w : World) : Calls Try.prog 23 #[.int .u32 h, .int .u8 b] w fun e w' => e = .returned (.int .u32 (fnv h b)) ∧ w' = w := by
  go_enter Try.func23, Try.ntmps23
  go_wp2
  go_ret
  exact ⟨rfl, rfl⟩

/-- A slice of words. -/
def WordsAt (w : World) (sl : Value) (xs : List Int) : Prop :=
  (xs = [] ∧ ∃ a cap, sl = .slice a 0 cap) ∨
  ∃ g off cap, sl = .slice (some ⟨g, off, none⟩) xs.length cap ∧ g < w.heap.size ∧ ∀ j, j < xs.length → w.cell? ⟨g, off + j, none⟩ = some (.int .u32 (xs.getD j 0))
def WordsOk (xs : List Int) : Prop := xs.length ≤ 35184372088832 ∧ ∀ x ∈ xs, 0 ≤ x ∧ x < 4294967296
theorem mem_getD0 {ls : List Int} {k : Nat} (h : k < ls.length) : ls.getD k 0 ∈ ls := by
  rw [List.getD, List.getElem?_eq_getElem h]; exact List.getElem_mem h

set_option maxRecDepth 100000 in
set_option maxHeartbeats 1000000 in
theorem sum_any (xs : List Int) (hok : WordsOk xs) (a : Option Addr) (cap : Nat) (w : World) (hs : WordsAt w (.slice a xs.length cap) xs) : Calls Try.prog 15 #[.slice a xs.length cap] w fun e w' => e = .returned (.int .u32 (sumL xs)) ∧ w' = w := by
  have hlen := hok.1
  have HL : Hid (∀ x ∈ xs, 0 ≤ x ∧ x < 4294967296) := hok.2
  have HS : Hid (WordsAt w (.slice a xs.length cap) xs) := hs
  clear hs hok
  go_enter Try.func15, Try.ntmps15
  go_wp2
  go_loop [3, 8] (fun h i => ∃ k : Nat, k ≤ xs.length ∧ i = .int .i64 k ∧ h = .int .u32 (sumL (xs.take k))) (fun _ i => xs.length - (intOf i).toNat)
  case atStart => exact ⟨0, Nat.zero_le _, rfl, rfl⟩
  case round =>
    obtain ⟨k, hk, rfl, rfl⟩ := hrel
    by_cases hlt : k < xs.length
    · rcases HS.out with ⟨h0, _⟩ | ⟨g, off, cap', hsl, hg, hcl⟩
      · rw [h0] at hlt; exact absurd hlt (by simp)
      cases hsl
      have hcx := hcl k hlt
      obtain ⟨hx0, hx1⟩ := HL.out _ (mem_getD0 hlt)
      have HT : Hid (sumL (xs.take (k + 1)) = fnvW (sumL (xs.take k)) (xs.getD k 0)) := sumL_take hlt
      obtain ⟨hs0, hs1⟩ := sumL_bd (xs.take k)
      generalize xs.getD k 0 = x at *
      generalize sumL (xs.take k) = s at *
      clear hcl
      obtain ⟨ha0, ha1⟩ := fnv_bd s (x / 16777216)
      obtain ⟨hb0, hb1⟩ := fnv_bd (fnv s (x / 16777216)) (x / 65536 % 256)
      obtain ⟨hc0, hc1⟩ := fnv_bd (fnv (fnv s (x / 16777216)) (x / 65536 % 256)) (x / 256 % 256)
      go_wp2_with (go_at_call 23; refine (sumByte_any _ _ (by omega) (by omega) (by omega) (by omega) _).mono ?_; rintro e w' ⟨rfl, rfl⟩)
      go_round
      case rel => exact ⟨k + 1, by omega, by go_num, by rw [HT.out]; rfl⟩
      case measure => simp [intOf]; omega
    · go_wp2
      go_ret
      have hkl : k = xs.length := by omega
      subst hkl
      exact ⟨ret_int (by rw [List.take_length]), rfl⟩

end Go.Proofs.Ytnjjpahpaeblfab
