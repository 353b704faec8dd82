/- Parts of a slice of bytes. -/
import Derived.Test.YtnldpofljeodiaaSh8
namespace Go.Proofs.Ytnldpofljeodiaa
open Go.RowKit
set_option linter.unusedVariables false

theorem sliceAt_h (a : Option Addr) (len cap C : Nat) (hC : C ≤ cap) (w : World) : (Instr.sliceAt 22 (.slice a len cap) none (some (.int .i64 (C : Int))) none).run Try.prog w = .ok (.slice (if cap = 0 then a else a.map (·.add 0)) C cap) w := by
  have hu : Try.prog.underlying 22 = some (.slice (Try.prog.elem 22)) := by kernel_rfl
  have he : Try.prog.elem 22 = 5 := by kernel_rfl
  obtain ⟨i0, hin, _, hz1, _⟩ := info_parts Try.info5
  rw [run_sliceAt_slice w 22 _ _ _ _ hu, run_slice_h w 22 a len cap hu .i64 (C : Int) (by omega) (by omega), he, run_sizeOf w hin, Result.andThen_ok]
  simp only [sliced, Int.toNat_natCast, Nat.zero_mul, Nat.sub_zero]
theorem sliceAt_l (a : Option Addr) (len cap C : Nat) (hC : C ≤ len) (w : World) : (Instr.sliceAt 22 (.slice a len cap) (some (.int .i64 (C : Int))) none none).run Try.prog w = .ok (.slice (if cap = C then a else a.map (·.add C)) (len - C) (cap - C)) w := by
  have hu : Try.prog.underlying 22 = some (.slice (Try.prog.elem 22)) := by kernel_rfl
  have he : Try.prog.elem 22 = 5 := by kernel_rfl
  obtain ⟨i0, hin, _, hz1, _⟩ := info_parts Try.info5
  rw [run_sliceAt_slice w 22 _ _ _ _ hu, run_slice_l w 22 a len cap hu .i64 (C : Int) (by omega) (by omega), he, run_sizeOf w hin, Result.andThen_ok]
  simp only [sliced, Int.toNat_natCast]
  rw [show Try.prog.cellsOf 5 = 1 by kernel_rfl, Nat.mul_one]
theorem slice_take {w0 : World} {a : Option Addr} {cap : Nat} {L : List UInt8} (hb : ByAt w0 (.slice a L.length cap) L) (hlc : L.length ≤ cap) (C : Nat) (hC : C ≤ L.length) : ∃ a1 : Option Addr, (∀ w, (Instr.sliceAt 22 (.slice a L.length cap) none (some (.int .i64 (C : Int))) none).run Try.prog w = .ok (.slice a1 (L.take C).length cap) w) ∧ ByAt w0 (.slice a1 (L.take C).length cap) (L.take C) := by
  have hl : (L.take C).length = C := by rw [List.length_take]; omega
  refine ⟨if cap = 0 then a else a.map (·.add 0), fun w => by rw [hl]; exact sliceAt_h a _ cap C (by omega) w, ?_⟩
  rw [hl]
  have he : (if cap = 0 then a else a.map (·.add 0)) = a ∨ cap = 0 := by
    by_cases h0 : cap = 0
    · exact Or.inr h0
    · rw [if_neg h0]
      refine Or.inl ?_
      rcases hb with ⟨hn, a', c', e, hz⟩ | ⟨g, off, c', e, _⟩
      · cases a with
        | none => rfl
        | some ad => rcases ad with ⟨b, o, _ | _⟩ <;> simp [Addr.add]
      · cases e; simp [Addr.add]
  rcases he with he | he
  · rw [he]; exact hb.take hC
  · rw [if_pos he]; exact hb.take hC
theorem slice_drop {w0 : World} {a : Option Addr} {cap : Nat} {L : List UInt8} (hb : ByAt w0 (.slice a L.length cap) L) (hlc : L.length ≤ cap) (C : Nat) (hC : C ≤ L.length) : ∃ (a2 : Option Addr) (c2 : Nat), (∀ w, (Instr.sliceAt 22 (.slice a L.length cap) (some (.int .i64 (C : Int))) none none).run Try.prog w = .ok (.slice a2 (L.drop C).length c2) w) ∧ ByAt w0 (.slice a2 (L.drop C).length c2) (L.drop C) := by
  have hl : (L.drop C).length = L.length - C := by rw [List.length_drop]
  refine ⟨if cap = C then a else a.map (·.add C), cap - C, fun w => by rw [hl]; exact sliceAt_l a _ cap C hC w, ?_⟩
  rw [hl]
  by_cases hcC : cap = C
  · rw [if_pos hcC]
    have h0 : L.length - C = 0 := by omega
    rw [h0]
    refine .inl ⟨List.length_eq_zero_iff.1 (by omega), a, cap - C, rfl, fun _ => by omega⟩
  · rw [if_neg hcC]
    rcases hb with ⟨hn, a', c', e, hz⟩ | ⟨g, off, c', e, hg, hc⟩
    · subst hn
      simp only [List.length_nil] at *
      obtain rfl : C = 0 := by omega
      cases e
      refine .inl ⟨rfl, _, _, rfl, fun hn => ?_⟩
      cases a with
      | none => exact hz rfl
      | some ad => simp at hn
    · cases e
      have ha : (some (⟨g, off, none⟩ : Addr)).map (·.add C) = some ⟨g, off + C, none⟩ := by simp [Addr.add_mid]
      rw [ha]
      refine .inr ⟨g, off + C, cap - C, by rw [hl], hg, fun j hj => ?_⟩
      rw [hl] at hj
      rw [show off + C + j = off + (C + j) by omega, hc (C + j) (by omega), List.getD_eq_getElem?_getD, List.getD_eq_getElem?_getD, List.getElem?_drop]
end Go.Proofs.Ytnldpofljeodiaa
