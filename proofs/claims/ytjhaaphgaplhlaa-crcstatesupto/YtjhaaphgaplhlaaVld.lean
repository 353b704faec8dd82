/- What Valid, Sum, mine and no answer. -/
import Derived.Test.YtjhaaphgaplhlaaTab
namespace Go.Proofs.Ytjhaaphgaplhlaa
open Go.RowKit
set_option linter.unusedVariables false

/-- What a model's fields may hold at all. -/
structure Mw where
  name : ByteArray
  W : Int
  P : Nat
  I : Nat
  inn : Bool
  out : Bool
  X : Nat
structure MwOk (m : Mw) : Prop where
  W0 : -9223372036854775808 ≤ m.W
  W1 : m.W ≤ 9223372036854775807
  P : m.P < 18446744073709551616
  I : m.I < 18446744073709551616
  X : m.X < 18446744073709551616
def Mw.v (m : Mw) : Value := .agg #[.string m.name, .int .i64 m.W, .int .u64 m.P, .int .u64 m.I, .bool m.inn, .bool m.out, .int .u64 m.X]
def Mw.cells (m : Mw) : Array Value := #[.string m.name, .int .i64 m.W, .int .u64 m.P, .int .u64 m.I, .bool m.inn, .bool m.out, .int .u64 m.X]
def Mw.md (m : Mw) : Md := ⟨m.name, m.W.toNat, m.P, m.I, m.inn, m.out, m.X⟩
/-- Is it a model? -/
def Mw.Valid (m : Mw) : Prop := 3 ≤ m.W ∧ m.W ≤ 64 ∧ MdOk m.md
theorem Mw.Valid.v {m : Mw} (h : m.Valid) : m.v = m.md.v := by
  have : ((m.W.toNat : Nat) : Int) = m.W := by have := h.1; omega
  unfold Mw.v Md.v Mw.md; simp only [this]
theorem Md.valid (m : Md) (h : MdOk m) : (⟨m.name, m.w, m.P, m.I, m.inn, m.out, m.X⟩ : Mw).Valid := by
  have h3 := h.lo
  have h4 := h.hi
  refine ⟨by simp only []; omega, by simp only []; omega, ?_⟩
  simp only [Mw.md, Int.toNat_natCast]
  exact h

set_option maxRecDepth 100000 in
set_option maxHeartbeats 400000 in
theorem valid_any (m : Mw) (hm : MwOk m) (b : Bool) (hb : (b = true ↔ m.Valid)) (w : World) : Calls Try.prog 25 #[m.v] w fun e w' => e = .returned (.bool b) ∧ Below w.heap.size w w' := by
  obtain ⟨nm, W, P, I, inn, out, X⟩ := m
  obtain ⟨h0, h1, hP, hI, hX⟩ := hm
  simp only [Mw.v] at *
  have HB : Hid (Below w.heap.size w (w.alloc (.cells #[.string nm, .int .i64 W, .int .u64 P, .int .u64 I, .bool inn, .bool out, .int .u64 X] 35))) := (Below.refl w.heap.size w).alloc (Nat.le_refl _) _
  by_cases hlo : W < 3
  · have hbf : b = false := by
      cases b
      · rfl
      · have := hb.1 rfl; have := this.1; simp only at this; omega
    subst hbf
    clear hb
    go_enter Try.func25, Try.ntmps25
    go_wp2_with fail
    go_ret
    exact ⟨rfl, HB.out⟩
  · by_cases hhi : 64 < W
    · have hbf : b = false := by
        cases b
        · rfl
        · have := hb.1 rfl; have := this.2.1; simp only at this; omega
      subst hbf
      clear hb
      go_enter Try.func25, Try.ntmps25
      go_wp2_with fail
      go_ret
      exact ⟨rfl, HB.out⟩
    · obtain ⟨n, rfl⟩ : ∃ n : Nat, W = n := ⟨W.toNat, by omega⟩
      have hn3 : 3 ≤ n := by omega
      have hn : n ≤ 64 := by omega
      have hpw := pow64 hn
      have hp0 := Nat.two_pow_pos n
      have HG := hidD (fun w => greatest_any n hn w)
      have HV : Hid (b = (decide ((P : Int) ≤ ((2 ^ n - 1 : Nat) : Int)) && (decide ((I : Int) ≤ ((2 ^ n - 1 : Nat) : Int)) && decide ((X : Int) ≤ ((2 ^ n - 1 : Nat) : Int))))) := by
        show _ = _
        rw [Bool.eq_iff_iff, hb]
        simp only [Bool.and_eq_true, decide_eq_true_eq]
        constructor
        · rintro ⟨_, _, hq⟩
          have a1 := hq.P; have a2 := hq.I; have a3 := hq.X
          simp only [Mw.md, Int.toNat_natCast] at a1 a2 a3
          omega
        · rintro ⟨a1, a2, a3⟩
          refine ⟨by show (3 : Int) ≤ n; omega, by show (n : Int) ≤ 64; omega, ?_, ?_, ?_, ?_, ?_⟩ <;> simp only [Mw.md, Int.toNat_natCast] <;> omega
      have HM := hidD (MdAt.new ⟨nm, n, P, I, inn, out, X⟩ w 35)
      simp only [Md.cells] at HM
      have HSZ : Hid (w.heap.size < (w.alloc (.cells #[.string nm, .int .i64 (n : Int), .int .u64 P, .int .u64 I, .bool inn, .bool out, .int .u64 X] 35)).heap.size) := by show _ < _; simp
      clear hb hpw hp0
      generalize 2 ^ n - 1 = G at *
      by_cases hPG : (P : Int) ≤ G <;> by_cases hIG : (I : Int) ≤ G
      all_goals
        simp only [hPG, hIG, decide_true, decide_false, Bool.true_and, Bool.false_and] at HV
        go_enter Try.func25, Try.ntmps25
        go_wp2_with (go_at_call 51; refine (HG.out _).mono ?_; rintro e w2 ⟨rfl, hb2⟩; obtain ⟨k0, k1, k2, k3, k4, k5, k6⟩ := HM.out.below hb2 HSZ.out)
        go_ret
        rw [HV.out]
        exact ⟨by simp, HB.out.trans (hb2.mono (Nat.le_of_lt HSZ.out))⟩
end Go.Proofs.Ytjhaaphgaplhlaa
