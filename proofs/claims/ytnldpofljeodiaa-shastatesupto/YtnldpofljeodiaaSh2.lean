/- What number.times and wholePower answer. -/
import Derived.Test.YtnldpofljeodiaaSh1
import Derived.Test.YtnldpofljeodiaaShelf
import Derived.Laws.Externs
namespace Go.Proofs.Ytnldpofljeodiaa
open Go.RowKit
set_option linter.unusedVariables false

def M64 : Nat := 18446744073709551616
theorem add64_any (x y c : Nat) (hc : c ≤ 1) (w : World) : (callFunc 93 #[.int .u64 (x : Int), .int .u64 (y : Int), .int .u64 (c : Int)]).run Try.prog w = .ok (.value (.tuple #[.int .u64 (((x + y + c) % 18446744073709551616 : Nat) : Int), .int .u64 (((x + y + c) / 18446744073709551616 : Nat) : Int)])) w := by
  rw [run_callFunc_extern Try.func93 (by kernel_rfl) (by kernel_rfl) (by kernel_rfl) (e := add64Entry) (by kernel_rfl), run_add64 x y c (by omega) (by omega) (by omega) (by omega)]
  simp only [Result.andThen]
  congr 5 <;> omega
/- a number of a whole part and two words of its fraction, times a fraction of one word -/
def tmA (a b c f : Nat) : Nat := (a * f / 18446744073709551616 + (a * f % 18446744073709551616 + b * f / 18446744073709551616 + (b * f % 18446744073709551616 + c * f / 18446744073709551616 + 0) / 18446744073709551616) / 18446744073709551616) % 18446744073709551616
def tmB (a b c f : Nat) : Nat := (a * f % 18446744073709551616 + b * f / 18446744073709551616 + (b * f % 18446744073709551616 + c * f / 18446744073709551616 + 0) / 18446744073709551616) % 18446744073709551616
def tmC (a b c f : Nat) : Nat := (b * f % 18446744073709551616 + c * f / 18446744073709551616 + 0) % 18446744073709551616
theorem tmA_lt (a b c f : Nat) : tmA a b c f < 18446744073709551616 := Nat.mod_lt _ (by omega)
theorem tmB_lt (a b c f : Nat) : tmB a b c f < 18446744073709551616 := Nat.mod_lt _ (by omega)
theorem tmC_lt (a b c f : Nat) : tmC a b c f < 18446744073709551616 := Nat.mod_lt _ (by omega)
def num3 (a b c : Nat) : Array Value := #[.int .u64 (a : Int), .int .u64 (b : Int), .int .u64 (c : Int)]
theorem Try.zero105z : (Try.prog.info? 141).map (fun i => (i.zero, i.size)) = some (some (.agg #[.int .u64 0, .int .u64 0, .int .u64 0]), 3) := by kernel_rfl
set_option maxRecDepth 100000 in
set_option maxHeartbeats 800000 in
theorem times_any (a b c f : Nat) (ha : a < 18446744073709551616) (hb : b < 18446744073709551616) (hc : c < 18446744073709551616) (hf : f < 18446744073709551616) (w : World) : Calls Try.prog 90 #[.agg (num3 a b c), .int .u64 (f : Int)] w fun e w' => e = .returned (.agg (num3 (tmA a b c f) (tmB a b c f) (tmC a b c f))) ∧ Below w.heap.size w w' := by
  obtain ⟨hz, hsz⟩ := zero_of_info Try.zero105z
  have HM1 := hidD (fun w => Try.bits_Mul64 a f ha hf w)
  have HM2 := hidD (fun w => Try.bits_Mul64 b f hb hf w)
  have HM3 := hidD (fun w => Try.bits_Mul64 c f hc hf w)
  have hk : (b * f % 18446744073709551616 + c * f / 18446744073709551616 + 0) / 18446744073709551616 ≤ 1 := by
    have h1 : b * f % 18446744073709551616 < 18446744073709551616 := Nat.mod_lt _ (by omega)
    have h2 : c * f / 18446744073709551616 < 18446744073709551616 := Nat.div_lt_of_lt_mul (Nat.mul_lt_mul'' hc hf)
    omega
  have HA1 : Hid (∀ w, (callFunc 93 #[.int .u64 ((b * f % 18446744073709551616 : Nat) : Int), .int .u64 ((c * f / 18446744073709551616 : Nat) : Int), .int .u64 0]).run Try.prog w = .ok (.value (.tuple #[.int .u64 (((b * f % 18446744073709551616 + c * f / 18446744073709551616 + 0) % 18446744073709551616 : Nat) : Int), .int .u64 (((b * f % 18446744073709551616 + c * f / 18446744073709551616 + 0) / 18446744073709551616 : Nat) : Int)])) w) := fun w => add64_any (b * f % 18446744073709551616) (c * f / 18446744073709551616) 0 (by omega) w
  have HA2 := hidD (fun w => add64_any (a * f % 18446744073709551616) (b * f / 18446744073709551616) ((b * f % 18446744073709551616 + c * f / 18446744073709551616 + 0) / 18446744073709551616) hk w)
  have h3 := two_blocks w (num3 a b c) #[.int .u64 0, .int .u64 0, .int .u64 0] 141
  obtain ⟨r1, r2, r3, r4⟩ := h3
  have HR1 := hidD r1
  have HR2 := hidD r2
  have HB := hidD r3
  have hA : tmA a b c f = (a * f / 18446744073709551616 + (a * f % 18446744073709551616 + b * f / 18446744073709551616 + (b * f % 18446744073709551616 + c * f / 18446744073709551616 + 0) / 18446744073709551616) / 18446744073709551616) % 18446744073709551616 := rfl
  have hB : tmB a b c f = (a * f % 18446744073709551616 + b * f / 18446744073709551616 + (b * f % 18446744073709551616 + c * f / 18446744073709551616 + 0) / 18446744073709551616) % 18446744073709551616 := rfl
  have hC : tmC a b c f = (b * f % 18446744073709551616 + c * f / 18446744073709551616 + 0) % 18446744073709551616 := rfl
  rw [← hB] at HA2
  rw [← hC] at HA1
  generalize hTB : tmB a b c f = TB at *
  generalize hTC : tmC a b c f = TC at *
  have hAw : IntKind.u64.wrap (((a * f / 18446744073709551616 : Nat) : Int) + (((a * f % 18446744073709551616 + b * f / 18446744073709551616 + (b * f % 18446744073709551616 + c * f / 18446744073709551616 + 0) / 18446744073709551616) / 18446744073709551616 : Nat) : Int)) = (tmA a b c f : Int) := by
    rw [hA, IntKind.wrap_u64]; omega
  generalize tmA a b c f = TA at *
  clear hA hB hC hTB hTC hk r1 r2 r3 r4
  generalize (a * f % 18446744073709551616 + b * f / 18446744073709551616 + (b * f % 18446744073709551616 + c * f / 18446744073709551616 + 0) / 18446744073709551616) / 18446744073709551616 = C2 at *
  generalize (b * f % 18446744073709551616 + c * f / 18446744073709551616 + 0) / 18446744073709551616 = C1 at *
  generalize a * f / 18446744073709551616 = p1 at *
  generalize a * f % 18446744073709551616 = p0 at *
  generalize b * f / 18446744073709551616 = q1 at *
  generalize b * f % 18446744073709551616 = q0 at *
  generalize c * f / 18446744073709551616 = t1 at *
  generalize c * f % 18446744073709551616 = t0 at *
  have HONE : Hid ((num3 TA TB TC).all (·.oneCell') = true) := hidD (by simp [num3, Value.oneCell'])
  have HI : Hid ((Try.prog.info? 141).map (·.size) = some (num3 TA TB TC).size) := hsz
  have HSS : Hid ((#[.int .u64 0, .int .u64 0, .int .u64 0] : Array Value).size = (num3 TA TB TC).size) := hidD rfl
  clear hsz
  have ha1 := HA1.out
  have ha2 := HA2.out
  generalize hW : (w.alloc (.cells (num3 a b c) (141 : TypeId))).alloc (.cells #[.int .u64 0, .int .u64 0, .int .u64 0] (141 : TypeId)) = W at *
  have c0 : W.cell? ⟨w.heap.size, 0, none⟩ = some (.int .u64 (a : Int)) := by rw [cell_of_row _ _ _ _ _ _ HR1.out]; rfl
  have c1 : W.cell? ⟨w.heap.size, 1, none⟩ = some (.int .u64 (b : Int)) := by rw [cell_of_row _ _ _ _ _ _ HR1.out]; rfl
  have c2 : W.cell? ⟨w.heap.size, 2, none⟩ = some (.int .u64 (c : Int)) := by rw [cell_of_row _ _ _ _ _ _ HR1.out]; rfl
  unfold num3 at hW
  have hz' := hz
  go_enter Try.func90, Try.ntmps90
  unfold num3
  go_wp2_with (first
    | (rw [hW]; done)
    | (go_at_call 42; refine (HM1.out _).mono ?_; rintro e wz ⟨rfl, hwz⟩; subst wz; clear HM1)
    | (go_at_call 42; refine (HM2.out _).mono ?_; rintro e wz ⟨rfl, hwz⟩; subst wz; clear HM2)
    | (go_at_call 42; refine (HM3.out _).mono ?_; rintro e wz ⟨rfl, hwz⟩; subst wz; clear HM3)
    | (refine wpList_store_row rfl 141 _ _ rfl (w.heap.size + 1) (num3 TA TB TC) rfl rfl 141 #[.int .u64 0, .int .u64 0, .int .u64 0] HR2.out HI.out HSS.out HONE.out ?_))
  refine bodyPost_ret (results_cell_row (P := Try.prog) (p := 4) (ty := 141) (by kernel_rfl) _ _ (w.heap.size + 1) 141 (num3 TA TB TC) (0, 0) _ rfl (setRow_heap _ _ _ _ _ _ HR2.out) Try.underlying141 rfl HI.out) rfl ?_
  exact ⟨rfl, below_setRow HB.out (by omega) _⟩
theorem field105 (a b c : Int) (w : World) : (Instr.field 141 (.agg #[.int .u64 a, .int .u64 b, .int .u64 c]) 0).run Try.prog w = .ok (.int .u64 a) w := by kernel_rfl
/- the whole part of the k-th power -/
def wpS (w f k : Nat) : Nat := if k = 2 then (tmA (2 * w % 18446744073709551616) f 0 f + w * w % 18446744073709551616) % 18446744073709551616
  else (tmA ((tmA (3 * w % 18446744073709551616) f 0 f + (3 * w % 18446744073709551616) * w % 18446744073709551616) % 18446744073709551616) (tmB (3 * w % 18446744073709551616) f 0 f) (tmC (3 * w % 18446744073709551616) f 0 f) f + (w * w % 18446744073709551616) * w % 18446744073709551616) % 18446744073709551616
theorem wpS_lt (w f k : Nat) : wpS w f k < 18446744073709551616 := by unfold wpS; split <;> exact Nat.mod_lt _ (by omega)
theorem wrap_mul (a b : Nat) : IntKind.u64.wrap ((a : Int) * (b : Int)) = ((a * b % 18446744073709551616 : Nat) : Int) := by rw [IntKind.wrap_u64]; simp
theorem wrap_add (a b : Nat) : IntKind.u64.wrap ((a : Int) + (b : Int)) = (((a + b) % 18446744073709551616 : Nat) : Int) := by rw [IntKind.wrap_u64]; omega
set_option maxRecDepth 100000 in
set_option maxHeartbeats 800000 in
theorem power2_any (x f : Nat) (hx : x < 18446744073709551616) (hf : f < 18446744073709551616) (w : World) : Calls Try.prog 81 #[.int .u64 (x : Int), .int .u64 (f : Int), .int .i64 2] w fun e w' => e = .returned (.int .u64 (wpS x f 2 : Int)) ∧ Below w.heap.size w w' := by
  have HT : Hid (∀ w, Calls Try.prog 90 #[.agg #[.int .u64 ((2 * x % 18446744073709551616 : Nat) : Int), .int .u64 (f : Int), .int .u64 0], .int .u64 (f : Int)] w fun e w' => e = .returned (.agg (num3 (tmA (2 * x % 18446744073709551616) f 0 f) (tmB (2 * x % 18446744073709551616) f 0 f) (tmC (2 * x % 18446744073709551616) f 0 f))) ∧ Below w.heap.size w w') := fun w => times_any (2 * x % 18446744073709551616) f 0 f (Nat.mod_lt _ (by omega)) hf (by omega) hf w
  have h1 : IntKind.u64.wrap (2 * (x : Int)) = ((2 * x % 18446744073709551616 : Nat) : Int) := wrap_mul 2 x
  have h2 : IntKind.u64.wrap ((x : Int) * (x : Int)) = ((x * x % 18446744073709551616 : Nat) : Int) := wrap_mul x x
  have h3 : IntKind.u64.wrap ((tmA (2 * x % 18446744073709551616) f 0 f : Int) + ((x * x % 18446744073709551616 : Nat) : Int)) = (wpS x f 2 : Int) := wrap_add _ _
  generalize wpS x f 2 = R at *
  generalize x * x % 18446744073709551616 = XX at *
  generalize 2 * x % 18446744073709551616 = X2 at *
  generalize tmA X2 f 0 f = TA at *
  generalize tmB X2 f 0 f = TB at *
  generalize tmC X2 f 0 f = TC at *
  unfold num3 at HT
  have hfd := field105
  go_enter Try.func81, Try.ntmps81
  go_wp2_with (go_at_call 90; refine (HT.out _).mono ?_; rintro e w1 ⟨rfl, hb⟩; have HB := hidD hb; clear hb)
  go_ret
  exact ⟨rfl, HB.out⟩
set_option maxRecDepth 100000 in
set_option maxHeartbeats 800000 in
theorem power3_any (x f : Nat) (hx : x < 18446744073709551616) (hf : f < 18446744073709551616) (w : World) : Calls Try.prog 81 #[.int .u64 (x : Int), .int .u64 (f : Int), .int .i64 3] w fun e w' => e = .returned (.int .u64 (wpS x f 3 : Int)) ∧ Below w.heap.size w w' := by
  obtain ⟨hz, hsz⟩ := zero_of_info Try.zero105z
  have HSZ := hidD hsz
  have hX3 : 3 * x % 18446744073709551616 < 18446744073709551616 := Nat.mod_lt _ (by omega)
  have HT : Hid (∀ w, Calls Try.prog 90 #[.agg #[.int .u64 ((3 * x % 18446744073709551616 : Nat) : Int), .int .u64 (f : Int), .int .u64 0], .int .u64 (f : Int)] w fun e w' => e = .returned (.agg (num3 (tmA (3 * x % 18446744073709551616) f 0 f) (tmB (3 * x % 18446744073709551616) f 0 f) (tmC (3 * x % 18446744073709551616) f 0 f))) ∧ Below w.heap.size w w') := fun w => times_any (3 * x % 18446744073709551616) f 0 f hX3 hf (by omega) hf w
  have h1 : IntKind.u64.wrap (3 * (x : Int)) = ((3 * x % 18446744073709551616 : Nat) : Int) := wrap_mul 3 x
  have h2 : IntKind.u64.wrap ((x : Int) * (x : Int)) = ((x * x % 18446744073709551616 : Nat) : Int) := wrap_mul x x
  have h4 : IntKind.u64.wrap (((3 * x % 18446744073709551616 : Nat) : Int) * (x : Int)) = (((3 * x % 18446744073709551616) * x % 18446744073709551616 : Nat) : Int) := wrap_mul _ x
  have h5 : IntKind.u64.wrap (((x * x % 18446744073709551616 : Nat) : Int) * (x : Int)) = (((x * x % 18446744073709551616) * x % 18446744073709551616 : Nat) : Int) := wrap_mul _ x
  have HU : Hid (∀ A B C : Nat, A < 18446744073709551616 → B < 18446744073709551616 → C < 18446744073709551616 → ∀ w, Calls Try.prog 90 #[.agg #[.int .u64 (A : Int), .int .u64 (B : Int), .int .u64 (C : Int)], .int .u64 (f : Int)] w fun e w' => e = .returned (.agg #[.int .u64 (tmA A B C f : Int), .int .u64 (tmB A B C f : Int), .int .u64 (tmC A B C f : Int)]) ∧ Below w.heap.size w w') := fun A B C ha hb hc w => times_any A B C f ha hb hc hf w
  have h6 : IntKind.u64.wrap ((tmA (3 * x % 18446744073709551616) f 0 f : Int) + (((3 * x % 18446744073709551616) * x % 18446744073709551616 : Nat) : Int)) = (((tmA (3 * x % 18446744073709551616) f 0 f + (3 * x % 18446744073709551616) * x % 18446744073709551616) % 18446744073709551616 : Nat) : Int) := wrap_add _ _
  have h7 : IntKind.u64.wrap ((tmA ((tmA (3 * x % 18446744073709551616) f 0 f + (3 * x % 18446744073709551616) * x % 18446744073709551616) % 18446744073709551616) (tmB (3 * x % 18446744073709551616) f 0 f) (tmC (3 * x % 18446744073709551616) f 0 f) f : Int) + (((x * x % 18446744073709551616) * x % 18446744073709551616 : Nat) : Int)) = (wpS x f 3 : Int) := wrap_add _ _
  have hl1 : (tmA (3 * x % 18446744073709551616) f 0 f + (3 * x % 18446744073709551616) * x % 18446744073709551616) % 18446744073709551616 < 18446744073709551616 := Nat.mod_lt _ (by omega)
  have hl2 := tmB_lt (3 * x % 18446744073709551616) f 0 f
  have hl3 := tmC_lt (3 * x % 18446744073709551616) f 0 f
  have HUU := hidD (HU.out _ _ _ hl1 hl2 hl3)
  clear hl1 hl2 hl3 hX3 hsz HU
  generalize wpS x f 3 = R at *
  generalize (x * x % 18446744073709551616) * x % 18446744073709551616 = X3c at *
  generalize x * x % 18446744073709551616 = XX at *
  generalize (tmA (3 * x % 18446744073709551616) f 0 f + (3 * x % 18446744073709551616) * x % 18446744073709551616) % 18446744073709551616 = A2 at *
  generalize (3 * x % 18446744073709551616) * x % 18446744073709551616 = X4 at *
  generalize 3 * x % 18446744073709551616 = X3 at *
  generalize tmA X3 f 0 f = TA at *
  generalize tmB X3 f 0 f = TB at *
  generalize tmC X3 f 0 f = TC at *
  generalize tmA A2 TB TC f = UA at *
  generalize tmB A2 TB TC f = UB at *
  generalize tmC A2 TB TC f = UC at *
  unfold num3 at HT
  have hfd := field105
  go_enter Try.func81, Try.ntmps81
  go_wp2_with (first
    | (go_at_call 90; refine (HT.out _).mono ?_; rintro e w1 ⟨rfl, hb⟩; have HB := hidD hb; clear hb HT)
    | (go_at_call 90; refine (HUU.out _).mono ?_; rintro e w2 ⟨rfl, hb⟩; have HB2 := hidD hb; clear hb))
  go_ret
  exact ⟨rfl, (HB.out.alloc HB.out.size _).trans (HB2.out.mono (by have := HB.out.size; simp; omega))⟩
end Go.Proofs.Ytnldpofljeodiaa
