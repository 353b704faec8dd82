/- What the document's Column answers. -/
import Derived.Test.YtdbledfpphkppaaRf9
namespace Go.Proofs.Ytdbledfpphkppaa
open Go.RowKit
set_option linter.unusedVariables false

theorem col_cells {w : World} {g : Nat} {a b c d : Value} {ty : TypeId} (h : w.heap[g]? = some (.cells #[a, b, c, d] ty (0, 0))) :
    w.cell? ⟨g, 0, none⟩ = some a ∧ w.cell? ⟨g, 1, none⟩ = some b ∧ w.cell? ⟨g, 2, none⟩ = some c ∧ w.cell? ⟨g, 3, none⟩ = some d := by
  refine ⟨?_, ?_, ?_, ?_⟩ <;> (rw [cell_of_row _ _ _ _ _ _ h]; rfl)
theorem or_lt32 {a b : Nat} (ha : a < 4294967296) (hb : b < 4294967296) : a ||| b < 4294967296 := Nat.or_lt_two_pow (n := 32) ha hb
def wordS (m : Nat → UInt8) : Nat := (m 0).toNat * 16777216 ||| (m 1).toNat * 65536 ||| (m 2).toNat * 256 ||| (m 3).toNat
def oneC (b : UInt8) (i : Nat) : UInt8 := if i = 0 then b else 0
def colS (b : UInt8) : Nat := wordS (mixS (oneC (subS b)) mixM)
set_option maxRecDepth 100000 in
set_option maxHeartbeats 400000 in
theorem refColumn_any (b : UInt8) (w : World) : Calls Try.prog 20 #[.int .u8 (b.toNat : Int)] w fun e w' => e = .returned (.int .u32 (colS b : Int)) ∧ Below w.heap.size w w' := by
  have HS := hidD (fun w => refSub_any b w)
  have HM := hidD (fun w => refMix_any (oneC (subS b)) w)
  have HONE : Hid ((colR (mixS (oneC (subS b)) mixM)).all (·.oneCell') = true) := rowZ_one _ _ _
  rw [colR_lit (mixS (oneC (subS b)) mixM)] at HONE HM
  rw [colR_lit (oneC (subS b)), show ((oneC (subS b) 0).toNat : Int) = ((subS b).toNat : Int) from rfl, show ((oneC (subS b) 1).toNat : Int) = 0 from rfl, show ((oneC (subS b) 2).toNat : Int) = 0 from rfl, show ((oneC (subS b) 3).toNat : Int) = 0 from rfl] at HM
  have HR : Hid (colS b =  (mixS (oneC (subS b)) mixM 0).toNat * 16777216 ||| (mixS (oneC (subS b)) mixM 1).toNat * 65536 ||| (mixS (oneC (subS b)) mixM 2).toNat * 256 ||| (mixS (oneC (subS b)) mixM 3).toNat) := rfl
  have h0 := u8_lt (mixS (oneC (subS b)) mixM 0)
  have h1 := u8_lt (mixS (oneC (subS b)) mixM 1)
  have h2 := u8_lt (mixS (oneC (subS b)) mixM 2)
  have h3 := u8_lt (mixS (oneC (subS b)) mixM 3)
  obtain ⟨hz, hsz⟩ := zero_of_info Try.zero22'
  generalize ((subS b).toNat : Int) = sb at *
  generalize (mixS (oneC (subS b)) mixM 0).toNat = r0 at *
  generalize (mixS (oneC (subS b)) mixM 1).toNat = r1 at *
  generalize (mixS (oneC (subS b)) mixM 2).toNat = r2 at *
  generalize (mixS (oneC (subS b)) mixM 3).toNat = r3 at *
  have e1 : bits .or .u32 ((r0 : Int) * 16777216) ((r1 : Int) * 65536) = ((r0 * 16777216 ||| r1 * 65536 : Nat) : Int) := by
    rw [show (r0 : Int) * 16777216 = ((r0 * 16777216 : Nat) : Int) by simp, show (r1 : Int) * 65536 = ((r1 * 65536 : Nat) : Int) by simp, u32_or_nat _ _ (by omega) (by omega)]
  have l1 : r0 * 16777216 ||| r1 * 65536 < 4294967296 := or_lt32 (by omega) (by omega)
  have e2 : bits .or .u32 ((r0 * 16777216 ||| r1 * 65536 : Nat) : Int) ((r2 : Int) * 256) = ((r0 * 16777216 ||| r1 * 65536 ||| r2 * 256 : Nat) : Int) := by
    rw [show (r2 : Int) * 256 = ((r2 * 256 : Nat) : Int) by simp, u32_or_nat _ _ l1 (by omega)]
  have l2 : r0 * 16777216 ||| r1 * 65536 ||| r2 * 256 < 4294967296 := or_lt32 l1 (by omega)
  have e3 : bits .or .u32 ((r0 * 16777216 ||| r1 * 65536 ||| r2 * 256 : Nat) : Int) (r3 : Int) = (colS b : Int) := by
    rw [HR.out, u32_or_nat _ _ l2 (by omega)]
  generalize ((r0 * 16777216 ||| r1 * 65536 ||| r2 * 256 : Nat) : Int) = y2 at *
  generalize ((r0 * 16777216 ||| r1 * 65536 : Nat) : Int) = y1 at *
  clear l1 l2
  generalize colS b = R at *
  go_enter Try.func20, Try.ntmps20
  go_wp2_with (first | (go_at_call 12; refine (HS.out _).mono ?_; rintro e w2 ⟨rfl, hb2⟩; have HB2 := hidD hb2; clear hb2) | (go_at_call 16; refine (HM.out _).mono ?_; rintro e w3 ⟨rfl, hb3⟩; have HB3 := hidD hb3; clear hb3) | (refine wpList_store_row rfl 22 _ _ rfl w3.heap.size #[.int .u8 r0, .int .u8 r1, .int .u8 r2, .int .u8 r3] rfl rfl 22 #[.int .u8 0, .int .u8 0, .int .u8 0, .int .u8 0] (heap_alloc_last _ _) (by rw [hsz]; rfl) rfl HONE.out ?_; have hcs := col_cells (setRow_heap _ _ #[.int .u8 0, .int .u8 0, .int .u8 0, .int .u8 0] #[.int .u8 r0, .int .u8 r1, .int .u8 r2, .int .u8 r3] (22 : TypeId) (0, 0) (heap_alloc_last w3 (.cells #[.int .u8 0, .int .u8 0, .int .u8 0, .int .u8 0] (22 : TypeId)))); have HB4 : Hid (Below w3.heap.size w3 ((w3.alloc (.cells #[.int .u8 0, .int .u8 0, .int .u8 0, .int .u8 0] (22 : TypeId))).setRow w3.heap.size #[.int .u8 r0, .int .u8 r1, .int .u8 r2, .int .u8 r3])) := below_setRow ((Below.refl _ _).alloc (Nat.le_refl _) _) (Nat.le_refl _) _; generalize (w3.alloc (.cells #[.int .u8 0, .int .u8 0, .int .u8 0, .int .u8 0] (22 : TypeId))).setRow w3.heap.size #[.int .u8 r0, .int .u8 r1, .int .u8 r2, .int .u8 r3] = w4 at *; obtain ⟨k0, k1, k2, k3⟩ := hcs))
  go_ret
  exact ⟨rfl, Below.next (Below.next HB2.out HB3.out) HB4.out⟩
end Go.Proofs.Ytdbledfpphkppaa
