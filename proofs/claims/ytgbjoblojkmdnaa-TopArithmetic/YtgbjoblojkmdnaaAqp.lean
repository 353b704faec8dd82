/- Plain: sums and differences of bytes, with their flags. -/
import Derived.Test.YtgbjoblojkmdnaaApl
namespace Go.Proofs.Ytgbjoblojkmdnaa
set_option linter.unusedVariables false

def loN (v : Nat) : Nat := v % 16
def hiN (v : Nat) : Nat := v / 16 * 16
def cyN (p : Nat) : Nat := p % 2
theorem lo_lt (v : Nat) : loN v < 16 := Nat.mod_lt _ (by decide)
theorem hi_lt {v : Nat} (h : v < 256) : hiN v ≤ 240 := by unfold hiN; omega
theorem cy_lt (p : Nat) : cyN p < 2 := Nat.mod_lt _ (by decide)
/- the sum, with its carry; P behind it -/
def sB (a b p : Nat) : Nat := a + b + cyN p
def bf (a b p : Nat) : Nat := fl (sB a b p % 256) (wi (wi p 1 (decide (255 < sB a b p))) 64 (ov a b (sB a b p % 256)))
theorem sB_lt {a b p : Nat} (ha : a < 256) (hb : b < 256) : sB a b p < 512 := by have := cy_lt p; unfold sB; omega
theorem bf_lt {a b p : Nat} (hp : p < 256) : bf a b p < 256 := fl_lt (wi_lt (wi_lt hp (by decide) _) (by decide) _)
/- the decimal sum, before and after its higher digit is mended -/
def lA (a b p : Nat) : Nat := loN a + loN b + cyN p
def hA (a b p : Nat) : Nat := hiN a + hiN b + dig (lA a b p)
def fixA (h : Nat) : Nat := if 159 < h then h + 96 else h
theorem lA_lt (a b p : Nat) : lA a b p < 32 := by have := lo_lt a; have := lo_lt b; have := cy_lt p; unfold lA; omega
theorem dig_lt {l : Nat} (h : l < 32) : dig l < 32 := by unfold dig; split <;> omega
theorem hA_lt {a b : Nat} (p : Nat) (ha : a < 256) (hb : b < 256) : hA a b p < 512 := by
  have := hi_lt ha; have := hi_lt hb; have := dig_lt (lA_lt a b p); unfold hA; omega
/- is FlagD in P? -/
def dD (p : Nat) : Bool := decide (p / 8 % 2 = 1)
def addV (a b p : Nat) : Nat := if dD p then fixA (hA a b p) % 256 else sB a b p % 256
def adF (a b p : Nat) : Nat := wi (wi (wi (wi p 2 (decide (sB a b p % 256 = 0))) 128 (decide (128 ≤ hA a b p % 256))) 64 (ov a b (hA a b p % 256))) 1 (decide (255 < fixA (hA a b p)))
def addF (a b p : Nat) : Nat := if dD p then adF a b p else bf a b p
theorem flags_eq : ∀ p < 256, ∀ c v n0 z n v2 c2 : Bool, wi (wi (wi (wi (wi (wi (wi p 1 c) 64 v) 128 n0) 2 z) 128 n) 64 v2) 1 c2 = wi (wi (wi (wi p 2 z) 128 n) 64 v2) 1 c2 := by decide +kernel
theorem adF_eq (a b p : Nat) (hp : p < 256) : wi (wi (wi (bf a b p) 128 (decide (128 ≤ hA a b p % 256))) 64 (ov a b (hA a b p % 256))) 1 (decide (255 < fixA (hA a b p))) = adF a b p :=
  flags_eq p hp _ _ _ _ _ _ _
theorem addV_lt (a b p : Nat) : addV a b p < 256 := by unfold addV; split <;> exact Nat.mod_lt _ (by decide)
theorem addF_lt {a b p : Nat} (hp : p < 256) : addF a b p < 256 := by
  unfold addF; split
  · exact wi_lt (wi_lt (wi_lt (wi_lt hp (by decide) _) (by decide) _) (by decide) _) (by decide) _
  · exact bf_lt hp
/- the decimal difference -/
def lS (a b p : Nat) : Int := (loN a : Int) - (loN b : Int) - 1 + (cyN p : Int)
def hS (a b p : Nat) : Int := (hiN a : Int) - (hiN b : Int) + bor (lS a b p)
def fixS (h : Int) : Int := if h < 0 then h - 96 else h
def subV (a b p : Nat) : Nat := if dD p then (fixS (hS a b p) % 256).toNat else sB a (255 - b) p % 256
def subF (a b p : Nat) : Nat := bf a (255 - b) p
theorem lS_lt (a b p : Nat) : -16 ≤ lS a b p ∧ lS a b p < 16 := by have := lo_lt a; have := lo_lt b; have := cy_lt p; unfold lS; omega
theorem bor_lt {l : Int} (h1 : -16 ≤ l) (h2 : l < 16) : -16 ≤ bor l ∧ bor l < 16 := by unfold bor; split <;> omega
theorem subV_lt (a b p : Nat) : subV a b p < 256 := by unfold subV; split <;> omega
/- the flags of a difference, in the document's words -/
theorem sb_mod (a b p : Nat) (ha : a < 256) (hb : b < 256) : ((a : Int) - (b : Int) - 1 + (cyN p : Int)) % 256 = ((sB a (255 - b) p % 256 : Nat) : Int) := by have := cy_lt p; unfold sB; omega
theorem sb_ge (a b p : Nat) (ha : a < 256) (hb : b < 256) : decide (0 ≤ (a : Int) - (b : Int) - 1 + (cyN p : Int)) = decide (255 < sB a (255 - b) p) := by
  have := cy_lt p
  by_cases h : 255 < sB a (255 - b) p
  · rw [decide_eq_true h, decide_eq_true]; unfold sB at h; omega
  · rw [decide_eq_false h, decide_eq_false]; unfold sB at h; omega
theorem b7_not (b : Nat) (hb : b < 256) : b7 (255 - b) = !(b7 b) := by
  unfold b7
  by_cases h : 128 ≤ b % 256
  · rw [decide_eq_true h, decide_eq_false (by omega)]; rfl
  · rw [decide_eq_false h, decide_eq_true (by omega)]; rfl
end Go.Proofs.Ytgbjoblojkmdnaa
