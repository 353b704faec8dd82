/- Plain: a state, fed byte by byte. -/
import Derived.Test.YtnldpofljeodiaaShb
import Derived.Test.YtnldpofljeodiaaShc
import Derived.Test.YtnldpofljeodiaaShd
namespace Go.Proofs.Ytnldpofljeodiaa
open Go.RowKit
set_option linter.unusedVariables false

/- the chain behind one block more -/
def afK (k : Nat) (b : Nat → UInt8) (c : Nat → Nat) (j : Nat) : Nat := if 256 < k then afW b (coS k) c j else afN b (coS k) c j
def mdK (k : Nat) : Nat := if 256 < k then 18446744073709551616 else 4294967296
structure Ps where
  n : Nat
  r : Nat → UInt8
  c : Nat → Nat
def stepP (k : Nat) (s : Ps) (x : UInt8) : Ps :=
  ⟨(s.n + 1) % 18446744073709551616, fun i => if i = s.n % blkN k then x else s.r i, if s.n % blkN k = blkN k - 1 then afK k (fun i => if i = s.n % blkN k then x else s.r i) s.c else s.c⟩
def feedP (k : Nat) (s : Ps) (l : List UInt8) : Ps := l.foldl (stepP k) s
theorem feed_nil (k : Nat) (s : Ps) : feedP k s [] = s := rfl
theorem feed_cons (k : Nat) (s : Ps) (x : UInt8) (l : List UInt8) : feedP k s (x :: l) = feedP k (stepP k s x) l := rfl
theorem feed_app (k : Nat) (s : Ps) (a b : List UInt8) : feedP k s (a ++ b) = feedP k (feedP k s a) b := List.foldl_append
theorem feed_snoc (k : Nat) (s : Ps) (l : List UInt8) (i : Nat) (h : i < l.length) : feedP k s (l.take (i + 1)) = stepP k (feedP k s (l.take i)) (l.getD i 0) := by
  rw [List.take_add_one, feed_app, List.getElem?_eq_getElem h, List.getD_eq_getElem?_getD, List.getElem?_eq_getElem h]; rfl
theorem blk_pos (k : Nat) : 64 ≤ blkN k ∧ blkN k ≤ 128 := by unfold blkN; split <;> omega
theorem afK_lt (k : Nat) (b : Nat → UInt8) (c : Nat → Nat) (j : Nat) : afK k b c j < mdK k := by
  unfold afK mdK afW afN
  split <;> exact Nat.mod_lt _ (by decide)
theorem step_lt (k : Nat) (s : Ps) (h : ∀ j, s.c j < mdK k) (x : UInt8) : ∀ j, (stepP k s x).c j < mdK k := by
  intro j
  unfold stepP
  simp only []
  split
  · exact afK_lt _ _ _ _
  · exact h j
theorem feed_lt (k : Nat) : ∀ (l : List UInt8) (s : Ps), (∀ j, s.c j < mdK k) → ∀ j, (feedP k s l).c j < mdK k
  | [], _, h => h
  | x :: l, s, h => feed_lt k l _ (step_lt k s h x)
theorem feed_n (k : Nat) : ∀ (l : List UInt8) (s : Ps), s.n < 18446744073709551616 → (feedP k s l).n = (s.n + l.length) % 18446744073709551616
  | [], s, h => by show s.n = (s.n + 0) % _; omega
  | x :: l, s, h => by
    rw [feed_cons, feed_n k l _ (Nat.mod_lt _ (by decide))]
    show ((s.n + 1) % 18446744073709551616 + l.length) % _ = (s.n + (l.length + 1)) % _
    omega
/- the words that a kind begins with -/
def hS (k j : Nat) : Nat := coS k (80 + j)
def newP (k : Nat) : Ps := ⟨0, fun _ => 0, hS k⟩
/- the bytes of padding behind n bytes -/
def padL (k n : Nat) : List UInt8 := (List.range (rmS (blkN k) n)).map (pdS (blkN k) n)
theorem padL_len (k n : Nat) : (padL k n).length = rmS (blkN k) n := by simp [padL]
/- the chain's bytes -/
def cbK (k : Nat) (c : Nat → Nat) (i : Nat) : UInt8 := if 256 < k then cbS 8 c i else cbS 4 c i
/- the digest -/
def dgP (k : Nat) (s : Ps) (i : Nat) : UInt8 := cbK k (feedP k s (padL k s.n)).c i
def dgL (k : Nat) (s : Ps) : List UInt8 := (List.range (k / 8)).map (dgP k s)
theorem dgL_len (k : Nat) (s : Ps) : (dgL k s).length = k / 8 := by simp [dgL]
end Go.Proofs.Ytnldpofljeodiaa
