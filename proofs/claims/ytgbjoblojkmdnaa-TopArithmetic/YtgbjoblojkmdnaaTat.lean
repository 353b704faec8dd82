/- TopArithmetic, for all bytes, decimal or not, with a carry or without. -/
import Derived.Test.YtgbjoblojkmdnaaTa0
import Derived.Test.YtgbjoblojkmdnaaTa1
import Derived.Test.YtgbjoblojkmdnaaTa2
import Derived.Test.YtgbjoblojkmdnaaTa3
namespace Go.Proofs.Ytgbjoblojkmdnaa
open Go.RowKit
set_option linter.unusedVariables false

theorem by_read {w : World} {a : Option Addr} {c : Nat} {l : List UInt8} (h : ByAt w (.slice a l.length c) l) (n : Nat) (hn : n ≤ l.length) : ∀ wr, Below w.heap.size w wr → ∀ k, k < n → ∃ g off, a = some ⟨g, off, none⟩ ∧ wr.cell? ⟨g, off + k, none⟩ = some (.int .u8 ((l.getD k 0).toNat : Int)) := fun wr hb k hk => by
  obtain ⟨a', cap, he, hc⟩ := (h.below hb (Nat.le_refl _)).shape
  cases he
  obtain ⟨g, off, h1, _, h3⟩ := hc k (by omega)
  exact ⟨g, off, h1, h3⟩
theorem topArithmetic_any (la lb : List UInt8) (aa ab : Option Addr) (ca cb : Nat) (hla : la.length ≤ 140737488351232) (hlb : lb.length ≤ 140737488351232) (D C : Bool) (w : World) (ha : ByAt w (.slice aa la.length ca) la) (hb : ByAt w (.slice ab lb.length cb) lb) :
    Calls Try.prog 3 #[.slice aa la.length ca, .slice ab lb.length cb, .bool D, .bool C] w fun e w' => e = .returned (.bool true) ∧ Below w.heap.size w w' := by
  obtain ⟨m, hm⟩ : ∃ m : Nat, m = if lb.length < la.length then lb.length else la.length := ⟨_, rfl⟩
  obtain ⟨n, hn⟩ : ∃ n : Nat, n = if 7 < m then 7 else m := ⟨_, rfl⟩
  have em0 : (if (lb.length : Int) < (la.length : Int) then (lb.length : Int) else (la.length : Int)) = (m : Int) := by
    rw [hm]; by_cases h : lb.length < la.length
    · rw [if_pos h, if_pos (by omega)]
    · rw [if_neg h, if_neg (by omega)]
  have em1 : (if lb.length < la.length then (lb.length : Int) else (la.length : Int)) = (m : Int) := by
    rw [hm]; by_cases h : lb.length < la.length
    · rw [if_pos h, if_pos h]
    · rw [if_neg h, if_neg h]
  have em2 : (if (7 : Int) < (m : Int) then 7 else (m : Int)) = (n : Int) := by
    rw [hn]; by_cases h : 7 < m
    · rw [if_pos h, if_pos (by omega)]; rfl
    · rw [if_neg h, if_neg (by omega)]
  have em3 : (if 7 < m then (7 : Int) else (m : Int)) = (n : Int) := by
    rw [hn]; by_cases h : 7 < m
    · rw [if_pos h, if_pos h]; rfl
    · rw [if_neg h, if_neg h]
  have h1 : m ≤ la.length ∧ m ≤ lb.length := by rw [hm]; split <;> omega
  have h2 : n ≤ 7 ∧ n ≤ m := by rw [hn]; split <;> omega
  have hu : ∀ j, (la.getD j 0).toNat < 256 := fun j => UInt8.toNat_lt _
  have hv : ∀ j, (lb.getD j 0).toNat < 256 := fun j => UInt8.toNat_lt _
  have HA := hidD (by_read ha n (by omega))
  have HB := hidD (by_read hb n (by omega))
  have nA : n ≤ la.length := by omega
  have nB : n ≤ lb.length := by omega
  cases D <;> cases C
  · exact top_00 la.length lb.length ca cb n aa ab _ _ hu hv w hla hlb h2.1 nA nB m em0 em1 em2 em3 HA HB
  · exact top_01 la.length lb.length ca cb n aa ab _ _ hu hv w hla hlb h2.1 nA nB m em0 em1 em2 em3 HA HB
  · exact top_10 la.length lb.length ca cb n aa ab _ _ hu hv w hla hlb h2.1 nA nB m em0 em1 em2 em3 HA HB
  · exact top_11 la.length lb.length ca cb n aa ab _ _ hu hv w hla hlb h2.1 nA nB m em0 em1 em2 em3 HA HB
end Go.Proofs.Ytgbjoblojkmdnaa
