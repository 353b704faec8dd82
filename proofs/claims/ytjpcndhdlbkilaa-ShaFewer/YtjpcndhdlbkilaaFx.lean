/- ShaFewer: all cases. -/
import Derived.Test.YtjpcndhdlbkilaaFw
namespace Go.Proofs.Ytjpcndhdlbkilaa
open Go.RowKit
set_option linter.unusedVariables false

/- an error, or the first bytes of F -/
def AnsIs (F : Nat → UInt8) (v : Value) (e : Int) (z : Int) (w : World) : Prop := (0 < e ∧ e ≤ 3) ∨ (e = 0 ∧ ∃ g N : Nat, z = (N : Int) ∧ N ≤ 1048576 ∧ v = .slice (some ⟨g, 0, none⟩) N N ∧ RowZ w g .u8 N 5 (fun i => ((F i).toNat : Int)))
theorem AnsIs.next {F : Nat → UInt8} {v : Value} {e z : Int} {w w' : World} (h : AnsIs F v e z w) (hb : Below w.heap.size w w') : AnsIs F v e z w' := by
  rcases h with h | ⟨h1, g, N, h2, h3, h4, h5⟩
  · exact .inl h
  · exact .inr ⟨h1, g, N, h2, h3, h4, h5.next hb⟩
theorem few_of {F : Nat → UInt8} {v1 v2 : Value} {e1 e2 n m : Int} {w : World} (hle : n ≤ m) (h1 : AnsIs F v1 e1 n w) (h2 : AnsIs F v2 e2 m w) : FewIs v1 v2 e1 e2 n m w := by
  rcases h1 with ⟨a1, a2⟩ | ⟨a1, g1, N, a2, a3, a4, a5⟩
  · rcases h2 with ⟨b1, b2⟩ | ⟨b1, _⟩
    · exact .inl ⟨by omega, by omega, by omega, by omega, Or.inl (by omega)⟩
    · exact .inl ⟨by omega, by omega, by omega, by omega, Or.inl (by omega)⟩
  · rcases h2 with ⟨b1, b2⟩ | ⟨b1, g2, M, b2, b3, b4, b5⟩
    · exact .inl ⟨by omega, by omega, by omega, by omega, Or.inr (by omega)⟩
    · exact .inr ⟨a1, b1, g1, g2, N, M, F, a2, b2, by omega, b3, a4, b4, a5, b5⟩
theorem expand_all (x : Int) (key info : List UInt8) (hKl : key.length ≤ 4611686018427387904) (hIl : info.length ≤ 4611686018427387904) (aK aI : Option Addr) (cK cI : Nat) : ∃ F : Nat → UInt8, ∀ (z : Int) (w : World), ByAt w (.slice aK key.length cK) key → ByAt w (.slice aI info.length cI) info → Calls Try.prog 19 #[.int .i64 x, .slice aK key.length cK, .slice aI info.length cI, .int .i64 z] w fun e w' => ∃ v e1, e = .returned (.tuple #[v, .int .i64 e1]) ∧ Below w.heap.size w w' ∧ AnsIs F v e1 z w' := by
  rcases kind_or x with ⟨k, hk, rfl⟩ | hno
  · refine ⟨sbS (k / 8) (exT k key info), fun z w hbK hbI => ?_⟩
    have hk8 : k / 8 ≤ 64 := by have := hk.le; omega
    by_cases h1 : z < 0
    · exact (expand_bad (k : Int) _ aI info.length cI z 1 (Or.inr ⟨k, hk, rfl, Or.inl ⟨rfl, h1⟩⟩) w).mono fun e w' ⟨q1, q2⟩ => ⟨_, _, q1, q2, .inl (by decide)⟩
    · by_cases h2 : 255 * ((k / 8 : Nat) : Int) < z
      · exact (expand_bad (k : Int) _ aI info.length cI z 3 (Or.inr ⟨k, hk, rfl, Or.inr ⟨rfl, h1, h2⟩⟩) w).mono fun e w' ⟨q1, q2⟩ => ⟨_, _, q1, q2, .inl (by decide)⟩
      · obtain ⟨n, rfl⟩ : ∃ n : Nat, z = (n : Int) := ⟨z.toNat, by omega⟩
        exact (expand_ok k hk key info hKl hIl n (by omega) aK aI cK cI w hbK hbI).mono fun e w' ⟨g, q1, q2, q3, q4⟩ => ⟨_, _, q1, q4, .inr ⟨rfl, g, n, rfl, by omega, rfl, q3⟩⟩
  · exact ⟨fun _ => 0, fun z w hbK hbI => (expand_bad x _ aI info.length cI z 1 (Or.inl ⟨rfl, hno⟩) w).mono fun e w' ⟨q1, q2⟩ => ⟨_, _, q1, q2, .inl (by decide)⟩⟩
theorem stretch_all (x : Int) (key salt : List UInt8) (hKl : key.length ≤ 4611686018427387904) (hSl : salt.length ≤ 4611686018427387904) (aK aS : Option Addr) (cK cS : Nat) (rd : Int) : ∃ F : Nat → UInt8, ∀ (z : Int) (w : World), ByAt w (.slice aK key.length cK) key → ByAt w (.slice aS salt.length cS) salt → Calls Try.prog 20 #[.int .i64 x, .slice aK key.length cK, .slice aS salt.length cS, .int .i64 rd, .int .i64 z] w fun e w' => ∃ v e1, e = .returned (.tuple #[v, .int .i64 e1]) ∧ Below w.heap.size w w' ∧ AnsIs F v e1 z w' := by
  rcases kind_or x with ⟨k, hk, rfl⟩ | hno
  · by_cases h1 : rd < 1
    · exact ⟨fun _ => 0, fun z w hbK hbS => (stretch_bad (k : Int) key salt hKl aK aS cK cS rd z 1 w hbK (Or.inr ⟨k, hk, rfl, Or.inl ⟨rfl, h1⟩⟩)).mono fun e w' ⟨q1, q2⟩ => ⟨_, _, q1, q2, .inl (by decide)⟩⟩
    · by_cases h3 : 1024 < rd
      · refine ⟨fun _ => 0, fun z w hbK hbS => ?_⟩
        by_cases h2 : z < 0
        · exact (stretch_bad (k : Int) key salt hKl aK aS cK cS rd z 1 w hbK (Or.inr ⟨k, hk, rfl, Or.inr (Or.inl ⟨rfl, h1, h2⟩)⟩)).mono fun e w' ⟨q1, q2⟩ => ⟨_, _, q1, q2, .inl (by decide)⟩
        · exact (stretch_bad (k : Int) key salt hKl aK aS cK cS rd z 3 w hbK (Or.inr ⟨k, hk, rfl, Or.inr (Or.inr (Or.inl ⟨rfl, h1, h2, h3⟩))⟩)).mono fun e w' ⟨q1, q2⟩ => ⟨_, _, q1, q2, .inl (by decide)⟩
      · obtain ⟨r, hr⟩ : ∃ r : Nat, rd = (r : Int) + 1 := ⟨(rd - 1).toNat, by omega⟩
        refine ⟨sbS (k / 8) (stT k key salt r), fun z w hbK hbS => ?_⟩
        by_cases h2 : z < 0
        · exact (stretch_bad (k : Int) key salt hKl aK aS cK cS rd z 1 w hbK (Or.inr ⟨k, hk, rfl, Or.inr (Or.inl ⟨rfl, h1, h2⟩)⟩)).mono fun e w' ⟨q1, q2⟩ => ⟨_, _, q1, q2, .inl (by decide)⟩
        · by_cases h4 : 1024 < z
          · exact (stretch_bad (k : Int) key salt hKl aK aS cK cS rd z 3 w hbK (Or.inr ⟨k, hk, rfl, Or.inr (Or.inr (Or.inr ⟨rfl, h1, h2, h3, h4⟩))⟩)).mono fun e w' ⟨q1, q2⟩ => ⟨_, _, q1, q2, .inl (by decide)⟩
          · obtain ⟨n, rfl⟩ : ∃ n : Nat, z = (n : Int) := ⟨z.toNat, by omega⟩
            subst hr
            exact (stretch_ok k hk key salt hKl hSl r (by omega) n (by omega) aK aS cK cS w hbK hbS).mono fun e w' ⟨g, q1, q2, q3, q4⟩ => ⟨_, _, q1, q4, .inr ⟨rfl, g, n, rfl, by omega, rfl, q3⟩⟩
  · exact ⟨fun _ => 0, fun z w hbK hbS => (stretch_bad x key salt hKl aK aS cK cS rd z 1 w hbK (Or.inl ⟨rfl, hno⟩)).mono fun e w' ⟨q1, q2⟩ => ⟨_, _, q1, q2, .inl (by decide)⟩⟩
theorem few_any (x : Int) (key info : List UInt8) (hKl : key.length ≤ 140737488355300) (hIl : info.length ≤ 140737488355300) (aK aI : Option Addr) (cK cI : Nat) (rd n m : Int) (w : World) (hbK : ByAt w (.slice aK key.length cK) key) (hbI : ByAt w (.slice aI info.length cI) info) : Calls Try.prog 6 #[.int .i64 x, .slice aK key.length cK, .slice aI info.length cI, .int .i64 rd, .int .i64 n, .int .i64 m] w fun e w' => e = .returned (.bool true) ∧ Below w.heap.size w w' := by
  obtain ⟨F, hX⟩ := expand_all x key info (by omega) (by omega) aK aI cK cI
  obtain ⟨G, hY⟩ := stretch_all x key info (by omega) (by omega) aK aI cK cI rd
  obtain ⟨n', m', hsw, hle⟩ : ∃ n' m' : Int, ((¬ m < n ∧ n' = n ∧ m' = m) ∨ (m < n ∧ n' = m ∧ m' = n)) ∧ n' ≤ m' := by
    by_cases h : m < n
    · exact ⟨m, n, Or.inr ⟨h, rfl, rfl⟩, by omega⟩
    · exact ⟨n, m, Or.inl ⟨h, rfl, rfl⟩, by omega⟩
  refine few_walk x _ _ rd n m n' m' hsw (fun a => ByAt a (.slice aK key.length cK) key ∧ ByAt a (.slice aI info.length cI) info) (fun a b h hb => ⟨h.1.next hb, h.2.next hb⟩) (fun w h => ?_) (fun w h => ?_) w ⟨hbK, hbI⟩
  · refine (hX n' w h.1 h.2).mono fun e w1 ⟨v1, e1, q1, q2, q3⟩ => ⟨v1, e1, q1, q2, fun w2 hb => ?_⟩
    refine (hX m' w2 ((h.1.next q2).next hb) ((h.2.next q2).next hb)).mono fun e w3 ⟨v2, e2, r1, r2, r3⟩ => ⟨v2, e2, r1, r2, few_of hle ((q3.next hb).next r2) r3⟩
  · refine (hY n' w h.1 h.2).mono fun e w1 ⟨v1, e1, q1, q2, q3⟩ => ⟨v1, e1, q1, q2, fun w2 hb => ?_⟩
    refine (hY m' w2 ((h.1.next q2).next hb) ((h.2.next q2).next hb)).mono fun e w3 ⟨v2, e2, r1, r2, r3⟩ => ⟨v2, e2, r1, r2, few_of hle ((q3.next hb).next r2) r3⟩
end Go.Proofs.Ytjpcndhdlbkilaa
