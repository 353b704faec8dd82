/- MemScrubs: plain facts of what is mended twice; scripts in memory. -/
import Derived.Test.YtjnfnihhihncmaaMmr
import Derived.Test.YtjnfnihhihncmaaMmo
namespace Go.Proofs.Ytjnfnihhihncmaa
open Go.RowKit
set_option linter.unusedVariables false

theorem md_told (z : Nat × Nat) : (decS (mdZ z)).1 = (decS z).1 ∧ rdE (mdZ z) = rdE z ∧ mX (mdZ z) = 0 ∧ mY (mdZ z) = mY z := by
  rcases hd : decS z with ⟨d, q, i, e⟩
  by_cases he : e = 0
  · subst he
    by_cases hq : q = 0
    · subst hq
      have hm : mdZ z = z := by unfold mdZ; rw [hd]; simp
      rw [hm]
      refine ⟨by rw [hd], rfl, ?_, rfl⟩
      unfold mX; rw [hd]; simp
    · have hm : mdZ z = encZ d := by unfold mdZ; rw [hd]; simp [hq]
      rw [hm]
      obtain ⟨h1, h2, h3, h4⟩ := enc_told d
      refine ⟨h2, ?_, h3, ?_⟩
      · rw [h1]; unfold rdE; rw [hd]; rfl
      · rw [h4]; unfold mY; rw [hd]; rfl
  · have hm : mdZ z = z := by unfold mdZ; rw [hd]; simp [he]
    rw [hm]
    refine ⟨by rw [hd], rfl, ?_, rfl⟩
    unfold mX; rw [hd]; simp [he]
theorem sumX_congr {Z Z' : Nat → Nat × Nat} {f : Nat} {g g' : Nat × Nat → Int} : ∀ n, (∀ i, i < n → g (Z (f + i)) = g' (Z' (f + i))) → sumX Z f g n = sumX Z' f g' n
  | 0, _ => rfl
  | n + 1, h => by show sumX Z f g n + g (Z (f + n)) = sumX Z' f g' n + g' (Z' (f + n)); rw [sumX_congr n fun i hi => h i (by omega), h n (by omega)]
theorem sumX_zero (Z : Nat → Nat × Nat) (f : Nat) : ∀ n, sumX Z f (fun _ => 0) n = 0
  | 0 => rfl
  | n + 1 => by show sumX Z f (fun _ => 0) n + 0 = 0; rw [sumX_zero Z f n]; rfl
def cR : List Rgn := [(0, 64, 1), (64, 96, 2)]
theorem cR_ok : ∀ x ∈ cR, okR x := by unfold okR; decide
theorem cR_sep : SepR cR := ⟨by unfold cR; decide, cR_ok⟩
theorem cR_over : ¬ overR cR := fun ⟨i, h, hv⟩ => by
  have h' : i + 1 < 2 := h
  have hi : i = 0 := by omega
  subst hi
  exact absurd (show (64 : Int) < 64 from hv) (by decide)
theorem cR_at (A : Nat) (h : A < 96) : ∃ f t kd, rgo cR (A : Int) = ((f, t, kd), 0) ∧ (kd = 1 ∨ kd = 2) := by
  have h1 : (0 : Int) ≤ A ∧ (A : Int) < 65536 := by omega
  unfold rgo cR findR
  rw [if_pos h1]
  by_cases h2 : (0 : Int) ≤ A ∧ (A : Int) < 64
  · rw [if_pos h2]; exact ⟨0, 64, 1, rfl, .inl rfl⟩
  · rw [if_neg h2]
    unfold findR
    rw [if_pos (show (64 : Int) ≤ A ∧ (A : Int) < 96 by omega)]; exact ⟨64, 96, 2, rfl, .inr rfl⟩
noncomputable def totS (Z : Nat → Nat × Nat) (g : Nat × Nat → Int) : Int := sumX Z 0 g 64 + sumX Z 64 g 32
theorem sc_one (Z : Nat → Nat × Nat) : scR Z (0, 64, 1) = scZ Z 0 64 := by unfold scR; rw [if_pos (Or.inl rfl)]; rfl
theorem sc_two (Z : Nat → Nat × Nat) : scR Z (64, 96, 2) = scZ Z 64 32 := by unfold scR; rw [if_pos (Or.inr rfl)]; rfl
theorem ss_one (Z : Nat → Nat × Nat) (g : Nat × Nat → Int) : scS Z g (0, 64, 1) = sumX Z 0 g 64 := by unfold scS; rw [if_pos (Or.inl rfl)]; rfl
theorem ss_two (Z : Nat → Nat × Nat) (g : Nat × Nat → Int) : scS Z g (64, 96, 2) = sumX Z 64 g 32 := by unfold scS; rw [if_pos (Or.inr rfl)]; rfl
theorem cR_sc (Z : Nat → Nat × Nat) : scTo Z cR cR.length = scZ (scZ Z 0 64) 64 32 := by
  show scR (scR Z (0, 64, 1)) (64, 96, 2) = _
  rw [sc_one, sc_two]
theorem cR_sx (Z : Nat → Nat × Nat) (g : Nat × Nat → Int) : scX Z g cR cR.length = totS Z g := by
  show 0 + scS Z g (0, 64, 1) + scS (scR Z (0, 64, 1)) g (64, 96, 2) = _
  rw [sc_one, ss_one, ss_two, Int.zero_add]
  show sumX Z 0 g 64 + sumX (scZ Z 0 64) 64 g 32 = sumX Z 0 g 64 + sumX Z 64 g 32
  rw [sumX_congr (Z := scZ Z 0 64) (Z' := Z) (f := 64) (g := g) (g' := g) 32 fun i hi => by unfold scZ; rw [if_neg (by omega)]]
theorem sc_at (Z : Nat → Nat × Nat) (i : Nat) (h : i < 96) : scZ (scZ Z 0 64) 64 32 i = mdZ (Z i) := by
  unfold scZ
  by_cases h1 : i < 64
  · rw [if_neg (by omega), if_pos (by omega)]
  · rw [if_pos (by omega), if_neg (by omega)]
theorem tot_second (Z : Nat → Nat × Nat) : totS (scZ (scZ Z 0 64) 64 32) mX = 0 ∧ totS (scZ (scZ Z 0 64) 64 32) mY = totS Z mY := by
  unfold totS
  constructor
  · rw [sumX_congr (Z' := Z) (g' := fun _ => 0) 64 fun i hi => by rw [sc_at _ _ (by omega)]; exact (md_told _).2.2.1, sumX_congr (Z' := Z) (g' := fun _ => 0) 32 fun i hi => by rw [sc_at _ _ (by omega)]; exact (md_told _).2.2.1, sumX_zero, sumX_zero]; rfl
  · rw [sumX_congr (Z' := Z) (g' := mY) 64 fun i hi => by rw [sc_at _ _ (by omega)]; exact (md_told _).2.2.2, sumX_congr (Z' := Z) (g' := mY) 32 fun i hi => by rw [sc_at _ _ (by omega)]; exact (md_told _).2.2.2]
theorem tot_le (Z : Nat → Nat × Nat) (g : Nat × Nat → Int) (hg : ∀ z, 0 ≤ g z ∧ g z ≤ 1) : 0 ≤ totS Z g ∧ totS Z g ≤ 96 := by
  have h1 := sumX_le Z 0 g hg 64
  have h2 := sumX_le Z 64 g hg 32
  unfold totS
  omega
/- a script in memory: of each op its seven cells -/
def OpsAt (w : World) (v : Value) (n : Nat) : Prop :=
  ∃ va rc, v = .slice va n rc ∧ ∀ i, i < n → ∃ g o, ∃ kd at' bit : Int, ∃ b : Nat, ∃ la ln lc, ∃ wd wc : Int, va = some ⟨g, o, none⟩ ∧ g < w.heap.size ∧ b < 256 ∧
    w.cell? ⟨g, o + i * 7, none⟩ = some (.int .i64 kd) ∧ w.cell? ⟨g, o + i * 7 + 1, none⟩ = some (.int .i64 at') ∧ w.cell? ⟨g, o + i * 7 + 2, none⟩ = some (.int .i64 bit) ∧ w.cell? ⟨g, o + i * 7 + 3, none⟩ = some (.int .u8 (b : Int)) ∧
    w.cell? ⟨g, o + i * 7 + 4, none⟩ = some (.slice la ln lc) ∧ w.cell? ⟨g, o + i * 7 + 5, none⟩ = some (.int .u64 wd) ∧ w.cell? ⟨g, o + i * 7 + 6, none⟩ = some (.int .u8 wc)
end Go.Proofs.Ytjnfnihhihncmaa
