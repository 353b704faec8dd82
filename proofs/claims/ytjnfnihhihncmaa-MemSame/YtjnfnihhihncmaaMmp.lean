/- Regions apart; hasCells: are all places from one up to another in RAM or ROM? -/
import Derived.Test.YtjnfnihhihncmaaMmm
namespace Go.Proofs.Ytjnfnihhihncmaa
open Go.RowKit
set_option linter.unusedVariables false

theorem findR_in {a : Int} : ∀ {R : List Rgn} {r : Rgn}, findR a R = some r → r ∈ R ∧ r.1 ≤ a ∧ a < r.2.1
  | [], r, h => by cases h
  | q :: l, r, h => by
    unfold findR at h
    by_cases hq : q.1 ≤ a ∧ a < q.2.1
    · rw [if_pos hq] at h; cases h; exact ⟨List.mem_cons_self, hq⟩
    · rw [if_neg hq] at h
      obtain ⟨h1, h2⟩ := findR_in h
      exact ⟨List.mem_cons_of_mem _ h1, h2⟩
/- the regions stand apart, rising -/
def SepR (R : List Rgn) : Prop := R.Pairwise (fun x y => x.2.1 ≤ y.1) ∧ ∀ x ∈ R, okR x
theorem SepR.find {a a' : Int} : ∀ {R : List Rgn} {r : Rgn}, SepR R → findR a R = some r → a ≤ a' → a' < r.2.1 → findR a' R = some r
  | [], r, _, h, _, _ => by cases h
  | q :: l, r, hs, h, h1, h2 => by
    obtain ⟨hp, hk⟩ := hs
    obtain ⟨hq0, hpl⟩ := List.pairwise_cons.1 hp
    unfold findR at h ⊢
    by_cases hq : q.1 ≤ a ∧ a < q.2.1
    · rw [if_pos hq] at h; cases h
      rw [if_pos ⟨by omega, h2⟩]
    · rw [if_neg hq] at h
      have hr := findR_in h
      have hqr := hq0 r hr.1
      have hqk := (hk q List.mem_cons_self).2.2.1
      rw [if_neg (by omega)]
      exact SepR.find ⟨hpl, fun x hx => hk x (List.mem_cons_of_mem _ hx)⟩ h h1 h2
def cellR (R : List Rgn) (a : Int) : Prop := (rgo R a).1.2.2 = 1 ∨ (rgo R a).1.2.2 = 2
instance (R : List Rgn) (a : Int) : Decidable (cellR R a) := inferInstanceAs (Decidable (_ ∨ _))
/- all places from f up to t -/
def allR (R : List Rgn) (f t : Int) : Prop := ∀ a, f ≤ a → a < t → cellR R a
theorem rgo_find {R : List Rgn} {a : Int} (ha : 0 ≤ a ∧ a < 65536) : rgo R a = match findR a R with | some r => (r, 0) | none => ((0, 0, 0), 230) := by
  unfold rgo; rw [if_pos ha]; cases findR a R <;> rfl
/- a place in RAM or ROM: its region, and the places behind it -/
theorem cell_run {R : List Rgn} (hs : SepR R) {a : Int} (ha : 0 ≤ a ∧ a < 65536) (hc : cellR R a) : ∃ f t kd, rgo R a = ((f, t, kd), 0) ∧ (kd = 1 ∨ kd = 2) ∧ a < t ∧ t ≤ 65536 ∧ ∀ a', a ≤ a' → a' < t → cellR R a' := by
  have he := rgo_find (R := R) ha
  unfold cellR at hc
  cases hf : findR a R with
  | none => rw [he, hf] at hc; simp at hc
  | some r =>
    rw [hf] at he
    obtain ⟨f, t, kd⟩ := r
    have hr := findR_in hf
    have hok := hs.2 _ hr.1
    rw [he] at hc
    refine ⟨f, t, kd, he, hc, hr.2.2, hok.2.1, fun a' h1 h2 => ?_⟩
    have := rgo_find (R := R) (a := a') ⟨by omega, by have := hok.2.1; simp only at this h2; omega⟩
    rw [hs.find hf h1 h2] at this
    unfold cellR
    rw [this]
    exact hc
theorem no_cell {R : List Rgn} {a : Int} (ha : 0 ≤ a ∧ a < 65536) (hc : ¬ cellR R a) : ¬ ((rgo R a).1.2.2 = 1 ∨ (rgo R a).1.2.2 = 2) := hc
set_option maxRecDepth 100000 in
set_option maxHeartbeats 1600000 in
theorem hasCells2_any {w : World} {k : Mk} {Z : Nat → Nat × Nat} {x y : Int} (h : MeAt w k Z x y) (hs : SepR k.R) (f t : Int) (hf : 0 ≤ f) (ht : t ≤ 65536) (b : Bool) (hb : b = true ↔ allR k.R f t) :
    Calls Try.prog 55 #[.pointer (some ⟨k.m, 0, none⟩), .int .i64 f, .int .i64 t] w fun e w' => e = .returned (.bool b) ∧ Below w.heap.size w w' := by
  have HM := hidD h
  have HS := hidD hs
  have HBB := hidD hb
  clear h hs hb
  go_enter Try.func55, Try.ntmps55
  go_wp2_with fail
  go_loopw [7] (fun i wr => ∃ a : Int, f ≤ a ∧ i = .int .i64 a ∧ Below w.heap.size w wr ∧ ∀ c, f ≤ c → c < a → cellR k.R c) (fun i _ => (t - intOf i).toNat)
  case atStart => exact ⟨f, Int.le_refl _, rfl, Below.refl _ _, fun c h1 h2 => by omega⟩
  case round =>
    obtain ⟨a, hfa, rfl, hbel, hall⟩ := hrel
    have HBW := hidD hbel
    have HAL := hidD hall
    clear hbel hall
    by_cases hlt : a < t
    · have ha : 0 ≤ a ∧ a < 65536 := by omega
      by_cases hc : cellR k.R a
      · obtain ⟨rf, rt, kd, hq, hkd, h1, h2, h3⟩ := cell_run HS.out ha hc
        have HK : Hid (Calls Try.prog 48 #[.pointer (some ⟨k.m, 0, none⟩), .int .i64 a] wr fun e w' => e = .returned (.tuple #[.agg #[.int .i64 rf, .int .i64 rt, .int .i64 kd], .int .i64 0]) ∧ Below wr.heap.size wr w') := reg_next HM.out a HBW.out hq
        have HH : Hid (∀ w, Calls Try.prog 52 #[.agg #[.int .i64 rf, .int .i64 rt, .int .i64 kd]] w fun e w' => e = .returned (.bool true) ∧ Below w.heap.size w w') := fun w => by have := hasCells_any rf rt kd w; rw [decide_eq_true hkd] at this; exact this
        have HNX : Hid (∀ c, f ≤ c → c < rt → cellR k.R c) := fun c g1 g2 => by
          by_cases hca : c < a
          · exact HAL.out c g1 hca
          · exact h3 c (by omega) g2
        have HMS : Hid ((t - rt).toNat < (t - a).toNat ∧ f ≤ rt) := ⟨by omega, by omega⟩
        clear hc hq hkd h1 h2 h3 ha hf ht hfa
        go_wp2_with (first
          | (go_at_call 48; refine HK.out.mono ?_; rintro e w2 ⟨rfl, hb2⟩
             obtain ⟨g0, g1, g2⟩ := rg_cells w2 rf rt kd
             have HB2 := hidD (Below.next HBW.out (hb2.trans ((pin_map (.cells #[.int .i64 rf, .int .i64 rt, .int .i64 kd] (35 : TypeId))).mono hb2.size)))
             have HL2 : Hid (w2.heap.size < (w2.alloc (.cells #[.int .i64 rf, .int .i64 rt, .int .i64 kd] (35 : TypeId))).heap.size) := row_lt (heap_alloc_last _ _)
             clear hb2)
          | (go_at_call 52; refine (HH.out _).mono ?_; rintro e w3 ⟨rfl, hb3⟩
             have i1 := (hb3.cell (p := ⟨w2.heap.size, 1, none⟩) HL2.out).trans g1
             have HB3 := hidD (Below.next HB2.out hb3); clear hb3))
        exact ⟨⟨rt, HMS.out.2, rfl, HB3.out, HNX.out⟩, by show (t - rt).toNat < (t - a).toNat; exact HMS.out.1⟩
      · have HK := hidD (regionOf_any (HM.out.next HBW.out) a)
        have hb0 : b = false := by
          cases b with
          | false => rfl
          | true => exact absurd (HBB.out.1 rfl a hfa hlt) hc
        subst hb0
        have hnk := no_cell ha hc
        generalize rgo k.R a = q at *
        obtain ⟨⟨rf, rt, kd⟩, er⟩ := q
        change Hid (Calls Try.prog 48 #[.pointer (some ⟨k.m, 0, none⟩), .int .i64 a] wr fun e w' => e = .returned (.tuple #[.agg #[.int .i64 rf, .int .i64 rt, .int .i64 kd], .int .i64 er]) ∧ Below wr.heap.size wr w') at HK
        have HH : Hid (∀ w, Calls Try.prog 52 #[.agg #[.int .i64 rf, .int .i64 rt, .int .i64 kd]] w fun e w' => e = .returned (.bool false) ∧ Below w.heap.size w w') := fun w => by have := hasCells_any rf rt kd w; rw [decide_eq_false hnk] at this; exact this
        clear hc hnk ha hf ht hfa
        go_wp2_with (first
          | (go_at_call 48; refine HK.out.mono ?_; rintro e w2 ⟨rfl, hb2⟩
             obtain ⟨g0, g1, g2⟩ := rg_cells w2 rf rt kd
             have HB2 := hidD (Below.next HBW.out (hb2.trans ((pin_map (.cells #[.int .i64 rf, .int .i64 rt, .int .i64 kd] (35 : TypeId))).mono hb2.size)))
             clear hb2)
          | (go_at_call 52; refine (HH.out _).mono ?_; rintro e w3 ⟨rfl, hb3⟩
             have HB3 := hidD (Below.next HB2.out hb3); clear hb3))
        go_ret
        exact ⟨rfl, HB3.out⟩
    · have hb1 : b = true := HBB.out.2 fun c h1 h2 => HAL.out c h1 (by omega)
      subst hb1
      go_wp2_with fail
      go_ret
      exact ⟨rfl, HBW.out⟩
end Go.Proofs.Ytjnfnihhihncmaa
