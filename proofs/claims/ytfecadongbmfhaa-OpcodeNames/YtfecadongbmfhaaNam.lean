/- OpcodeNames: for every text and every mode the law returns true. -/
import Derived.Test.YtfecadongbmfhaaNmm
import Derived.Test.YtfecadongbmfhaaNmq
import Derived.Test.YtfecadongbmfhaaSmw
namespace Go.Proofs.Ytfecadongbmfhaa
open Go.RowKit
set_option linter.unusedVariables false

/- a slice that reads as these numbers -/
def IV (w : World) (v : Value) (L : List Int) : Prop := (L = [] ∧ ∃ a cap, v = .slice a 0 cap) ∨ ∃ g cap, v = .slice (some ⟨g, 0, none⟩) L.length cap ∧ g < w.heap.size ∧ ∀ k, k < L.length → w.cell? ⟨g, k, none⟩ = some (.int .i64 (L.getD k 0))
theorem IV.next {w w' : World} {v : Value} {L : List Int} (h : IV w v L) (hb : Below w.heap.size w w') : IV w' v L := by
  rcases h with h | ⟨g, cap, rfl, hg, hc⟩
  · exact .inl h
  · exact .inr ⟨g, cap, rfl, Nat.lt_of_lt_of_le hg hb.size, fun k hk => by rw [hb.cell (p := ⟨g, k, none⟩) hg]; exact hc k hk⟩
theorem iv_own {w : World} {base : Nat} {v : Value} {L : List Int} (h : w.ownsRow base 3 1 v L.length (L.map encI)) : IV w v L := by
  by_cases h0 : 0 < L.length
  · obtain ⟨g, cap, rfl, _, hg, hc⟩ := owned_cells h h0
    refine .inr ⟨g, cap, rfl, hg, fun k hk => ?_⟩
    rw [hc k hk, List.getElem?_map, List.getElem?_eq_getElem hk, List.getD_eq_getElem?_getD, List.getElem?_eq_getElem hk]
    rfl
  · have : L = [] := List.eq_nil_of_length_eq_zero (by omega)
    subst this
    obtain ⟨a, cap, rfl⟩ := row_shape h
    exact .inl ⟨rfl, a, cap, rfl⟩
theorem same_iv {w : World} {u v : Value} {L : List Int} (hl : L.length ≤ 1000) (h1 : IV w u L) (h2 : IV w v L) : Calls Try.prog 28 #[u, v] w fun e w' => e = .returned (.bool true) ∧ Below w.heap.size w w' := by
  by_cases h0 : L = []
  · have e : ∀ {z}, IV w z L → ∃ a cap, z = .slice a 0 cap := by
      subst h0
      rintro z (⟨_, a, cap, rfl⟩ | ⟨g, cap, rfl, _⟩)
      · exact ⟨a, cap, rfl⟩
      · exact ⟨_, cap, rfl⟩
    obtain ⟨a, c1, rfl⟩ := e h1
    obtain ⟨b, c2, rfl⟩ := e h2
    exact sameInts_nil c1 c2 a b w
  · rcases h1 with ⟨h, _⟩ | ⟨g, c1, rfl, hg, hc⟩
    · exact absurd h h0
    rcases h2 with ⟨h, _⟩ | ⟨h, c2, rfl, hh, hd⟩
    · exact absurd h h0
    exact sameInts_any L.length hl g h c1 c2 (fun k => L.getD k 0) w hg hh hc hd
theorem modes_any (s : List UInt8) (hs : s.length ≤ 140737488355328) (w : World) : Calls Try.prog 29 #[.string (bA s)] w fun e w' => ∃ v, e = .returned v ∧ IV w' v (rmL s 13) ∧ Below w.heap.size w w' := by
  by_cases h0 : fiS s = 0
  · refine (modes_none s hs h0 w).mono fun e w' ⟨h1, h2⟩ => ⟨_, h1, .inl ⟨if_pos h0, none, 0, rfl⟩, h2⟩
  · rw [show rmL s 13 = mdT (fiS s) 13 from if_neg h0]
    refine (modes_some s hs h0 w).mono fun e w' ⟨g, cap, h1, h2, h3, h4⟩ => ⟨_, h1, .inr ⟨g, cap, rfl, h2, h3⟩, h4⟩
theorem rmodes_any (s : List UInt8) (w : World) : Calls Try.prog 30 #[.string (bA s)] w fun e w' => ∃ v, e = .returned v ∧ IV w' v (rmL s 13) ∧ Below w.heap.size w w' :=
  (refModes_any s w).mono fun e w' ⟨v, h1, h2, h3⟩ => ⟨v, h1, iv_own h2, h3⟩
/- the names, k of them spoilt -/
def spF (k i : Nat) : ByteArray := if i < k then ⟨#[115, 112, 111, 105, 108, 116]⟩ else mnF 56 i
theorem sp_step (k i : Nat) : (if i = k then ⟨#[115, 112, 111, 105, 108, 116]⟩ else spF k i) = spF (k + 1) i := by
  unfold spF
  by_cases h : i = k
  · subst h; rw [if_pos rfl, if_pos (by omega)]
  · rw [if_neg h]
    by_cases h2 : i < k
    · rw [if_pos h2, if_pos (by omega)]
    · rw [if_neg h2, if_neg (by omega)]
theorem un_bool2 {b : Bool} (h : some undef = some (Value.bool b)) : False := by simp [undef] at h
set_option maxRecDepth 100000 in
set_option maxHeartbeats 8000000 in
theorem names_go (SS : ByteArray) (x : Int) (N C K : Nat) (L : List Int) (B1 B2 : Bool)
    (H18 : Hid (∀ w, Calls Try.prog 18 #[.string SS] w fun e w' => e = .returned (.tuple #[.int .i64 (N : Int), .bool B1]) ∧ Below w.heap.size w w'))
    (H19 : Hid (∀ w, Calls Try.prog 19 #[.string SS] w fun e w' => e = .returned (.tuple #[.int .i64 (N : Int), .bool B1]) ∧ w' = w))
    (H20 : Hid (∀ w, Calls Try.prog 20 #[.string SS, .int .i64 x] w fun e w' => e = .returned (.tuple #[.int .u8 (C : Int), .bool B2]) ∧ Below w.heap.size w w'))
    (H21 : Hid (∀ w, Calls Try.prog 21 #[.string SS, .int .i64 x] w fun e w' => e = .returned (.tuple #[.int .u8 (C : Int), .bool B2]) ∧ Below w.heap.size w w'))
    (H25 : Hid (∀ w, Calls Try.prog 25 #[.string SS] w fun e w' => e = .returned (.bool B1) ∧ Below w.heap.size w w'))
    (H26 : Hid (∀ w, Calls Try.prog 26 #[.string SS] w fun e w' => e = .returned (.int .i64 (K : Int)) ∧ Below w.heap.size w w'))
    (H27 : Hid (∀ w, Calls Try.prog 27 #[.string SS] w fun e w' => e = .returned (.int .i64 (K : Int)) ∧ w' = w))
    (H29 : Hid (∀ w, Calls Try.prog 29 #[.string SS] w fun e w' => ∃ v, e = .returned v ∧ IV w' v L ∧ Below w.heap.size w w'))
    (H30 : Hid (∀ w, Calls Try.prog 30 #[.string SS] w fun e w' => ∃ v, e = .returned v ∧ IV w' v L ∧ Below w.heap.size w w'))
    (hL : Hid (L.length ≤ 1000)) (w : World) : Calls Try.prog 5 #[.string SS, .int .i64 x] w fun e w' => e = .returned (.bool true) ∧ Below w.heap.size w w' := by
  have H22 : Hid (∀ w, Calls Try.prog 22 #[] w fun e w' => ∃ g, e = .returned (.slice (some ⟨g, 0, none⟩) 56 56) ∧ w.heap.size ≤ g ∧ RowT w' g 56 (mnF 56) ∧ Below w.heap.size w w') := fun w => mnemonics_any w
  have H24 : Hid (∀ w, Calls Try.prog 24 #[] w fun e w' => ∃ g cap, e = .returned (.slice (some ⟨g, 0, none⟩) 56 cap) ∧ w.heap.size ≤ g ∧ g < w'.heap.size ∧ (∀ k, k < 56 → w'.cell? ⟨g, k, none⟩ = some (.string (bA (nmS (k + 1))))) ∧ Below w.heap.size w w') := fun w => refMn_any w
  have H13 : Hid (∀ w, Calls Try.prog 13 #[] w fun e w' => e = .returned (.bool true) ∧ Below w.heap.size w w') := fun w => live_any w
  go_enter Try.func5, Try.ntmps5
  go_wp2_with (first
    | (go_at_call 23; refine Calls.mono S23.out ?_; rintro e w7 ⟨rfl, b7⟩)
    | (go_at_call 24; refine (H24.out _).mono ?_; rintro e w6 ⟨g2, cap2, rfl, _, hg2, hc2, b6⟩; have S23 := hidD (sameTexts_any 56 (by decide) g1 g2 56 cap2 (fun k => bA (nmS (k + 1))) w6 (R1.out.next b6).lt hg2 (fun k hk => by rw [(R1.out.next b6).cell hk]; unfold mnF; rw [if_pos hk]) hc2); clear hc2)
    | (go_at_call 22; refine (H22.out _).mono ?_; rintro e w5 ⟨g1, rfl, g1s, r1, b5⟩; have R1 := hidD r1; have G1 := hidD (Nat.le_trans (Below.next (Below.next b2 b3) b4).size g1s); clear r1 g1s)
    | (go_at_call 21; refine (H21.out _).mono ?_; rintro e w4 ⟨rfl, b4⟩)
    | (go_at_call 20; refine (H20.out _).mono ?_; rintro e w3 ⟨rfl, b3⟩)
    | (go_at_call 19; refine (H19.out _).mono ?_; rintro e w2' ⟨rfl, rfl⟩)
    | (go_at_call 18; refine (H18.out _).mono ?_; rintro e w2 ⟨rfl, b2⟩))
  have HB := hidD (Below.next (Below.next (Below.next (Below.next (Below.next b2 b3) b4) b5) b6) b7)
  have HR := hidD ((R1.out.next b6).next b7)
  clear H18 H19 H20 H21 H22 H24 S23 R1 b2 b3 b4 b5 b6 b7
  go_loopw [14] (fun i wr => ∃ k : Nat, k ≤ 56 ∧ i = .int .i64 k ∧ RowT wr g1 56 (spF k) ∧ Below w.heap.size w wr) (fun i _ => 56 - (intOf i).toNat)
  case atStart => exact ⟨0, Nat.zero_le _, rfl, HR.out.congr (fun i _ => by unfold spF; rw [if_neg (by omega)]), HB.out⟩
  case round =>
    obtain ⟨k, hk, rfl, hrow, hbel⟩ := hrel
    have HRW := hidD hrow
    have HBL := hidD hbel
    clear hrow hbel HB HR
    by_cases hlt : k < 56
    · have hlti : (k : Int) < 56 := by omega
      have c1 := HRW.out.cell hlt
      have c2 := HRW.out.frozen k
      have HS := hidD (fun i (_ : i < 56) => sp_step k i)
      clear H25 H26 H27 H29 H30 H13 hL
      go_wp2_with fail
      go_roundw
      case rel => exact ⟨k + 1, by omega, by go_num, (HRW.out.set hlt _).congr HS.out, below_setCell HBL.out G1.out _ _⟩
      case measure => simp [intOf]; omega
    · obtain rfl : k = 56 := by omega
      have n1 : ((N : Int) == (N : Int)) = true := beq_self_eq_true _
      have n2 : ((C : Int) == (C : Int)) = true := beq_self_eq_true _
      have n3 : ((K : Int) == (K : Int)) = true := beq_self_eq_true _
      clear HRW
      cases B1 <;> cases B2
      all_goals
        go_wp2_with (first
          | (go_at_call 13; refine (H13.out _).mono ?_; rintro e wf ⟨rfl, bf⟩)
          | (go_at_call 28; refine Calls.mono S28.out ?_; rintro e we ⟨rfl, be⟩)
          | (go_at_call 30; refine (H30.out _).mono ?_; rintro e wd ⟨v2, rfl, i2, bd⟩; have S28 := hidD (same_iv hL.out (i1.next bd) i2); clear i2)
          | (go_at_call 29; refine (H29.out _).mono ?_; rintro e wc ⟨v1, rfl, i1, bc⟩)
          | (go_at_call 27; refine (H27.out _).mono ?_; rintro e wb' ⟨rfl, rfl⟩)
          | (go_at_call 26; refine (H26.out _).mono ?_; rintro e wb ⟨rfl, bb⟩)
          | (go_at_call 25; refine (H25.out _).mono ?_; rintro e wa ⟨rfl, ba⟩))
        all_goals first | exact (un_bool2 (by assumption)).elim | skip
        go_ret
        exact ⟨rfl, Below.next (Below.next (Below.next (Below.next (Below.next (Below.next HBL.out ba) bb) bc) bd) be) bf⟩
theorem names_any (s : List UInt8) (hs : s.length ≤ 140737488355328) (x : Int) (w : World) : Calls Try.prog 5 #[.string (bA s), .int .i64 x] w fun e w' => e = .returned (.bool true) ∧ Below w.heap.size w w' := by
  have hN : ∃ N : Nat, nuV (fiS s) = .tuple #[.int .i64 (N : Int), .bool (!(fiS s == 0))] := by
    unfold nuV
    by_cases h : fiS s = 0
    · rw [if_pos h, h]; exact ⟨0, rfl⟩
    · rw [if_neg h, beq_eq_false_iff_ne.2 h]; exact ⟨_, rfl⟩
  have hC : ∃ (C : Nat) (B : Bool), coV (fiS s) x = .tuple #[.int .u8 (C : Int), .bool B] := by
    unfold coV
    split
    · exact ⟨0, false, rfl⟩
    · exact ⟨_, true, rfl⟩
  obtain ⟨N, hN⟩ := hN
  obtain ⟨C, B, hC⟩ := hC
  refine names_go (bA s) x N C (clS (fiS s)) (rmL s 13) (!(fiS s == 0)) B (fun w => ?_) (fun w => ?_) (fun w => ?_) (fun w => ?_) (fun w => known_any s hs w) (fun w => class_any s hs w) (fun w => refClass_any s w) (fun w => modes_any s hs w) (fun w => rmodes_any s w) (Nat.le_trans (rmL_len s 13) (by decide)) w
  · rw [← hN]; exact number_any s hs w
  · rw [← hN]; exact refNumber_any s w
  · rw [← hC]; exact code_any s hs x w
  · rw [← hC]; exact refCode_any s x w
end Go.Proofs.Ytfecadongbmfhaa
