/- Texts of one proof, one behind the other. -/
import Derived.Test.YtdpkeffkpecmjaaRxd
import Derived.Test.YtdpkeffkpecmjaaRsu
/- What the document's calls answer: Field, New, fault, Generator. -/
namespace Go.Proofs.Ytdpkeffkpecmjaa
open Go.RowKit
set_option linter.unusedVariables false

set_option maxRecDepth 100000 in
theorem refField_any (w : World) : Calls Try.prog 37 #[] w fun e w' => ∃ b, e = .returned (.pointer (some ⟨b, 0, none⟩)) ∧ w.heap.size ≤ b ∧ RfAt w' b 29 2 ∧ Below w.heap.size w w' := by
  have HR := hidD (fun t => RfAt.new w 29 2 285 (by decide) t)
  have HAL : Hid (∀ (w' : World) o, Below w'.heap.size w' (w'.alloc o)) := fun w' o => (Below.refl _ _).alloc (Nat.le_refl _) o
  go_enter Try.func37, Try.ntmps37
  go_wp2_with fail
  go_ret
  exact ⟨_, rfl, Nat.le_refl _, HR.out _, HAL.out _ _⟩
/-- The document's code lies in a block. -/
structure RkAt (w : World) (c p f : Nat) : Prop where
  lt : c < w.heap.size
  c0 : w.cell? ⟨c, 0, none⟩ = some (.int .i64 p)
  c1 : w.cell? ⟨c, 1, none⟩ = some (.int .i64 f)
theorem RkAt.next {w w' : World} {c p f : Nat} (h : RkAt w c p f) (hb : Below w.heap.size w w') : RkAt w' c p f :=
  ⟨Nat.lt_of_lt_of_le h.lt hb.size, (hb.cell (p := ⟨c, 0, none⟩) h.lt).trans h.c0, (hb.cell (p := ⟨c, 1, none⟩) h.lt).trans h.c1⟩
theorem RkAt.new (w : World) (p f : Nat) (t : TypeId) : RkAt (w.alloc (.cells #[.int .i64 p, .int .i64 f] t)) w.heap.size p f := by
  have hh := heap_alloc_last w (.cells #[.int .i64 p, .int .i64 f] t)
  exact ⟨row_lt hh, by rw [cell_of_row _ _ _ _ _ _ hh]; rfl, by rw [cell_of_row _ _ _ _ _ _ hh]; rfl⟩
set_option maxRecDepth 100000 in
theorem rkNew_out (p f : Int) (h : ¬ (1 ≤ p ∧ p ≤ 254 ∧ 0 ≤ f ∧ f ≤ 254)) (w : World) : Calls Try.prog 33 #[.int .i64 p, .int .i64 f] w fun e w' => e = .returned (.tuple #[.pointer none, .int .i64 1]) ∧ Below w.heap.size w w' := by
  have HW : Hid (Below w.heap.size w w) := Below.refl _ _
  by_cases h1 : p < 1
  · go_enter Try.func33, Try.ntmps33
    go_wp2_with fail
    refine bodyPost_ret (v := .tuple #[.pointer none, .int .i64 1]) (by simp [results, Try.results33, go_sem]) rfl ?_
    exact ⟨rfl, HW.out⟩
  by_cases h2 : 254 < p
  · go_enter Try.func33, Try.ntmps33
    go_wp2_with fail
    refine bodyPost_ret (v := .tuple #[.pointer none, .int .i64 1]) (by simp [results, Try.results33, go_sem]) rfl ?_
    exact ⟨rfl, HW.out⟩
  by_cases h3 : f < 0
  · go_enter Try.func33, Try.ntmps33
    go_wp2_with fail
    refine bodyPost_ret (v := .tuple #[.pointer none, .int .i64 1]) (by simp [results, Try.results33, go_sem]) rfl ?_
    exact ⟨rfl, HW.out⟩
  have h4 : 254 < f := by omega
  clear h
  go_enter Try.func33, Try.ntmps33
  go_wp2_with fail
  refine bodyPost_ret (v := .tuple #[.pointer none, .int .i64 1]) (by simp [results, Try.results33, go_sem]) rfl ?_
  exact ⟨rfl, HW.out⟩
set_option maxRecDepth 100000 in
theorem rkNew_ok (p f : Nat) (h1 : 1 ≤ p) (h2 : p ≤ 254) (h3 : f ≤ 254) (w : World) : Calls Try.prog 33 #[.int .i64 p, .int .i64 f] w fun e w' => ∃ c, e = .returned (.tuple #[.pointer (some ⟨c, 0, none⟩), .int .i64 0]) ∧ RkAt w' c p f ∧ Below w.heap.size w w' := by
  have HN := hidD (fun t => RkAt.new w p f t)
  have HAL : Hid (∀ (w' : World) o, Below w'.heap.size w' (w'.alloc o)) := fun w' o => (Below.refl _ _).alloc (Nat.le_refl _) o
  have h1' : ¬ (p : Int) < 1 := by omega
  have h2' : ¬ (254 : Int) < p := by omega
  have h3' : ¬ (254 : Int) < f := by omega
  have h4' : ¬ (f : Int) < 0 := by omega
  go_enter Try.func33, Try.ntmps33
  go_wp2_with fail
  refine bodyPost_ret (v := .tuple #[.pointer (some ⟨w.heap.size, 0, none⟩), .int .i64 0]) (by simp [results, Try.results33, go_sem]) rfl ?_
  exact ⟨_, rfl, HN.out _, HAL.out _ _⟩
/-- The fault of a word's length. -/
def fauE (p n : Nat) : Int := if n ≤ p then 1 else if 255 < n then 3 else 0
set_option maxRecDepth 100000 in
theorem fault_any {c p f : Nat} (n : Nat) (a : Option Addr) (cap : Nat) (w : World) (hc : RkAt w c p f) : Calls Try.prog 41 #[.pointer (some ⟨c, 0, none⟩), .slice a n cap] w fun e w' => e = .returned (.int .i64 (fauE p n)) ∧ Below w.heap.size w w' := by
  have HW : Hid (Below w.heap.size w w) := Below.refl _ _
  have h0 := hc.c0
  by_cases h1 : n ≤ p
  · have h1' : (n : Int) ≤ p := by omega
    have HE : Hid (fauE p n = 1) := if_pos h1
    clear hc
    go_enter Try.func41, Try.ntmps41
    go_wp2_with fail
    go_ret
    exact ⟨by rw [HE.out]; rfl, HW.out⟩
  · have h1' : ¬ (n : Int) ≤ p := by omega
    by_cases h2 : 255 < n
    · have h2' : (255 : Int) < n := by omega
      have HE : Hid (fauE p n = 3) := (if_neg h1).trans (if_pos h2)
      clear hc
      go_enter Try.func41, Try.ntmps41
      go_wp2_with fail
      go_ret
      exact ⟨by rw [HE.out]; rfl, HW.out⟩
    · have h2' : ¬ (255 : Int) < n := by omega
      have HE : Hid (fauE p n = 0) := (if_neg h1).trans (if_neg h2)
      clear hc
      go_enter Try.func41, Try.ntmps41
      go_wp2_with fail
      go_ret
      exact ⟨by rw [HE.out]; rfl, HW.out⟩
set_option maxRecDepth 100000 in
theorem fault_nil (v : Value) (w : World) : Calls Try.prog 41 #[.pointer none, v] w fun e w' => e = .returned (.int .i64 2) ∧ Below w.heap.size w w' := by
  have HW : Hid (Below w.heap.size w w) := Below.refl _ _
  go_enter Try.func41, Try.ntmps41
  go_wp2_with fail
  go_ret
  exact ⟨rfl, HW.out⟩
set_option maxRecDepth 100000 in
theorem rkGen_nil (w : World) : Calls Try.prog 18 #[.pointer none] w fun e w' => e = .returned (.slice none 0 0) ∧ Below w.heap.size w w' := by
  have HW : Hid (Below w.heap.size w w) := Below.refl _ _
  go_enter Try.func18, Try.ntmps18
  go_wp2_with fail
  go_ret
  exact ⟨rfl, HW.out⟩
set_option maxRecDepth 100000 in
set_option maxHeartbeats 1600000 in
theorem rkGen_any {c p f : Nat} (hp : p ≤ 254) (hf : f ≤ 254) (w : World) (hc : RkAt w c p f) : Calls Try.prog 18 #[.pointer (some ⟨c, 0, none⟩)] w fun e w' => ∃ v, e = .returned v ∧ SlAt w' v (genTo f p) ∧ Below w.heap.size w w' := by
  have HF := hidD (refField_any w)
  have HCD := hidD hc
  have HX : Hid (∀ (b : Nat) (n : Int) (w : World), RfAt w b 29 2 → Calls Try.prog 43 #[.pointer (some ⟨b, 0, none⟩), .int .i64 n] w fun e w' => e = .returned (.int .u8 ((pwI 29 2 n).toNat : Int)) ∧ Below w.heap.size w w') := fun b n w hf => calls_below (refExp_any n w hf)
  have HT : Hid (∀ (k b : Nat) (vp vq : Value) (w : World), k < p → RfAt w b 29 2 → SlAt w vp (genTo f k) → SlAt w vq [pwI 29 2 ((f : Int) + (k : Int)), 1] → Calls Try.prog 45 #[.pointer (some ⟨b, 0, none⟩), vp, vq] w fun e w' => ∃ v, e = .returned v ∧ SlAt w' v (genTo f (k + 1)) ∧ Below w.heap.size w w') := fun k b vp vq w hk hf h1 h2 => by
    have hne : genTo f k ≠ [] := fun h => by have := (gen_ok f k).1; rw [h] at this; cases this
    have := refTimes_some (genTo f k) [pwI 29 2 ((f : Int) + (k : Int)), 1] hne (by simp) (by rw [(gen_ok f k).1]; simp; omega) vp vq w hf h1 h2
    rw [times_trim one_d] at this
    exact this
  have HS0 := hidD (fun w2 : World => sl_new w2 [1] #[.int .u8 1] 1 rfl rfl (by omega))
  have HSN := hidD (fun (w5 : World) (k : Nat) => sl_new w5 [pwI 29 2 ((f : Int) + (k : Int)), 1] #[.int .u8 ((pwI 29 2 ((f : Int) + (k : Int))).toNat : Int), .int .u8 1] 2 rfl rfl (by omega))
  have HAL : Hid (∀ (w' : World) o, Below w'.heap.size w' (w'.alloc o)) := fun w' o => (Below.refl _ _).alloc (Nat.le_refl _) o
  have HG0 : Hid (genTo f 0 = [1]) := rfl
  clear hc
  go_enter Try.func18, Try.ntmps18
  go_wp2_with (go_at_call 37; refine HF.out.mono ?_; rintro e w2 ⟨b, rfl, _, hf2, hb2⟩; have HF2 := hidD hf2; have HB2 := hidD hb2; clear hf2 hb2)
  go_loopw [4, 5] (fun g i wr => ∃ k : Nat, k ≤ p ∧ i = .int .i64 k ∧ SlAt wr g (genTo f k) ∧ Below w2.heap.size w2 wr) (fun _ i _ => p - (intOf i).toNat)
  case atStart => exact ⟨0, Nat.zero_le _, rfl, HS0.out _, HAL.out _ _⟩
  case round =>
    obtain ⟨k, hk, rfl, hsl, hbel⟩ := hrel
    have HSL := hidD hsl
    have HBL := hidD hbel
    have f0 : wr.cell? ⟨c, 0, none⟩ = some (.int .i64 p) := ((HCD.out.next (Below.next HB2.out hbel)).c0)
    have f1 : wr.cell? ⟨c, 1, none⟩ = some (.int .i64 f) := ((HCD.out.next (Below.next HB2.out hbel)).c1)
    clear hsl hbel
    by_cases hlt : k < p
    · have hlti : (k : Int) < p := by omega
      go_wp2_with (first
        | (go_at_call 43; refine (HX.out _ _ _ (HF2.out.next HBL.out)).mono ?_; rintro e w5 ⟨rfl, hb5⟩; have HB5 := hidD hb5; clear hb5)
        | (go_at_call 45; refine (HT.out k _ _ _ _ hlt ((HF2.out.next HBL.out).next (Below.next HB5.out (HAL.out _ _))) (HSL.out.next (Below.next HB5.out (HAL.out _ _))) (HSN.out _ k)).mono ?_; rintro e w6 ⟨v6, rfl, hs6, hb6⟩; have HS6 := hidD hs6; have HB6 := hidD (Below.next HB5.out (Below.next (HAL.out _ _) hb6)); clear hs6 hb6))
      go_roundw
      case rel => exact ⟨k + 1, by omega, by go_num, HS6.out, Below.next HBL.out HB6.out⟩
      case measure => simp [intOf]; omega
    · obtain rfl : k = p := by omega
      go_wp2_with fail
      go_ret
      exact ⟨_, rfl, HSL.out, Below.next HB2.out HBL.out⟩
end Go.Proofs.Ytdpkeffkpecmjaa
/- What the document's Syndromes and Good answer. -/
namespace Go.Proofs.Ytdpkeffkpecmjaa
open Go.RowKit
set_option linter.unusedVariables false

set_option maxRecDepth 100000 in
theorem rkSyn_nil (v : Value) (w : World) : Calls Try.prog 15 #[.pointer none, v] w fun e w' => e = .returned (.tuple #[.slice none 0 0, .int .i64 2]) ∧ Below w.heap.size w w' := by
  have HF := hidD (fault_nil v w)
  go_enter Try.func15, Try.ntmps15
  go_wp2_with (go_at_call 41; refine HF.out.mono ?_; rintro e w2 ⟨rfl, hb2⟩; have HB2 := hidD hb2; clear hb2)
  refine bodyPost_ret (v := .tuple #[.slice none 0 0, .int .i64 2]) (by simp [results, Try.results15, go_sem]) rfl ?_
  exact ⟨rfl, HB2.out⟩
set_option maxRecDepth 100000 in
theorem rkSyn_err {c p f : Nat} (word : List UInt8) (h : fauE p word.length ≠ 0) (v : Value) (w : World) (hc : RkAt w c p f) (hv : SlAt w v word) : Calls Try.prog 15 #[.pointer (some ⟨c, 0, none⟩), v] w fun e w' => e = .returned (.tuple #[.slice none 0 0, .int .i64 (fauE p word.length)]) ∧ Below w.heap.size w w' := by
  obtain ⟨⟨a, cap, rfl, _, _⟩, _⟩ := hv
  have HF := hidD (fault_any word.length a cap w hc)
  have hb : (fauE p word.length == 0) = false := beq_eq_false_iff_ne.2 h
  clear hc
  generalize fauE p word.length = E at *
  go_enter Try.func15, Try.ntmps15
  go_wp2_with (go_at_call 41; refine HF.out.mono ?_; rintro e w2 ⟨rfl, hb2⟩; have HB2 := hidD hb2; clear hb2)
  refine bodyPost_ret (v := .tuple #[.slice none 0 0, .int .i64 E]) (by simp [results, Try.results15, go_sem]) rfl ?_
  exact ⟨rfl, HB2.out⟩
/-- The first k syndromes. -/
def synK (f : Nat) (word : List UInt8) (k : Nat) : List UInt8 := (List.range k).map (syn f word)
theorem synK_next (f : Nat) (word : List UInt8) (k : Nat) : synK f word (k + 1) = synK f word k ++ [syn f word k] := by simp [synK, List.range_succ]
theorem synK_length (f : Nat) (word : List UInt8) (k : Nat) : (synK f word k).length = k := by simp [synK]
set_option maxRecDepth 100000 in
set_option maxHeartbeats 1600000 in
theorem rkSyn_ok {c p f : Nat} (hp : p ≤ 254) (hf : f ≤ 254) (word : List UInt8) (h : p < word.length) (h2 : word.length ≤ 255) (v : Value) (w : World) (hc : RkAt w c p f) (hv : SlAt w v word) : Calls Try.prog 15 #[.pointer (some ⟨c, 0, none⟩), v] w fun e w' => ∃ a k, e = .returned (.tuple #[.slice a p k, .int .i64 0]) ∧ SlAt w' (.slice a p k) (syns f p word) ∧ Below w.heap.size w w' := by
  have HV := hidD hv
  have HCD := hidD hc
  obtain ⟨⟨a, cap, rfl, _, _⟩, _⟩ := hv
  have HFA := hidD (fault_any word.length a cap w hc)
  rw [show fauE p word.length = 0 from (if_neg (by omega)).trans (if_neg (by omega))] at HFA
  have HFI := hidD refField_any
  have HTU := hidD (fun w' (h : Below w.heap.size w w') => turned_any word (by omega) _ w' (HV.out.next h))
  have HX : Hid (∀ (b : Nat) (n : Int) (w : World), RfAt w b 29 2 → Calls Try.prog 43 #[.pointer (some ⟨b, 0, none⟩), .int .i64 n] w fun e w' => e = .returned (.int .u8 ((pwI 29 2 n).toNat : Int)) ∧ Below w.heap.size w w') := fun b n w hf => calls_below (refExp_any n w hf)
  have HE : Hid (∀ (b k : Nat) (u : Value) (w : World), RfAt w b 29 2 → SlAt w u word.reverse → Calls Try.prog 42 #[.pointer (some ⟨b, 0, none⟩), u, .int .u8 ((pwI 29 2 ((f : Int) + (k : Int))).toNat : Int)] w fun e w' => e = .returned (.int .u8 ((syn f word k).toNat : Int)) ∧ Below w.heap.size w w') := fun b k u w hf hs => refEval_any word.reverse _ u w hf hs
  have HAL : Hid (∀ (w' : World) o, Below w'.heap.size w' (w'.alloc o)) := fun w' o => (Below.refl _ _).alloc (Nat.le_refl _) o
  have HBS : Hid (∀ (w' : World) (x : UInt8), ByAt (w'.alloc (.cells #[.int .u8 (x.toNat : Int)] (5 : TypeId))) (.slice (some ⟨w'.heap.size, 0, none⟩) 1 1) [x]) := fun w' x => (sl_new w' [x] _ 1 rfl rfl (by omega)).by'
  have HNX := hidD (synK_next f word)
  have HLN := hidD (synK_length f word)
  have HSY : Hid (synK f word p = syns f p word) := rfl
  clear hc
  generalize word.length = n at *
  go_enter Try.func15, Try.ntmps15
  go_wp2_with (first
    | (go_at_call 41; refine HFA.out.mono ?_; rintro e w2 ⟨rfl, hb2⟩; have HB2 := hidD hb2; clear hb2)
    | (go_at_call 37; refine (HFI.out _).mono ?_; rintro e w3 ⟨b, rfl, _, hf3, hb3⟩; have HF3 := hidD hf3; have HB3 := hidD (Below.next HB2.out hb3); clear hf3 hb3)
    | (go_at_call 36; refine (HTU.out _ HB3.out).mono ?_; rintro e w4 ⟨u, rfl, hu, hb4⟩; have HU4 := hidD hu; have HF4 := hidD (HF3.out.next hb4); have HB4 := hidD (Below.next HB3.out hb4); clear hu hb4))
  go_loopw [9, 10] (fun o i wr => ∃ k : Nat, k ≤ p ∧ i = .int .i64 k ∧ wr.ownsRow w4.heap.size 5 1 o k ((synK f word k).map encB) ∧ Below w4.heap.size w4 wr) (fun _ i _ => p - (intOf i).toNat)
  case atStart => exact ⟨0, Nat.zero_le _, rfl, World.ownsRow_nil _ _ _ _, Below.refl _ _⟩
  case round =>
    obtain ⟨k, hk, rfl, hown, hbel⟩ := hrel
    have HOW := hidD hown
    have HBW := hidD hbel
    have f0 : wr.cell? ⟨c, 0, none⟩ = some (.int .i64 p) := ((HCD.out.next (Below.next HB4.out hbel)).c0)
    have f1 : wr.cell? ⟨c, 1, none⟩ = some (.int .i64 f) := ((HCD.out.next (Below.next HB4.out hbel)).c1)
    clear hown hbel
    by_cases hlt : k < p
    · have hlti : (k : Int) < p := by omega
      have HN := hidD (HNX.out k)
      have HEK := hidD (HE.out b k)
      generalize hRR : (synK f word k).map encB = RR at *
      have HRR := hidD hRR
      clear hRR
      generalize syn f word k = sk at *
      go_wp2_with (first
        | (go_at_call 43; refine (HX.out _ _ _ (HF4.out.next HBW.out)).mono ?_; rintro e w5 ⟨rfl, hb5⟩; have HB5 := hidD hb5; clear hb5)
        | (go_at_call 42; refine (HEK.out _ _ ((HF4.out.next HBW.out).next HB5.out) ((HU4.out.next HBW.out).next HB5.out)).mono ?_; rintro e w6 ⟨rfl, hb6⟩; have HO6 := hidD (row_below HOW.out (Below.next HB5.out hb6)); have HB6 := hidD (Below.next HBW.out (Below.next HB5.out hb6)); clear hb6)
        | (at_builtin; refine wpList_append_by rfl _ _ rfl w4.heap.size u9 k RR rfl (HO6.out.alloc _) (.slice (some ⟨w6.heap.size, 0, none⟩) 1 1) [sk] rfl (HBS.out w6 sk) (by simp; omega) (by have := HB6.out.size; simp; omega) ?_; intro v8 w8 hown8 hg8; have HO8 := hidD hown8; have HB8 := hidD (row_grown (HO6.out.alloc _) (Below.next HB6.out (HAL.out _ _)) hg8 (by have := HB6.out.size; simp; omega)); clear hown8 hg8))
      go_roundw
      case rel => exact ⟨k + 1, by omega, by go_num, by rw [HN.out, List.map_append, HRR.out]; exact HO8.out, HB8.out⟩
      case measure => simp [intOf]; omega
    · obtain rfl : k = p := by omega
      obtain ⟨a9, c9, hu9⟩ := row_shape HOW.out
      subst hu9
      have HSS : Hid (SlAt wr (.slice a9 k c9) (syns f k word)) := by
        refine sl_of_own (base := w4.heap.size) ?_
        rw [← HSY.out, HLN.out]; exact HOW.out
      go_wp2_with fail
      refine bodyPost_ret (v := .tuple #[.slice a9 k c9, .int .i64 0]) (by simp [results, Try.results15, go_sem]) rfl ?_
      exact ⟨a9, c9, rfl, HSS.out, Below.next HB4.out HBW.out⟩
set_option maxRecDepth 100000 in
theorem rkGood_nil (v : Value) (w : World) : Calls Try.prog 20 #[.pointer none, v] w fun e w' => e = .returned (.bool false) ∧ Below w.heap.size w w' := by
  have HF := hidD (rkSyn_nil v w)
  go_enter Try.func20, Try.ntmps20
  go_wp2_with (go_at_call 15; refine HF.out.mono ?_; rintro e w2 ⟨rfl, hb2⟩; have HB2 := hidD hb2; clear hb2)
  go_ret
  exact ⟨rfl, HB2.out⟩
theorem trim_good {f p : Nat} {word : List UInt8} (h : p < word.length) (h2 : word.length ≤ 255) : ((trimS (syns f p word)).length == 0) = goodS f p word := by
  unfold goodS
  rw [decide_eq_true h, decide_eq_true h2]
  simp only [Bool.true_and]
  cases ha : (syns f p word).all (· == 0) with
  | true =>
    have hz : ∀ k, cf (syns f p word) k = 0 := fun k => by
      by_cases hk : k < (syns f p word).length
      · have := List.all_eq_true.1 ha (cf (syns f p word) k) (by
          unfold cf
          rw [List.getD_eq_getElem?_getD, List.getElem?_eq_getElem hk]
          exact List.getElem_mem hk)
        exact beq_iff_eq.1 this
      · exact cf_ge (by omega)
    rw [trim_none hz]; rfl
  | false =>
    refine beq_eq_false_iff_ne.2 fun hl => ?_
    have hz := trim_nil (List.length_eq_zero_iff.1 hl)
    rw [all_to (fun i _ => hz i)] at ha
    cases ha
set_option maxRecDepth 100000 in
theorem rkGood_any {c p f : Nat} (hp : p ≤ 254) (hf : f ≤ 254) (word : List UInt8) (v : Value) (w : World) (hc : RkAt w c p f) (hv : SlAt w v word) : Calls Try.prog 20 #[.pointer (some ⟨c, 0, none⟩), v] w fun e w' => e = .returned (.bool (goodS f p word)) ∧ Below w.heap.size w w' := by
  by_cases hE : fauE p word.length = 0
  · have hl : p < word.length ∧ word.length ≤ 255 := by
      unfold fauE at hE
      split at hE
      · cases hE
      · split at hE
        · cases hE
        · omega
    have HF := hidD (rkSyn_ok hp hf word hl.1 hl.2 v w hc hv)
    have HT : Hid (∀ w u, SlAt w u (syns f p word) → Calls Try.prog 46 #[u] w fun e w' => ∃ a k, e = .returned (.slice a (trimS (syns f p word)).length k) ∧ Below w.heap.size w w') := fun w u hs => (refTrim_any _ (by simp [syns]; omega) u w hs).mono fun e w' ⟨v, h1, h2, h3⟩ => by
      obtain ⟨⟨a, k, hv, _, _⟩, _⟩ := h2
      exact ⟨a, k, by rw [h1, hv], h3⟩
    have HG := hidD (trim_good (f := f) hl.1 hl.2)
    clear hc hv hE
    have hzi : (((trimS (syns f p word)).length : Int) == 0) = ((trimS (syns f p word)).length == 0) := by
      by_cases h : (trimS (syns f p word)).length = 0
      · rw [h]; rfl
      · rw [beq_eq_false_iff_ne.2 h]; exact beq_eq_false_iff_ne.2 (by omega)
    rw [HG.out] at hzi
    generalize (trimS (syns f p word)).length = L at *
    generalize goodS f p word = G at *
    go_enter Try.func20, Try.ntmps20
    go_wp2_with (first
      | (go_at_call 15; refine HF.out.mono ?_; rintro e w2 ⟨a2, k2, rfl, hs2, hb2⟩; have HS2 := hidD hs2; have HB2 := hidD hb2; clear hb2 hs2)
      | (go_at_call 46; refine (HT.out _ _ HS2.out).mono ?_; rintro e w3 ⟨a3, k3, rfl, hb3⟩; have HB3 := hidD (Below.next HB2.out hb3); clear hb3))
    go_ret
    exact ⟨by first | rfl | (rw [← hzi]; rfl), HB3.out⟩
  · have HF := hidD (rkSyn_err word hE v w hc hv)
    have HG : Hid (goodS f p word = false) := by
      show _ = _
      unfold goodS
      unfold fauE at hE
      by_cases h1 : p < word.length
      · by_cases h2 : word.length ≤ 255
        · rw [if_neg (by omega), if_neg (by omega)] at hE
          exact absurd rfl hE
        · rw [decide_eq_false h2]; simp
      · rw [decide_eq_false h1]; rfl
    have hb : (fauE p word.length == 0) = false := beq_eq_false_iff_ne.2 hE
    clear hc hv
    generalize fauE p word.length = E at *
    go_enter Try.func20, Try.ntmps20
    go_wp2_with (go_at_call 15; refine HF.out.mono ?_; rintro e w2 ⟨rfl, hb2⟩; have HB2 := hidD hb2; clear hb2)
    go_ret
    exact ⟨by rw [HG.out]; rfl, HB2.out⟩
end Go.Proofs.Ytdpkeffkpecmjaa
