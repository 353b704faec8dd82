/- Texts of one proof, one behind the other. -/
import Derived.Test.YtdpkeffkpecmjaaRst
import Derived.Test.YtdpkeffkpecmjaaGm
import Derived.Test.YtdpkeffkpecmjaaGx
import Derived.Deep.RegionWith
import Derived.Deep.CutRange
/- What Turned answers; RsNils. -/
namespace Go.Proofs.Ytdpkeffkpecmjaa
open Go.RowKit
set_option linter.unusedVariables false

theorem rev_step (l : List UInt8) (j : Nat) (h : j < l.length) : (l.drop j).reverse = (l.drop (j + 1)).reverse ++ [cf l j] := by
  rw [← List.getElem_cons_drop h, List.reverse_cons]
  unfold cf
  rw [List.getD_eq_getElem?_getD, List.getElem?_eq_getElem h]; rfl
set_option maxRecDepth 100000 in
set_option maxHeartbeats 1600000 in
theorem turned_any (word : List UInt8) (hl : word.length ≤ 65536) (v : Value) (w : World) (hv : SlAt w v word) : Calls Try.prog 36 #[v] w fun e w' => ∃ u, e = .returned u ∧ SlAt w' u word.reverse ∧ Below w.heap.size w w' := by
  have HV := hidD hv
  obtain ⟨⟨a, ca, rfl, hca1, hca2⟩, hby⟩ := hv
  have HAL : Hid (∀ (w' : World) o, Below w'.heap.size w' (w'.alloc o)) := fun w' o => (Below.refl _ _).alloc (Nat.le_refl _) o
  have HST := hidD (rev_step word)
  have HD0 : Hid (word.drop 0 = word) := rfl
  have HDN : Hid ((word.drop word.length).reverse = []) := by show _ = _; simp
  have HRL : Hid (∀ m, ((word.drop m).reverse).length = word.length - m) := fun m => by simp
  clear hby
  generalize hnn : word.length = n at *
  go_enter Try.func36, Try.ntmps36
  go_wp2_with fail
  go_loopw [3, 4] (fun o i wr => ∃ m : Nat, m ≤ n ∧ i = .int .i64 ((m : Int) - 1) ∧ wr.ownsRow w.heap.size 5 1 o ((word.drop m).reverse).length (((word.drop m).reverse).map encB) ∧ Below w.heap.size w wr) (fun _ i _ => (intOf i + 1).toNat)
  case atStart => exact ⟨n, Nat.le_refl _, rfl, by rw [HDN.out]; exact World.ownsRow_nil _ _ _ _, Below.refl _ _⟩
  case round =>
    obtain ⟨m, hm, rfl, hown, hbel⟩ := hrel
    have HBW := hidD hbel
    have HOW := hidD hown
    clear hown
    cases m with
    | zero =>
      rw [show (((0 : Nat) : Int) - 1) = -1 by omega] at *
      clear hbel
      go_wp2_with fail
      go_ret
      exact ⟨_, rfl, by have := sl_of_own HOW.out; rw [HD0.out] at this; exact this, HBW.out⟩
    | succ j =>
      rw [show (((j + 1 : Nat) : Int) - 1) = (j : Int) by omega] at *
      have hj : j < n := by omega
      have hji : (j : Int) < n := by omega
      have HN := hidD (HST.out j hj)
      have HL := hidD (HRL.out (j + 1))
      obtain ⟨g, o, cap, hv', hg, hcell⟩ : ∃ g o cap, Value.slice a n ca = .slice (some ⟨g, o, none⟩) n cap ∧ g < w.heap.size ∧ ∀ j, j < n → w.cell? ⟨g, o + j, none⟩ = some (encB (word.getD j 0)) := by
        rcases HV.out.by' with ⟨h0, _⟩ | h
        · rw [h0] at hnn; simp at hnn; omega
        · rw [hnn] at h; exact h
      injection hv' with h1 h2 h3
      subst h1 h3
      have f1 : wr.cell? ⟨g, o + j, none⟩ = some (.int .u8 ((cf word j).toNat : Int)) := (hbel.cell (p := ⟨g, o + j, none⟩) hg).trans (hcell j hj)
      have HBS : Hid (∀ w' : World, ByAt (w'.alloc (.cells #[.int .u8 ((cf word j).toNat : Int)] (5 : TypeId))) (.slice (some ⟨w'.heap.size, 0, none⟩) 1 1) [cf word j]) := fun w' => (sl_new w' [cf word j] _ 1 rfl rfl (by omega)).by'
      clear hcell hbel
      generalize (word.drop (j + 1)).reverse = L at *
      generalize cf word j = x at *
      go_wp2_with (at_builtin; refine wpList_append_by rfl _ _ rfl w.heap.size u3 L.length (L.map encB) rfl (HOW.out.alloc _) (.slice (some ⟨wr.heap.size, 0, none⟩) 1 1) [x] rfl (HBS.out wr) (by have := HL.out; simp; omega) (by have := HBW.out.size; simp; omega) ?_; intro v8 w8 hown8 hg8; have HO8 := hidD hown8; have HB8 := hidD (row_grown (HOW.out.alloc _) (Below.next HBW.out (HAL.out _ _)) hg8 (by have := HBW.out.size; simp; omega)); clear hown8 hg8)
      go_roundw
      case rel => exact ⟨j, by omega, by go_num, by rw [HN.out, List.length_append, List.map_append]; exact HO8.out, HB8.out⟩
      case measure => simp [intOf]
end Go.Proofs.Ytdpkeffkpecmjaa
/- What the document's calls answer: Field, New, fault, Generator. -/
namespace Go.Proofs.Ytdpkeffkpecmjaa
open Go.RowKit
set_option linter.unusedVariables false

set_option maxRecDepth 100000 in
theorem refField_any (w : World) : Calls Try.prog 37 #[] w fun e w' => ∃ b, e = .returned (.pointer (some ⟨b, 0, none⟩)) ∧ w.heap.size ≤ b ∧ RfAt w' b 29 2 ∧ Below w.heap.size w w' := by
  have HR := hidD (fun t => RfAt.new w 29 2 285 (by decide) t)
  have HAL : Hid (∀ (w' : World) o, Below w'.heap.size w' (w'.alloc o)) := fun w' o => (Below.refl _ _).alloc (Nat.le_refl _) o
  go_enter Try.func37, Try.ntmps37
  go_wp2_with fail
  go_ret
  exact ⟨_, rfl, Nat.le_refl _, HR.out _, HAL.out _ _⟩
/-- The document's code lies in a block. -/
structure RkAt (w : World) (c p f : Nat) : Prop where
  lt : c < w.heap.size
  c0 : w.cell? ⟨c, 0, none⟩ = some (.int .i64 p)
  c1 : w.cell? ⟨c, 1, none⟩ = some (.int .i64 f)
theorem RkAt.next {w w' : World} {c p f : Nat} (h : RkAt w c p f) (hb : Below w.heap.size w w') : RkAt w' c p f :=
  ⟨Nat.lt_of_lt_of_le h.lt hb.size, (hb.cell (p := ⟨c, 0, none⟩) h.lt).trans h.c0, (hb.cell (p := ⟨c, 1, none⟩) h.lt).trans h.c1⟩
theorem RkAt.new (w : World) (p f : Nat) (t : TypeId) : RkAt (w.alloc (.cells #[.int .i64 p, .int .i64 f] t)) w.heap.size p f := by
  have hh := heap_alloc_last w (.cells #[.int .i64 p, .int .i64 f] t)
  exact ⟨row_lt hh, by rw [cell_of_row _ _ _ _ _ _ hh]; rfl, by rw [cell_of_row _ _ _ _ _ _ hh]; rfl⟩
set_option maxRecDepth 100000 in
theorem rkNew_out (p f : Int) (h : ¬ (1 ≤ p ∧ p ≤ 254 ∧ 0 ≤ f ∧ f ≤ 254)) (w : World) : Calls Try.prog 33 #[.int .i64 p, .int .i64 f] w fun e w' => e = .returned (.tuple #[.pointer none, .int .i64 1]) ∧ Below w.heap.size w w' := by
  have HW : Hid (Below w.heap.size w w) := Below.refl _ _
  by_cases h1 : p < 1
  · go_enter Try.func33, Try.ntmps33
    go_wp2_with fail
    refine bodyPost_ret (v := .tuple #[.pointer none, .int .i64 1]) (by simp [results, Try.results33, go_sem]) rfl ?_
    exact ⟨rfl, HW.out⟩
  by_cases h2 : 254 < p
  · go_enter Try.func33, Try.ntmps33
    go_wp2_with fail
    refine bodyPost_ret (v := .tuple #[.pointer none, .int .i64 1]) (by simp [results, Try.results33, go_sem]) rfl ?_
    exact ⟨rfl, HW.out⟩
  by_cases h3 : f < 0
  · go_enter Try.func33, Try.ntmps33
    go_wp2_with fail
    refine bodyPost_ret (v := .tuple #[.pointer none, .int .i64 1]) (by simp [results, Try.results33, go_sem]) rfl ?_
    exact ⟨rfl, HW.out⟩
  have h4 : 254 < f := by omega
  clear h
  go_enter Try.func33, Try.ntmps33
  go_wp2_with fail
  refine bodyPost_ret (v := .tuple #[.pointer none, .int .i64 1]) (by simp [results, Try.results33, go_sem]) rfl ?_
  exact ⟨rfl, HW.out⟩
set_option maxRecDepth 100000 in
theorem rkNew_ok (p f : Nat) (h1 : 1 ≤ p) (h2 : p ≤ 254) (h3 : f ≤ 254) (w : World) : Calls Try.prog 33 #[.int .i64 p, .int .i64 f] w fun e w' => ∃ c, e = .returned (.tuple #[.pointer (some ⟨c, 0, none⟩), .int .i64 0]) ∧ RkAt w' c p f ∧ Below w.heap.size w w' := by
  have HN := hidD (fun t => RkAt.new w p f t)
  have HAL : Hid (∀ (w' : World) o, Below w'.heap.size w' (w'.alloc o)) := fun w' o => (Below.refl _ _).alloc (Nat.le_refl _) o
  have h1' : ¬ (p : Int) < 1 := by omega
  have h2' : ¬ (254 : Int) < p := by omega
  have h3' : ¬ (254 : Int) < f := by omega
  have h4' : ¬ (f : Int) < 0 := by omega
  go_enter Try.func33, Try.ntmps33
  go_wp2_with fail
  refine bodyPost_ret (v := .tuple #[.pointer (some ⟨w.heap.size, 0, none⟩), .int .i64 0]) (by simp [results, Try.results33, go_sem]) rfl ?_
  exact ⟨_, rfl, HN.out _, HAL.out _ _⟩
/-- The fault of a word's length. -/
def fauE (p n : Nat) : Int := if n ≤ p then 1 else if 255 < n then 3 else 0
set_option maxRecDepth 100000 in
theorem fault_any {c p f : Nat} (n : Nat) (a : Option Addr) (cap : Nat) (w : World) (hc : RkAt w c p f) : Calls Try.prog 41 #[.pointer (some ⟨c, 0, none⟩), .slice a n cap] w fun e w' => e = .returned (.int .i64 (fauE p n)) ∧ Below w.heap.size w w' := by
  have HW : Hid (Below w.heap.size w w) := Below.refl _ _
  have h0 := hc.c0
  by_cases h1 : n ≤ p
  · have h1' : (n : Int) ≤ p := by omega
    have HE : Hid (fauE p n = 1) := if_pos h1
    clear hc
    go_enter Try.func41, Try.ntmps41
    go_wp2_with fail
    go_ret
    exact ⟨by rw [HE.out]; rfl, HW.out⟩
  · have h1' : ¬ (n : Int) ≤ p := by omega
    by_cases h2 : 255 < n
    · have h2' : (255 : Int) < n := by omega
      have HE : Hid (fauE p n = 3) := (if_neg h1).trans (if_pos h2)
      clear hc
      go_enter Try.func41, Try.ntmps41
      go_wp2_with fail
      go_ret
      exact ⟨by rw [HE.out]; rfl, HW.out⟩
    · have h2' : ¬ (255 : Int) < n := by omega
      have HE : Hid (fauE p n = 0) := (if_neg h1).trans (if_neg h2)
      clear hc
      go_enter Try.func41, Try.ntmps41
      go_wp2_with fail
      go_ret
      exact ⟨by rw [HE.out]; rfl, HW.out⟩
set_option maxRecDepth 100000 in
theorem fault_nil (v : Value) (w : World) : Calls Try.prog 41 #[.pointer none, v] w fun e w' => e = .returned (.int .i64 2) ∧ Below w.heap.size w w' := by
  have HW : Hid (Below w.heap.size w w) := Below.refl _ _
  go_enter Try.func41, Try.ntmps41
  go_wp2_with fail
  go_ret
  exact ⟨rfl, HW.out⟩
set_option maxRecDepth 100000 in
theorem rkGen_nil (w : World) : Calls Try.prog 18 #[.pointer none] w fun e w' => e = .returned (.slice none 0 0) ∧ Below w.heap.size w w' := by
  have HW : Hid (Below w.heap.size w w) := Below.refl _ _
  go_enter Try.func18, Try.ntmps18
  go_wp2_with fail
  go_ret
  exact ⟨rfl, HW.out⟩
set_option maxRecDepth 100000 in
set_option maxHeartbeats 1600000 in
theorem rkGen_any {c p f : Nat} (hp : p ≤ 254) (hf : f ≤ 254) (w : World) (hc : RkAt w c p f) : Calls Try.prog 18 #[.pointer (some ⟨c, 0, none⟩)] w fun e w' => ∃ v, e = .returned v ∧ SlAt w' v (genTo f p) ∧ Below w.heap.size w w' := by
  have HF := hidD (refField_any w)
  have HCD := hidD hc
  have HX : Hid (∀ (b : Nat) (n : Int) (w : World), RfAt w b 29 2 → Calls Try.prog 43 #[.pointer (some ⟨b, 0, none⟩), .int .i64 n] w fun e w' => e = .returned (.int .u8 ((pwI 29 2 n).toNat : Int)) ∧ Below w.heap.size w w') := fun b n w hf => calls_below (refExp_any n w hf)
  have HT : Hid (∀ (k b : Nat) (vp vq : Value) (w : World), k < p → RfAt w b 29 2 → SlAt w vp (genTo f k) → SlAt w vq [pwI 29 2 ((f : Int) + (k : Int)), 1] → Calls Try.prog 45 #[.pointer (some ⟨b, 0, none⟩), vp, vq] w fun e w' => ∃ v, e = .returned v ∧ SlAt w' v (genTo f (k + 1)) ∧ Below w.heap.size w w') := fun k b vp vq w hk hf h1 h2 => by
    have hne : genTo f k ≠ [] := fun h => by have := (gen_ok f k).1; rw [h] at this; cases this
    have := refTimes_some (genTo f k) [pwI 29 2 ((f : Int) + (k : Int)), 1] hne (by simp) (by rw [(gen_ok f k).1]; simp; omega) vp vq w hf h1 h2
    rw [times_trim one_d] at this
    exact this
  have HS0 := hidD (fun w2 : World => sl_new w2 [1] #[.int .u8 1] 1 rfl rfl (by omega))
  have HSN := hidD (fun (w5 : World) (k : Nat) => sl_new w5 [pwI 29 2 ((f : Int) + (k : Int)), 1] #[.int .u8 ((pwI 29 2 ((f : Int) + (k : Int))).toNat : Int), .int .u8 1] 2 rfl rfl (by omega))
  have HAL : Hid (∀ (w' : World) o, Below w'.heap.size w' (w'.alloc o)) := fun w' o => (Below.refl _ _).alloc (Nat.le_refl _) o
  have HG0 : Hid (genTo f 0 = [1]) := rfl
  clear hc
  go_enter Try.func18, Try.ntmps18
  go_wp2_with (go_at_call 37; refine HF.out.mono ?_; rintro e w2 ⟨b, rfl, _, hf2, hb2⟩; have HF2 := hidD hf2; have HB2 := hidD hb2; clear hf2 hb2)
  go_loopw [4, 5] (fun g i wr => ∃ k : Nat, k ≤ p ∧ i = .int .i64 k ∧ SlAt wr g (genTo f k) ∧ Below w2.heap.size w2 wr) (fun _ i _ => p - (intOf i).toNat)
  case atStart => exact ⟨0, Nat.zero_le _, rfl, HS0.out _, HAL.out _ _⟩
  case round =>
    obtain ⟨k, hk, rfl, hsl, hbel⟩ := hrel
    have HSL := hidD hsl
    have HBL := hidD hbel
    have f0 : wr.cell? ⟨c, 0, none⟩ = some (.int .i64 p) := ((HCD.out.next (Below.next HB2.out hbel)).c0)
    have f1 : wr.cell? ⟨c, 1, none⟩ = some (.int .i64 f) := ((HCD.out.next (Below.next HB2.out hbel)).c1)
    clear hsl hbel
    by_cases hlt : k < p
    · have hlti : (k : Int) < p := by omega
      go_wp2_with (first
        | (go_at_call 43; refine (HX.out _ _ _ (HF2.out.next HBL.out)).mono ?_; rintro e w5 ⟨rfl, hb5⟩; have HB5 := hidD hb5; clear hb5)
        | (go_at_call 45; refine (HT.out k _ _ _ _ hlt ((HF2.out.next HBL.out).next (Below.next HB5.out (HAL.out _ _))) (HSL.out.next (Below.next HB5.out (HAL.out _ _))) (HSN.out _ k)).mono ?_; rintro e w6 ⟨v6, rfl, hs6, hb6⟩; have HS6 := hidD hs6; have HB6 := hidD (Below.next HB5.out (Below.next (HAL.out _ _) hb6)); clear hs6 hb6))
      go_roundw
      case rel => exact ⟨k + 1, by omega, by go_num, HS6.out, Below.next HBL.out HB6.out⟩
      case measure => simp [intOf]; omega
    · obtain rfl : k = p := by omega
      go_wp2_with fail
      go_ret
      exact ⟨_, rfl, HSL.out, Below.next HB2.out HBL.out⟩
end Go.Proofs.Ytdpkeffkpecmjaa
/- What the document's Syndromes and Good answer. -/
namespace Go.Proofs.Ytdpkeffkpecmjaa
open Go.RowKit
set_option linter.unusedVariables false

set_option maxRecDepth 100000 in
theorem rkSyn_nil (v : Value) (w : World) : Calls Try.prog 15 #[.pointer none, v] w fun e w' => e = .returned (.tuple #[.slice none 0 0, .int .i64 2]) ∧ Below w.heap.size w w' := by
  have HF := hidD (fault_nil v w)
  go_enter Try.func15, Try.ntmps15
  go_wp2_with (go_at_call 41; refine HF.out.mono ?_; rintro e w2 ⟨rfl, hb2⟩; have HB2 := hidD hb2; clear hb2)
  refine bodyPost_ret (v := .tuple #[.slice none 0 0, .int .i64 2]) (by simp [results, Try.results15, go_sem]) rfl ?_
  exact ⟨rfl, HB2.out⟩
set_option maxRecDepth 100000 in
theorem rkSyn_err {c p f : Nat} (word : List UInt8) (h : fauE p word.length ≠ 0) (v : Value) (w : World) (hc : RkAt w c p f) (hv : SlAt w v word) : Calls Try.prog 15 #[.pointer (some ⟨c, 0, none⟩), v] w fun e w' => e = .returned (.tuple #[.slice none 0 0, .int .i64 (fauE p word.length)]) ∧ Below w.heap.size w w' := by
  obtain ⟨⟨a, cap, rfl, _, _⟩, _⟩ := hv
  have HF := hidD (fault_any word.length a cap w hc)
  have hb : (fauE p word.length == 0) = false := beq_eq_false_iff_ne.2 h
  clear hc
  generalize fauE p word.length = E at *
  go_enter Try.func15, Try.ntmps15
  go_wp2_with (go_at_call 41; refine HF.out.mono ?_; rintro e w2 ⟨rfl, hb2⟩; have HB2 := hidD hb2; clear hb2)
  refine bodyPost_ret (v := .tuple #[.slice none 0 0, .int .i64 E]) (by simp [results, Try.results15, go_sem]) rfl ?_
  exact ⟨rfl, HB2.out⟩
/-- The first k syndromes. -/
def synK (f : Nat) (word : List UInt8) (k : Nat) : List UInt8 := (List.range k).map (syn f word)
theorem synK_next (f : Nat) (word : List UInt8) (k : Nat) : synK f word (k + 1) = synK f word k ++ [syn f word k] := by simp [synK, List.range_succ]
theorem synK_length (f : Nat) (word : List UInt8) (k : Nat) : (synK f word k).length = k := by simp [synK]
set_option maxRecDepth 100000 in
set_option maxHeartbeats 1600000 in
theorem rkSyn_ok {c p f : Nat} (hp : p ≤ 254) (hf : f ≤ 254) (word : List UInt8) (h : p < word.length) (h2 : word.length ≤ 255) (v : Value) (w : World) (hc : RkAt w c p f) (hv : SlAt w v word) : Calls Try.prog 15 #[.pointer (some ⟨c, 0, none⟩), v] w fun e w' => ∃ a k, e = .returned (.tuple #[.slice a p k, .int .i64 0]) ∧ SlAt w' (.slice a p k) (syns f p word) ∧ Below w.heap.size w w' := by
  have HV := hidD hv
  have HCD := hidD hc
  obtain ⟨⟨a, cap, rfl, _, _⟩, _⟩ := hv
  have HFA := hidD (fault_any word.length a cap w hc)
  rw [show fauE p word.length = 0 from (if_neg (by omega)).trans (if_neg (by omega))] at HFA
  have HFI := hidD refField_any
  have HTU := hidD (fun w' (h : Below w.heap.size w w') => turned_any word (by omega) _ w' (HV.out.next h))
  have HX : Hid (∀ (b : Nat) (n : Int) (w : World), RfAt w b 29 2 → Calls Try.prog 43 #[.pointer (some ⟨b, 0, none⟩), .int .i64 n] w fun e w' => e = .returned (.int .u8 ((pwI 29 2 n).toNat : Int)) ∧ Below w.heap.size w w') := fun b n w hf => calls_below (refExp_any n w hf)
  have HE : Hid (∀ (b k : Nat) (u : Value) (w : World), RfAt w b 29 2 → SlAt w u word.reverse → Calls Try.prog 42 #[.pointer (some ⟨b, 0, none⟩), u, .int .u8 ((pwI 29 2 ((f : Int) + (k : Int))).toNat : Int)] w fun e w' => e = .returned (.int .u8 ((syn f word k).toNat : Int)) ∧ Below w.heap.size w w') := fun b k u w hf hs => refEval_any word.reverse _ u w hf hs
  have HAL : Hid (∀ (w' : World) o, Below w'.heap.size w' (w'.alloc o)) := fun w' o => (Below.refl _ _).alloc (Nat.le_refl _) o
  have HBS : Hid (∀ (w' : World) (x : UInt8), ByAt (w'.alloc (.cells #[.int .u8 (x.toNat : Int)] (5 : TypeId))) (.slice (some ⟨w'.heap.size, 0, none⟩) 1 1) [x]) := fun w' x => (sl_new w' [x] _ 1 rfl rfl (by omega)).by'
  have HNX := hidD (synK_next f word)
  have HLN := hidD (synK_length f word)
  have HSY : Hid (synK f word p = syns f p word) := rfl
  clear hc
  generalize word.length = n at *
  go_enter Try.func15, Try.ntmps15
  go_wp2_with (first
    | (go_at_call 41; refine HFA.out.mono ?_; rintro e w2 ⟨rfl, hb2⟩; have HB2 := hidD hb2; clear hb2)
    | (go_at_call 37; refine (HFI.out _).mono ?_; rintro e w3 ⟨b, rfl, _, hf3, hb3⟩; have HF3 := hidD hf3; have HB3 := hidD (Below.next HB2.out hb3); clear hf3 hb3)
    | (go_at_call 36; refine (HTU.out _ HB3.out).mono ?_; rintro e w4 ⟨u, rfl, hu, hb4⟩; have HU4 := hidD hu; have HF4 := hidD (HF3.out.next hb4); have HB4 := hidD (Below.next HB3.out hb4); clear hu hb4))
  go_loopw [9, 10] (fun o i wr => ∃ k : Nat, k ≤ p ∧ i = .int .i64 k ∧ wr.ownsRow w4.heap.size 5 1 o k ((synK f word k).map encB) ∧ Below w4.heap.size w4 wr) (fun _ i _ => p - (intOf i).toNat)
  case atStart => exact ⟨0, Nat.zero_le _, rfl, World.ownsRow_nil _ _ _ _, Below.refl _ _⟩
  case round =>
    obtain ⟨k, hk, rfl, hown, hbel⟩ := hrel
    have HOW := hidD hown
    have HBW := hidD hbel
    have f0 : wr.cell? ⟨c, 0, none⟩ = some (.int .i64 p) := ((HCD.out.next (Below.next HB4.out hbel)).c0)
    have f1 : wr.cell? ⟨c, 1, none⟩ = some (.int .i64 f) := ((HCD.out.next (Below.next HB4.out hbel)).c1)
    clear hown hbel
    by_cases hlt : k < p
    · have hlti : (k : Int) < p := by omega
      have HN := hidD (HNX.out k)
      have HEK := hidD (HE.out b k)
      generalize hRR : (synK f word k).map encB = RR at *
      have HRR := hidD hRR
      clear hRR
      generalize syn f word k = sk at *
      go_wp2_with (first
        | (go_at_call 43; refine (HX.out _ _ _ (HF4.out.next HBW.out)).mono ?_; rintro e w5 ⟨rfl, hb5⟩; have HB5 := hidD hb5; clear hb5)
        | (go_at_call 42; refine (HEK.out _ _ ((HF4.out.next HBW.out).next HB5.out) ((HU4.out.next HBW.out).next HB5.out)).mono ?_; rintro e w6 ⟨rfl, hb6⟩; have HO6 := hidD (row_below HOW.out (Below.next HB5.out hb6)); have HB6 := hidD (Below.next HBW.out (Below.next HB5.out hb6)); clear hb6)
        | (at_builtin; refine wpList_append_by rfl _ _ rfl w4.heap.size u9 k RR rfl (HO6.out.alloc _) (.slice (some ⟨w6.heap.size, 0, none⟩) 1 1) [sk] rfl (HBS.out w6 sk) (by simp; omega) (by have := HB6.out.size; simp; omega) ?_; intro v8 w8 hown8 hg8; have HO8 := hidD hown8; have HB8 := hidD (row_grown (HO6.out.alloc _) (Below.next HB6.out (HAL.out _ _)) hg8 (by have := HB6.out.size; simp; omega)); clear hown8 hg8))
      go_roundw
      case rel => exact ⟨k + 1, by omega, by go_num, by rw [HN.out, List.map_append, HRR.out]; exact HO8.out, HB8.out⟩
      case measure => simp [intOf]; omega
    · obtain rfl : k = p := by omega
      obtain ⟨a9, c9, hu9⟩ := row_shape HOW.out
      subst hu9
      have HSS : Hid (SlAt wr (.slice a9 k c9) (syns f k word)) := by
        refine sl_of_own (base := w4.heap.size) ?_
        rw [← HSY.out, HLN.out]; exact HOW.out
      go_wp2_with fail
      refine bodyPost_ret (v := .tuple #[.slice a9 k c9, .int .i64 0]) (by simp [results, Try.results15, go_sem]) rfl ?_
      exact ⟨a9, c9, rfl, HSS.out, Below.next HB4.out HBW.out⟩
set_option maxRecDepth 100000 in
theorem rkGood_nil (v : Value) (w : World) : Calls Try.prog 20 #[.pointer none, v] w fun e w' => e = .returned (.bool false) ∧ Below w.heap.size w w' := by
  have HF := hidD (rkSyn_nil v w)
  go_enter Try.func20, Try.ntmps20
  go_wp2_with (go_at_call 15; refine HF.out.mono ?_; rintro e w2 ⟨rfl, hb2⟩; have HB2 := hidD hb2; clear hb2)
  go_ret
  exact ⟨rfl, HB2.out⟩
theorem trim_good {f p : Nat} {word : List UInt8} (h : p < word.length) (h2 : word.length ≤ 255) : ((trimS (syns f p word)).length == 0) = goodS f p word := by
  unfold goodS
  rw [decide_eq_true h, decide_eq_true h2]
  simp only [Bool.true_and]
  cases ha : (syns f p word).all (· == 0) with
  | true =>
    have hz : ∀ k, cf (syns f p word) k = 0 := fun k => by
      by_cases hk : k < (syns f p word).length
      · have := List.all_eq_true.1 ha (cf (syns f p word) k) (by
          unfold cf
          rw [List.getD_eq_getElem?_getD, List.getElem?_eq_getElem hk]
          exact List.getElem_mem hk)
        exact beq_iff_eq.1 this
      · exact cf_ge (by omega)
    rw [trim_none hz]; rfl
  | false =>
    refine beq_eq_false_iff_ne.2 fun hl => ?_
    have hz := trim_nil (List.length_eq_zero_iff.1 hl)
    rw [all_to (fun i _ => hz i)] at ha
    cases ha
set_option maxRecDepth 100000 in
theorem rkGood_any {c p f : Nat} (hp : p ≤ 254) (hf : f ≤ 254) (word : List UInt8) (v : Value) (w : World) (hc : RkAt w c p f) (hv : SlAt w v word) : Calls Try.prog 20 #[.pointer (some ⟨c, 0, none⟩), v] w fun e w' => e = .returned (.bool (goodS f p word)) ∧ Below w.heap.size w w' := by
  by_cases hE : fauE p word.length = 0
  · have hl : p < word.length ∧ word.length ≤ 255 := by
      unfold fauE at hE
      split at hE
      · cases hE
      · split at hE
        · cases hE
        · omega
    have HF := hidD (rkSyn_ok hp hf word hl.1 hl.2 v w hc hv)
    have HT : Hid (∀ w u, SlAt w u (syns f p word) → Calls Try.prog 46 #[u] w fun e w' => ∃ a k, e = .returned (.slice a (trimS (syns f p word)).length k) ∧ Below w.heap.size w w') := fun w u hs => (refTrim_any _ (by simp [syns]; omega) u w hs).mono fun e w' ⟨v, h1, h2, h3⟩ => by
      obtain ⟨⟨a, k, hv, _, _⟩, _⟩ := h2
      exact ⟨a, k, by rw [h1, hv], h3⟩
    have HG := hidD (trim_good (f := f) hl.1 hl.2)
    clear hc hv hE
    have hzi : (((trimS (syns f p word)).length : Int) == 0) = ((trimS (syns f p word)).length == 0) := by
      by_cases h : (trimS (syns f p word)).length = 0
      · rw [h]; rfl
      · rw [beq_eq_false_iff_ne.2 h]; exact beq_eq_false_iff_ne.2 (by omega)
    rw [HG.out] at hzi
    generalize (trimS (syns f p word)).length = L at *
    generalize goodS f p word = G at *
    go_enter Try.func20, Try.ntmps20
    go_wp2_with (first
      | (go_at_call 15; refine HF.out.mono ?_; rintro e w2 ⟨a2, k2, rfl, hs2, hb2⟩; have HS2 := hidD hs2; have HB2 := hidD hb2; clear hb2 hs2)
      | (go_at_call 46; refine (HT.out _ _ HS2.out).mono ?_; rintro e w3 ⟨a3, k3, rfl, hb3⟩; have HB3 := hidD (Below.next HB2.out hb3); clear hb3))
    go_ret
    exact ⟨by first | rfl | (rw [← hzi]; rfl), HB3.out⟩
  · have HF := hidD (rkSyn_err word hE v w hc hv)
    have HG : Hid (goodS f p word = false) := by
      show _ = _
      unfold goodS
      unfold fauE at hE
      by_cases h1 : p < word.length
      · by_cases h2 : word.length ≤ 255
        · rw [if_neg (by omega), if_neg (by omega)] at hE
          exact absurd rfl hE
        · rw [decide_eq_false h2]; simp
      · rw [decide_eq_false h1]; rfl
    have hb : (fauE p word.length == 0) = false := beq_eq_false_iff_ne.2 hE
    clear hc hv
    generalize fauE p word.length = E at *
    go_enter Try.func20, Try.ntmps20
    go_wp2_with (go_at_call 15; refine HF.out.mono ?_; rintro e w2 ⟨rfl, hb2⟩; have HB2 := hidD hb2; clear hb2)
    go_ret
    exact ⟨by rw [HG.out]; rfl, HB2.out⟩
end Go.Proofs.Ytdpkeffkpecmjaa
/- What the document's Encode answers. -/
namespace Go.Proofs.Ytdpkeffkpecmjaa
open Go.RowKit
set_option linter.unusedVariables false

theorem made_zeros (n : Nat) : (madeCells (Value.cells (.int .u8 0)) (n * 1)).toList = (List.replicate n (0 : UInt8)).map encB := by
  rw [Nat.mul_one]
  apply List.ext_getElem
  · simp [madeCells]
  · intro i h1 h2
    simp [madeCells, Value.cells, encB, Nat.mod_one]
theorem upon_of {P : Program} {o : Oper} {a : Act} {K : Act → World → Prop} {Q : Exit → Act → World → Prop} {r r' : Result Next} (h : r = r') (k : Oper.upon P o a K Q r') : Oper.upon P o a K Q r := h ▸ k
/-- An append of bytes, run. -/
theorem run_app {W : World} {base : Nat} {v : Value} {n : Nat} {xs : List Value} (hown : W.ownsRow base 5 1 v n xs) {u : Value} {bs : List UInt8} (hb : SlAt W u bs) (h0 : 0 < bs.length) (hl : n + bs.length ≤ 65536) (hbase : base ≤ W.heap.size) (ty : TypeId) : ∃ v' w', (Builtin.append_ #[22, 22] ty #[v, u]).run Try.prog W = .ok v' w' ∧ w'.ownsRow base 5 1 v' (n + bs.length) (xs ++ bs.map encB) ∧ W.grownBy w' v.ownBlock := by
  obtain ⟨i0, hi, hz0, hz1, hz2⟩ := info_parts Try.info5
  rcases hb.by' with ⟨rfl, _⟩ | ⟨g, off, cap, rfl, hg, hc⟩
  · simp at h0
  · obtain ⟨v', w', h1, h2, h3, _⟩ := run_append_own (P := Try.prog) (w := W) base 22 ty 5 i0 (.int .u8 0) 1 1 Try.underlying22 hi hz0 hz1 hz2 rfl (by decide) v n xs hown ⟨g, off, none⟩ bs.length cap (bs.map encB) (by simp) (fun j u hu => by
      rw [List.getElem?_map] at hu
      cases hj : bs[j]? with
      | none => rw [hj] at hu; cases hu
      | some y =>
        rw [hj] at hu
        have hlt := (List.getElem?_eq_some_iff.1 hj).1
        rw [Go.WideShapes.add_plain, hc j hlt, List.getD_eq_getElem?_getD, hj]
        exact hu) (bytes_oneCell bs) (by unfold maxLen; omega) (by omega) hbase
    exact ⟨v', w', h1, h2, h3⟩
set_option maxRecDepth 100000 in
theorem rkEnc_nil (v : Value) (w : World) : Calls Try.prog 13 #[.pointer none, v] w fun e w' => e = .returned (.tuple #[.slice none 0 0, .int .i64 2]) ∧ Below w.heap.size w w' := by
  have HW : Hid (Below w.heap.size w w) := Below.refl _ _
  go_enter Try.func13, Try.ntmps13
  go_wp2_with fail
  refine bodyPost_ret (v := .tuple #[.slice none 0 0, .int .i64 2]) (by simp [results, Try.results13, go_sem]) rfl ?_
  exact ⟨rfl, HW.out⟩
set_option maxRecDepth 100000 in
theorem rkEnc_none {c : Nat} (v : Value) (w : World) (hv : SlAt w v []) : Calls Try.prog 13 #[.pointer (some ⟨c, 0, none⟩), v] w fun e w' => e = .returned (.tuple #[.slice none 0 0, .int .i64 1]) ∧ Below w.heap.size w w' := by
  have HW : Hid (Below w.heap.size w w) := Below.refl _ _
  obtain ⟨⟨a, k, rfl, _, _⟩, _⟩ := hv
  simp only [List.length_nil]
  go_enter Try.func13, Try.ntmps13
  go_wp2_with fail
  refine bodyPost_ret (v := .tuple #[.slice none 0 0, .int .i64 1]) (by simp [results, Try.results13, go_sem]) rfl ?_
  exact ⟨rfl, HW.out⟩
set_option maxRecDepth 100000 in
theorem rkEnc_big {c p f : Nat} (hp : p ≤ 254) (data : List UInt8) (hdl : data.length ≤ 281474976710656) (h : 255 < data.length + p) (v : Value) (w : World) (hc : RkAt w c p f) (hv : SlAt w v data) : Calls Try.prog 13 #[.pointer (some ⟨c, 0, none⟩), v] w fun e w' => e = .returned (.tuple #[.slice none 0 0, .int .i64 3]) ∧ Below w.heap.size w w' := by
  have HW : Hid (Below w.heap.size w w) := Below.refl _ _
  obtain ⟨⟨a, k, rfl, _, _⟩, _⟩ := hv
  have f0 := hc.c0
  have hn0 : ((data.length : Int) == 0) = false := beq_eq_false_iff_ne.2 (by omega)
  have hni : (255 : Int) < (data.length : Int) + p := by omega
  clear hc
  go_enter Try.func13, Try.ntmps13
  go_wp2_with fail
  refine bodyPost_ret (v := .tuple #[.slice none 0 0, .int .i64 3]) (by simp [results, Try.results13, go_sem]) rfl ?_
  exact ⟨rfl, HW.out⟩
/-- What is left, filled up with zeros. -/
def padR (R : List UInt8) (k : Nat) : List UInt8 := R ++ List.replicate (k - R.length) 0
theorem padR_first (R : List UInt8) : padR R R.length = R := by simp [padR]
theorem padR_next (R : List UInt8) (k : Nat) (h : R.length ≤ k) : padR R (k + 1) = padR R k ++ [0] := by
  unfold padR
  rw [show k + 1 - R.length = (k - R.length) + 1 by omega, List.replicate_succ', List.append_assoc]
theorem padR_length (R : List UInt8) (k : Nat) (h : R.length ≤ k) : (padR R k).length = k := by simp [padR]; omega
theorem cf_pad (R : List UInt8) (k i : Nat) : cf (padR R k) i = cf R i := by
  unfold padR cf
  rw [List.getD_eq_getElem?_getD, List.getD_eq_getElem?_getD]
  by_cases h : i < R.length
  · rw [List.getElem?_append_left h]
  · rw [List.getElem?_append_right (by omega), List.getElem?_replicate, List.getElem?_eq_none (l := R) (by omega)]
    split <;> rfl
theorem enc_is (f p : Nat) (data : List UInt8) : encS f p data = data ++ (padR (encR f p data) p).reverse := by
  have hR := encR_len f p data
  have hl := padR_length (encR f p data) p hR
  refine cf_ext (by rw [encS_length, List.length_append, List.length_reverse, hl]) fun i hi => ?_
  rw [encS_length] at hi
  unfold encS encTo
  rw [cf_map, if_pos hi]
  by_cases h : i < data.length
  · rw [if_pos h]
    unfold cf
    rw [List.getD_eq_getElem?_getD, List.getD_eq_getElem?_getD, List.getElem?_append_left h]
  · rw [if_neg h, if_pos (by omega)]
    have e1 : cf (data ++ (padR (encR f p data) p).reverse) i = cf (padR (encR f p data) p).reverse (i - data.length) := by
      unfold cf
      rw [List.getD_eq_getElem?_getD, List.getD_eq_getElem?_getD, List.getElem?_append_right (by omega)]
    rw [e1, cf_reverse _ _ (by rw [hl]; omega), hl, cf_pad]
    congr 1
    omega
/-- Divided by the generator, in new memory. -/
theorem refLeft {b : Nat} (f p : Nat) (hp : p ≤ 254) (data : List UInt8) (h5 : data.length + p ≤ 255) (vp vq : Value) (w : World) (hf : RfAt w b 29 2) (hv : SlAt w vp (data ++ List.replicate p 0).reverse) (hq : SlAt w vq (genTo f p)) :
    Calls Try.prog 38 #[.pointer (some ⟨b, 0, none⟩), vp, vq] w fun e w' => ∃ v1 v2 B, e = .returned (.tuple #[v1, v2, .int .i64 0]) ∧ w.heap.size ≤ B ∧ B ≤ w'.heap.size ∧ w'.ownsRow B 5 1 v2 (encR f p data).length ((encR f p data).map encB) ∧ Below w.heap.size w w' := by
  have hl : ((data ++ List.replicate p 0).reverse).length ≤ 65535 := by simp; omega
  have hg : (genTo f p).length ≤ 281474976710655 := by rw [(gen_ok f p).1]; omega
  by_cases hlt : (trimS (data ++ List.replicate p 0).reverse).length < (trimS (genTo f p)).length
  · have he : encR f p data = trimS (data ++ List.replicate p 0).reverse := by unfold encR modS; rw [if_pos hlt]
    rw [he]
    exact (refDivide_short_own _ _ (by omega) (by omega) hlt vp vq w hv hq).mono fun e w' ⟨v, B, h1, h2, h3, h4, h5⟩ => ⟨_, v, B, h1, h2, h3, h4, h5⟩
  · have he : encR f p data = trimS (divS 29 (trimS (data ++ List.replicate p 0).reverse) (trimS (genTo f p))).1 := by unfold encR modS; rw [if_neg hlt]
    rw [he]
    exact refDivide_long_own _ _ (gen_ne f p) (by omega) hl hg vp vq w hf hv hq
/-- What holds in the region that makes the polynomial, by what of it is done. -/
structure In7 (w : World) (c p : Nat) (data : List UInt8) (sd : Value) (f : Nat → Bool) (w' : World) (x6 x23 x24 x25 x26 x27 x28 x29 x30 : Value) : Prop where
  bel : Below w.heap.size w w'
  h0 : f 0 = true → x23 = .pointer (some ⟨c, 0, none⟩)
  h1 : f 1 = true → x24 = .pointer (some ⟨c, 0, none⟩)
  h2 : f 2 = true → x25 = .pointer (some ⟨c, 0, none⟩)
  h3 : f 3 = true → x26 = .int .i64 (p : Int)
  h4 : f 4 = true → f 7 = false → w'.ownsRow w.heap.size 5 1 x27 p ((List.replicate p (0 : UInt8)).map encB)
  h5 : f 5 = true → x28 = sd
  h6 : f 6 = true → f 7 = false → SlAt w' x29 data.reverse
  h7 : f 7 = true → SlAt w' x30 (data ++ List.replicate p 0).reverse
  h8 : f 8 = true → x6 = x30
  d7 : f 7 = true → f 4 = true ∧ f 6 = true
  d8 : f 8 = true → f 7 = true
set_option maxRecDepth 100000 in
set_option maxHeartbeats 3200000 in
theorem rkEnc_ok {c p f : Nat} (hp : p ≤ 254) (hf : f ≤ 254) (data : List UInt8) (hd0 : 0 < data.length) (h5 : data.length + p ≤ 255) (v : Value) (w : World) (hc : RkAt w c p f) (hv : SlAt w v data) : Calls Try.prog 13 #[.pointer (some ⟨c, 0, none⟩), v] w fun e w' => ∃ a k, e = .returned (.tuple #[.slice a (data.length + p) k, .int .i64 0]) ∧ SlAt w' (.slice a (data.length + p) k) (encS f p data) ∧ Below w.heap.size w w' := by
  have HV := hidD hv
  have HCD := hidD hc
  obtain ⟨⟨ad, cd, rfl, hcd1, hcd2⟩, _⟩ := hv
  have f0 := hc.c0
  have HTU := hidD (fun w' (h : Below w.heap.size w w') => turned_any data (by omega) _ w' (HV.out.next h))
  have HFI := hidD refField_any
  have HGE := hidD (fun w' (h : Below w.heap.size w w') => rkGen_any hp hf w' (HCD.out.next h))
  have HLE := hidD (fun b => refLeft (b := b) f p hp data h5)
  have hn0 : ((data.length : Int) == 0) = false := beq_eq_false_iff_ne.2 (by omega)
  have hni : ¬ (255 : Int) < (data.length : Int) + p := by omega
  obtain ⟨i5, hi5, hz50, hz51, hz52⟩ := info_parts Try.info5
  clear hc
  go_enter Try.func13, Try.ntmps13
  go_wp2_with fail
  have HD0 : Hid (Below w.heap.size w w.drew) := (Below.refl _ _).drew
  have HREV : Hid ((List.replicate p (0 : UInt8)).map encB ++ data.reverse.map encB = ((data ++ List.replicate p 0).reverse).map encB) := by
    show _ = _
    rw [List.reverse_append, List.reverse_replicate, List.map_append]
  have HRVL : Hid (((data ++ List.replicate p (0 : UInt8)).reverse).length = p + data.reverse.length) := by show _ = _; simp
  have HDRL : Hid (data.reverse.length = data.length) := List.length_reverse
  go_cut [6] from 23 to 30 (fun s wx => SlAt wx s (data ++ List.replicate p 0).reverse ∧ Below w.heap.size w wx)
  case first =>
    refine wp_region_inv' (by kernel_rfl) (by kernel_rfl) (fun _ f a w' => ∃ x6 x23 x24 x25 x26 x27 x28 x29 x30, a = { tmps := #[.pointer (some ⟨c, 0, none⟩), .slice ad data.length cd, undef, undef, .slice none 0 0, .int .i64 0, x6, undef, undef, undef, .pointer (some ⟨c, 0, none⟩), .bool false, .slice ad data.length cd, .int .i64 (data.length : Int), .bool false, .slice ad data.length cd, .int .i64 (data.length : Int), .pointer (some ⟨c, 0, none⟩), .pointer (some ⟨c, 0, none⟩), .pointer (some ⟨c, 0, none⟩), .int .i64 (p : Int), .int .i64 ((data.length : Int) + (p : Int)), .bool false, x23, x24, x25, x26, x27, x28, x29, x30, undef, undef, undef, undef, undef, undef, undef, undef, undef, undef, undef, undef, undef, undef, undef, undef, undef, undef, undef, undef, undef, undef, undef, undef, undef], defers := [] } ∧ In7 w c p data (.slice ad data.length cd) f w' x6 x23 x24 x25 x26 x27 x28 x29 x30) ?h0 ?hst ?hend
    case h0 => exact ⟨_, _, _, _, _, _, _, _, _, rfl, ⟨⟨rfl, rfl, rfl, Nat.le_refl _, fun _ _ => rfl⟩, nofun, nofun, nofun, nofun, nofun, nofun, nofun, nofun, nofun, nofun, nofun⟩⟩
    case hst =>
      intro f a w' i o hI hi hfi haf
      obtain ⟨x6, x23, x24, x25, x26, x27, x28, x29, x30, rfl, hin⟩ := hI
      have hil := (List.getElem?_eq_some_iff.1 hi).1
      simp only [List.length_cons, List.length_nil] at hil
      have HII := hidD hi
      have HIN := hidD hin
      rcases (show i = 0 ∨ i = 1 ∨ i = 2 ∨ i = 3 ∨ i = 4 ∨ i = 5 ∨ i = 6 ∨ i = 7 ∨ i = 8 by omega) with rfl | rfl | rfl | rfl | rfl | rfl | rfl | rfl | rfl
      · simp only [List.getElem?_cons_zero] at hi
        obtain rfl := Option.some.inj hi
        clear hin hi
        refine wpOp_plain HII.out ?_
        go_wp2_with fail
        refine ⟨x6, (.pointer (some ⟨c, 0, none⟩)), x24, x25, x26, x27, x28, x29, x30, ⟨rfl, rfl, rfl, rfl, rfl, rfl, rfl, rfl, rfl⟩, ?_⟩
        exact ⟨HIN.out.bel, fun _ => rfl, HIN.out.h1, HIN.out.h2, HIN.out.h3, HIN.out.h4, HIN.out.h5, HIN.out.h6, HIN.out.h7, HIN.out.h8, HIN.out.d7, HIN.out.d8⟩
      · simp only [List.getElem?_cons_zero, List.getElem?_cons_succ] at hi
        obtain rfl := Option.some.inj hi
        have d0 : f 0 = true := haf ⟨0, .data⟩ (by simp) rfl
        obtain rfl := hin.h0 d0
        clear hin hi
        refine wpOp_plain HII.out ?_
        go_wp2_with fail
        refine ⟨x6, (.pointer (some ⟨c, 0, none⟩)), (.pointer (some ⟨c, 0, none⟩)), x25, x26, x27, x28, x29, x30, ⟨rfl, rfl, rfl, rfl, rfl, rfl, rfl, rfl, rfl⟩, ?_⟩
        exact ⟨HIN.out.bel, fun _ => rfl, fun _ => rfl, HIN.out.h2, HIN.out.h3, HIN.out.h4, HIN.out.h5, HIN.out.h6, HIN.out.h7, HIN.out.h8, HIN.out.d7, HIN.out.d8⟩
      · simp only [List.getElem?_cons_zero, List.getElem?_cons_succ] at hi
        obtain rfl := Option.some.inj hi
        have d1 : f 1 = true := haf ⟨1, .data⟩ (by simp) rfl
        obtain rfl := hin.h1 d1
        clear hin hi
        refine wpOp_plain HII.out ?_
        go_wp2_with fail
        refine ⟨x6, x23, (.pointer (some ⟨c, 0, none⟩)), (.pointer (some ⟨c, 0, none⟩)), x26, x27, x28, x29, x30, ⟨rfl, rfl, rfl, rfl, rfl, rfl, rfl, rfl, rfl⟩, ?_⟩
        exact ⟨HIN.out.bel, HIN.out.h0, fun _ => rfl, fun _ => rfl, HIN.out.h3, HIN.out.h4, HIN.out.h5, HIN.out.h6, HIN.out.h7, HIN.out.h8, HIN.out.d7, HIN.out.d8⟩
      · simp only [List.getElem?_cons_zero, List.getElem?_cons_succ] at hi
        obtain rfl := Option.some.inj hi
        have d2 : f 2 = true := haf ⟨2, .data⟩ (by simp) rfl
        obtain rfl := hin.h2 d2
        clear hin hi
        refine wpOp_plain HII.out ?_
        have f3 : w'.cell? ⟨c, 0, none⟩ = some (.int .i64 (p : Int)) := (HCD.out.next HIN.out.bel).c0
        go_wp2_with fail
        refine ⟨x6, x23, x24, (.pointer (some ⟨c, 0, none⟩)), (.int .i64 (p : Int)), x27, x28, x29, x30, ⟨rfl, rfl, rfl, rfl, rfl, rfl, rfl, rfl, rfl⟩, ?_⟩
        exact ⟨HIN.out.bel, HIN.out.h0, HIN.out.h1, fun _ => rfl, fun _ => rfl, HIN.out.h4, HIN.out.h5, HIN.out.h6, HIN.out.h7, HIN.out.h8, HIN.out.d7, HIN.out.d8⟩
      · simp only [List.getElem?_cons_zero, List.getElem?_cons_succ] at hi
        obtain rfl := Option.some.inj hi
        have d3 : f 3 = true := haf ⟨3, .data⟩ (by simp) rfl
        obtain rfl := hin.h3 d3
        clear hin hi
        refine wpOp_plain HII.out ?_
        go_wp2_with (at_make; refine wpList_make_full _ rfl _ _ 22 rfl w.heap.size 5 i5 (.int .u8 0) 1 Try.underlying22 hi5 hz50 hz51 _ _ _ _ p rfl rfl (by omega) (by omega) (by rw [hz52]; omega) (by unfold maxLen; omega) HIN.out.bel.size ?_; intro w9 hown9 hg9; rw [made_zeros] at hown9; have HO9 := hidD hown9; have HB9 := hidD ((Below.refl _ _).grown hg9 (Nat.le_refl _) (fun k hk => by cases hk)); clear hown9 hg9)
        refine ⟨x6, x23, x24, x25, (.int .i64 (p : Int)), _, x28, x29, x30, ⟨rfl, rfl, rfl, rfl, rfl, rfl, rfl, rfl, rfl⟩, ?_⟩
        exact ⟨Below.next HIN.out.bel HB9.out, HIN.out.h0, HIN.out.h1, HIN.out.h2, fun _ => rfl, fun _ _ => HO9.out, HIN.out.h5, fun h h7 => (HIN.out.h6 h h7).next HB9.out, (fun h => by have := (HIN.out.d7 h).1; rw [hfi] at this; cases this), HIN.out.h8, (fun h => by have := (HIN.out.d7 h).1; rw [hfi] at this; cases this), HIN.out.d8⟩
      · simp only [List.getElem?_cons_zero, List.getElem?_cons_succ] at hi
        obtain rfl := Option.some.inj hi
        clear hin hi
        refine wpOp_plain HII.out ?_
        go_wp2_with fail
        refine ⟨x6, x23, x24, x25, x26, x27, (.slice ad data.length cd), x29, x30, ⟨rfl, rfl, rfl, rfl, rfl, rfl, rfl, rfl, rfl⟩, ?_⟩
        exact ⟨HIN.out.bel, HIN.out.h0, HIN.out.h1, HIN.out.h2, HIN.out.h3, HIN.out.h4, fun _ => rfl, HIN.out.h6, HIN.out.h7, HIN.out.h8, HIN.out.d7, HIN.out.d8⟩
      · simp only [List.getElem?_cons_zero, List.getElem?_cons_succ] at hi
        obtain rfl := Option.some.inj hi
        have d5 : f 5 = true := haf ⟨5, .data⟩ (by simp) rfl
        obtain rfl := hin.h5 d5
        clear hin hi
        refine wpOp_plain HII.out ?_
        go_wp2_with (go_at_call 36; refine (HTU.out _ HIN.out.bel).mono ?_; rintro e w9 ⟨u9, rfl, hu9, hb9⟩; have HU9 := hidD hu9; have HB9 := hidD hb9; clear hu9 hb9)
        refine ⟨x6, x23, x24, x25, x26, x27, (.slice ad data.length cd), _, x30, ⟨rfl, rfl, rfl, rfl, rfl, rfl, rfl, rfl, rfl⟩, ?_⟩
        exact ⟨Below.next HIN.out.bel HB9.out, HIN.out.h0, HIN.out.h1, HIN.out.h2, HIN.out.h3, fun h h7 => row_below (HIN.out.h4 h h7) HB9.out, fun _ => rfl, fun _ _ => HU9.out, (fun h => by have := (HIN.out.d7 h).2; rw [hfi] at this; cases this), HIN.out.h8, (fun h => by have := (HIN.out.d7 h).2; rw [hfi] at this; cases this), HIN.out.d8⟩
      · simp only [List.getElem?_cons_zero, List.getElem?_cons_succ] at hi
        obtain rfl := Option.some.inj hi
        have d4 : f 4 = true := haf ⟨4, .data⟩ (by simp) rfl
        have d6 : f 6 = true := haf ⟨6, .data⟩ (by simp) rfl
        have HN8 : Hid (f 8 = false) := Bool.eq_false_iff.2 fun h8 => by have := hin.d8 h8; rw [hfi] at this; cases this
        clear hin hi
        refine wpOp_plain HII.out ?_
        go_wp2_with (at_builtin; refine wpList_append_by rfl _ _ rfl w.heap.size x27 p _ rfl (HIN.out.h4 d4 hfi) x29 data.reverse rfl (HIN.out.h6 d6 hfi).by' (by rw [HDRL.out]; omega) HIN.out.bel.size ?_; intro v10 w10 hown10 hg10; rw [HREV.out] at hown10; have HO10 := hidD hown10; have HB10 := hidD (row_grown (HIN.out.h4 d4 hfi) HIN.out.bel hg10 HIN.out.bel.size); clear hown10 hg10)
        refine ⟨x6, x23, x24, x25, x26, x27, x28, x29, _, ⟨rfl, rfl, rfl, rfl, rfl, rfl, rfl, rfl, rfl⟩, ?_⟩
        exact ⟨HB10.out, HIN.out.h0, HIN.out.h1, HIN.out.h2, HIN.out.h3, (fun _ h => by cases h), HIN.out.h5, (fun _ h => by cases h), fun _ => sl_of_own (base := w.heap.size) (by rw [HRVL.out]; exact HO10.out), fun h => absurd (show f 8 = true from h) (by rw [HN8.out]; decide), fun _ => ⟨d4, d6⟩, fun _ => rfl⟩
      · simp only [List.getElem?_cons_zero, List.getElem?_cons_succ] at hi
        obtain rfl := Option.some.inj hi
        have d7 : f 7 = true := haf ⟨7, .data⟩ (by simp) rfl
        clear hin hi
        refine wpOp_plain HII.out ?_
        go_wp2_with fail
        refine ⟨x30, x23, x24, x25, x26, x27, x28, x29, x30, ⟨rfl, rfl, rfl, rfl, rfl, rfl, rfl, rfl, rfl⟩, ?_⟩
        exact ⟨HIN.out.bel, HIN.out.h0, HIN.out.h1, HIN.out.h2, HIN.out.h3, HIN.out.h4, HIN.out.h5, HIN.out.h6, HIN.out.h7, fun _ => rfl, HIN.out.d7, fun _ => d7⟩
    case hend =>
      intro f a w' hI hall
      obtain ⟨x6, x23, x24, x25, x26, x27, x28, x29, x30, rfl, hin⟩ := hI
      obtain rfl := hin.h8 (hall 8 (by simp))
      have HS := hidD (hin.h7 (hall 7 (by simp)))
      have HB := hidD hin.bel
      clear hin hall
      go_wp2_with fail
      go_meet
      exact ⟨HS.out, HB.out⟩
  case rest =>
    obtain ⟨hsl, hbc⟩ := hcut
    have HSC := hidD hsl
    have HBC := hidD hbc
    clear hsl hbc
    have HAL : Hid (∀ (w' : World) o, Below w'.heap.size w' (w'.alloc o)) := fun w' o => (Below.refl _ _).alloc (Nat.le_refl _) o
    have HPF := hidD (padR_first (encR f p data))
    have HPN := hidD (padR_next (encR f p data))
    have HPL := hidD (padR_length (encR f p data))
    have HRL := hidD (encR_len f p data)
    have HEI := hidD (enc_is f p data)
    have HBS : Hid (∀ w' : World, ByAt (w'.alloc (.cells #[.int .u8 0] (5 : TypeId))) (.slice (some ⟨w'.heap.size, 0, none⟩) 1 1) [0]) := fun w' => (sl_new w' [0] _ 1 rfl rfl (by omega)).by'
    have HTP : Hid (∀ w' u, SlAt w' u (padR (encR f p data) p) → Calls Try.prog 36 #[u] w' fun e w2 => ∃ u2, e = .returned u2 ∧ SlAt w2 u2 (padR (encR f p data) p).reverse ∧ Below w'.heap.size w' w2) := fun w' u hs => turned_any _ (by rw [padR_length _ _ (encR_len f p data)]; omega) u w' hs
    clear f0
    generalize encR f p data = R at *
    go_wp2_with (first
      | (go_at_call 37; refine (HFI.out _).mono ?_; rintro e w3 ⟨b, rfl, _, hf3, hb3⟩; have HF3 := hidD hf3; have HB3 := hidD (Below.next HBC.out hb3); have HS3 := hidD (HSC.out.next hb3); clear hf3 hb3)
      | (go_at_call 18; refine (HGE.out _ HB3.out).mono ?_; rintro e w4 ⟨vg, rfl, hg4, hb4⟩; have HG4 := hidD hg4; have HF4 := hidD (HF3.out.next hb4); have HS4 := hidD (HS3.out.next hb4); have HB4 := hidD (Below.next HB3.out hb4); clear hg4 hb4)
      | (go_at_call 38; refine (HLE.out _ _ _ _ HF4.out HS4.out HG4.out).mono ?_; rintro e w5 ⟨v1, v2, B, rfl, hB1, hB2, ho5, hb5⟩; have HO5 := hidD ho5; have HBB := hidD hB1; have HB2 := hidD hB2; have HB5 := hidD (Below.next HB4.out hb5); clear ho5 hb5 hB1 hB2))
    go_loopw [8] (fun o wr => ∃ k : Nat, R.length ≤ k ∧ k ≤ p ∧ wr.ownsRow B 5 1 o k ((padR R k).map encB) ∧ Below w.heap.size w wr ∧ B ≤ wr.heap.size) (fun o _ => p - lenV o)
    case atStart => exact ⟨R.length, Nat.le_refl _, HRL.out, by rw [HPF.out]; exact HO5.out, HB5.out, HB2.out⟩
    case round =>
      obtain ⟨k, hk1, hk2, hown, hbel, hbs⟩ := hrel
      have HOW := hidD hown
      have HBW := hidD hbel
      have f0 : wr.cell? ⟨c, 0, none⟩ = some (.int .i64 p) := (HCD.out.next hbel).c0
      obtain ⟨a8, c8, hu8⟩ := row_shape hown
      subst hu8
      clear hown hbel
      by_cases hlt : k < p
      · have hlti : (k : Int) < p := by omega
        have HN := hidD (HPN.out k hk1)
        have HWB : Hid (w.heap.size ≤ B) := Nat.le_trans HB4.out.size HBB.out
        generalize hRR : (padR R k).map encB = RR at *
        have HRR := hidD hRR
        clear hRR
        go_wp2_with (at_builtin; refine wpList_append_by rfl _ _ rfl B (.slice a8 k c8) k RR rfl (HOW.out.alloc _) (.slice (some ⟨wr.heap.size, 0, none⟩) 1 1) [0] rfl (HBS.out wr) (by simp; omega) (by simp; omega) ?_; intro v9 w9 hown9 hg9; obtain ⟨a9, c9, hv9⟩ := row_shape hown9; subst hv9; have HO9 := hidD hown9; have HB9 := hidD ((Below.next HBW.out (HAL.out _ _)).trans ((row_grown (HOW.out.alloc _) (Below.refl B _) hg9 (by simp; omega)).mono HWB.out)); have HZ9 := hidD (row_grown (HOW.out.alloc (.cells #[.int .u8 0] (5 : TypeId))) (Below.refl B _) hg9 (by simp; omega)).size; clear hown9 hg9)
        go_roundw
        case rel => exact ⟨k + 1, by omega, by omega, by rw [HN.out, List.map_append, HRR.out]; exact HO9.out, HB9.out, by have := HZ9.out; simp at this; omega⟩
        case measure => simp [lenV]; omega
      · obtain rfl : p = k := by omega
        have HPP : Hid ((padR R p).length = p) := HPL.out p HRL.out
        have HPR : Hid ((padR R p).reverse.length = p) := by show _ = _; rw [List.length_reverse]; exact HPP.out
        have HSL : Hid (SlAt wr (.slice a8 p c8) (padR R p)) := by
          refine sl_of_own (base := B) ?_
          rw [HPP.out]; exact HOW.out
        have HVW := hidD (HV.out.next HBW.out)
        have HOW0 : Hid ((wr.alloc (.cells #[] (5 : TypeId))).ownsRow wr.heap.size 5 1 (.slice (some ⟨wr.heap.size, 0, none⟩) 0 0) 0 []) := full_row (Nat.le_refl _) rfl (by unfold maxLen; omega) (heap_alloc_last _ _)
        have HES : Hid (∀ w' a' c', w'.ownsRow wr.heap.size 5 1 (.slice a' (data.length + p) c') (data.length + p) (data.map encB ++ (padR R p).reverse.map encB) → SlAt w' (.slice a' (data.length + p) c') (encS f p data)) := fun w' a' c' h => by
          refine sl_of_own (base := wr.heap.size) ?_
          rw [HEI.out, List.length_append, HPR.out, List.map_append]
          exact h
        generalize padR R p = RR at *
        clear HOW hk1 hk2 hlt hbs
        go_wp2_with (first
          | (at_builtin; refine wpList_append_by rfl _ _ rfl wr.heap.size (.slice (some ⟨wr.heap.size, 0, none⟩) 0 0) 0 [] rfl HOW0.out (.slice ad data.length cd) data rfl (HVW.out.next (HAL.out _ _)).by' (by omega) (by simp) ?_; intro v9 w9 hown9 hg9; rw [Nat.zero_add, List.nil_append] at hown9; obtain ⟨a9, c9, hv9⟩ := row_shape hown9; subst hv9; have HO9 := hidD hown9; have HB9 := hidD (row_grown HOW0.out (HAL.out _ _) hg9 (by simp)); clear hown9 hg9)
          | (go_at_call 36; refine (HTP.out _ _ (HSL.out.next HB9.out)).mono ?_; rintro e w10 ⟨u2, rfl, hu2, hb10⟩; have HU10 := hidD hu2; have HO10 := hidD (row_below HO9.out hb10); have HB10 := hidD (Below.next HB9.out hb10); clear hu2 hb10)
          | (at_builtin; refine wpList_append_by rfl _ _ rfl wr.heap.size (.slice a9 data.length c9) data.length (data.map encB) rfl HO10.out u2 RR.reverse rfl HU10.out.by' (by rw [HPR.out]; omega) HB10.out.size ?_; intro v11 w11 hown11 hg11; rw [HPR.out] at hown11; obtain ⟨a11, c11, hv11⟩ := row_shape hown11; subst hv11; have HS11 := hidD (HES.out _ _ _ hown11); have HB11 := hidD (row_grown HO10.out HB10.out hg11 HB10.out.size); clear hown11 hg11))
        refine bodyPost_ret (v := .tuple #[.slice a11 (data.length + p) c11, .int .i64 0]) (by simp [results, Try.results13, go_sem]) rfl ?_
        exact ⟨a11, c11, rfl, HS11.out, Below.next HBW.out HB11.out⟩
end Go.Proofs.Ytdpkeffkpecmjaa
/- RsEncodes. -/
namespace Go.Proofs.Ytdpkeffkpecmjaa
open Go.RowKit
set_option linter.unusedVariables false

set_option maxRecDepth 100000 in
theorem both_out (p f : Int) (h : ¬ (1 ≤ p ∧ p ≤ 254 ∧ 0 ≤ f ∧ f ≤ 254)) (w : World) : Calls Try.prog 9 #[.int .i64 p, .int .i64 f] w fun e w' => e = .returned (.tuple #[.pointer none, .pointer none, .bool true]) ∧ Below w.heap.size w w' := by
  have HN := hidD (fun w => rsnew_out p f h w)
  have HR := hidD (fun w => rkNew_out p f h w)
  clear h
  go_enter Try.func9, Try.ntmps9
  go_wp2_with (first
    | (go_at_call 30; refine (HN.out _).mono ?_; rintro e w1 ⟨rfl, hb⟩; have HB1 := hidD hb; clear hb)
    | (go_at_call 33; refine (HR.out _).mono ?_; rintro e w2 ⟨rfl, hb⟩; have HB2 := hidD (Below.next HB1.out hb); clear hb))
  refine bodyPost_ret (v := .tuple #[.pointer none, .pointer none, .bool true]) (by simp [results, Try.results9, go_sem]) rfl ?_
  exact ⟨rfl, HB2.out⟩
set_option maxRecDepth 100000 in
theorem both_ok (p f : Nat) (h1 : 1 ≤ p) (h2 : p ≤ 254) (h3 : f ≤ 254) (w : World) : Calls Try.prog 9 #[.int .i64 p, .int .i64 f] w fun e w' => ∃ c r, e = .returned (.tuple #[.pointer (some ⟨c, 0, none⟩), .pointer (some ⟨r, 0, none⟩), .bool true]) ∧ CdAt w' c p f ∧ RkAt w' r p f ∧ Below w.heap.size w w' := by
  have HN := hidD (rsnew_ok p f h1 h2 h3)
  have HR := hidD (rkNew_ok p f h1 h2 h3)
  go_enter Try.func9, Try.ntmps9
  go_wp2_with (first
    | (go_at_call 30; refine (HN.out _).mono ?_; rintro e w1 ⟨c, rfl, _, hc, hb⟩; have HC1 := hidD hc; have HB1 := hidD hb; clear hb hc)
    | (go_at_call 33; refine (HR.out _).mono ?_; rintro e w2 ⟨r, rfl, hr, hb⟩; have HR2 := hidD hr; have HC2 := hidD (HC1.out.next hb); have HB2 := hidD (Below.next HB1.out hb); clear hb hr))
  refine bodyPost_ret (v := .tuple #[.pointer (some ⟨c, 0, none⟩), .pointer (some ⟨r, 0, none⟩), .bool true]) (by simp [results, Try.results9, go_sem]) rfl ?_
  exact ⟨c, r, rfl, HC2.out, HR2.out, HB2.out⟩
set_option maxRecDepth 100000 in
theorem own_gen (l : List UInt8) (hl : l.length ≤ 140737488355200) (v : Value) (w : World) (hv : SlAt w v l) : Calls Try.prog 11 #[v] w fun e w' => ∃ a k, e = .returned (.slice a l.length k) ∧ SlAt w' (.slice a l.length k) l ∧ Below w.heap.size w w' := by
  have HV := hidD hv
  obtain ⟨⟨a', cap, rfl, hsh1, hsh2⟩, _⟩ := hv
  have HAL : Hid (∀ (w' : World) o, Below w'.heap.size w' (w'.alloc o)) := fun w' o => (Below.refl _ _).alloc (Nat.le_refl _) o
  have HOW0 : Hid ((w.alloc (.cells #[] (5 : TypeId))).ownsRow w.heap.size 5 1 (.slice (some ⟨w.heap.size, 0, none⟩) 0 0) 0 []) := full_row (Nat.le_refl _) rfl (by unfold maxLen; omega) (heap_alloc_last _ _)
  generalize hLL : l.length = LL at *
  have HLL := hidD hLL
  clear hLL
  go_enter Try.func11, Try.ntmps11
  go_wp2_with (at_builtin; refine wpList_append_by rfl _ _ rfl w.heap.size (.slice (some ⟨w.heap.size, 0, none⟩) 0 0) 0 [] rfl HOW0.out (.slice a' LL cap) l rfl (HV.out.by'.next (HAL.out _ _)) (by rw [HLL.out]; omega) (by simp) ?_; intro v8 w8 hown8 hg8; rw [HLL.out, Nat.zero_add, List.nil_append] at hown8; obtain ⟨a8, c8, hv8⟩ := row_shape hown8; subst hv8; have HO8 := hidD hown8; have HB8 := hidD (row_grown HOW0.out (HAL.out _ _) hg8 (by simp)); clear hown8 hg8)
  go_ret
  exact ⟨a8, c8, rfl, sl_of_own (base := w.heap.size) (by rw [HLL.out]; exact HO8.out), HB8.out⟩
/-- What lies in memory while the law looks. -/
structure Ecs (K : Option Addr → Option Addr → World → Prop) (pc pr : Option Addr) (vd vw v1 v2 : Value) (data word : List UInt8) (w : World) : Prop where
  k : K pc pr w
  sd : SlAt w vd data
  sw : SlAt w vw word
  s1 : SlAt w v1 data
  s2 : SlAt w v2 word
theorem Ecs.next {K : Option Addr → Option Addr → World → Prop} (hK : ∀ pc pr w w', K pc pr w → Below w.heap.size w w' → K pc pr w') {pc pr : Option Addr} {vd vw v1 v2 : Value} {data word : List UInt8} {w w' : World} (h : Ecs K pc pr vd vw v1 v2 data word w) (hb : Below w.heap.size w w') : Ecs K pc pr vd vw v1 v2 data word w' := ⟨hK _ _ _ _ h.k hb, h.sd.next hb, h.sw.next hb, h.s1.next hb, h.s2.next hb⟩
/-- A call of a code's that answers bytes and an error. -/
def Ans2 (K : Option Addr → Option Addr → World → Prop) (sel : Bool) (fn : Nat) (l L : List UInt8) (E : Int) : Prop := ∀ pc pr w v, K pc pr w → SlAt w v l → Calls Try.prog fn #[.pointer (if sel then pc else pr), v] w fun e w' => ∃ a k, e = .returned (.tuple #[.slice a L.length k, .int .i64 E]) ∧ SlAt w' (.slice a L.length k) L ∧ Below w.heap.size w w'
set_option maxRecDepth 100000 in
set_option maxHeartbeats 6400000 in
theorem encodes_of (K : Option Addr → Option Addr → World → Prop) (hK : ∀ pc pr w w', K pc pr w → Below w.heap.size w w' → K pc pr w') (p f : Int) (data word EL SL GL : List UInt8) (EE SE : Int) (G : Bool) (hdl : data.length ≤ 140737488355200) (hwl : word.length ≤ 140737488355200)
    (hbo : ∀ w, Calls Try.prog 9 #[.int .i64 p, .int .i64 f] w fun e w' => ∃ pc pr, e = .returned (.tuple #[.pointer pc, .pointer pr, .bool true]) ∧ K pc pr w' ∧ Below w.heap.size w w')
    (he1 : Ans2 K true 12 data EL EE) (he2 : Ans2 K false 13 data EL EE) (hs1 : Ans2 K true 14 word SL SE) (hs2 : Ans2 K false 15 word SL SE)
    (hg1 : ∀ pc pr w, K pc pr w → Calls Try.prog 17 #[.pointer pc] w fun e w' => ∃ a k, e = .returned (.slice a GL.length k) ∧ SlAt w' (.slice a GL.length k) GL ∧ Below w.heap.size w w')
    (hg2 : ∀ pc pr w, K pc pr w → Calls Try.prog 18 #[.pointer pr] w fun e w' => ∃ a k, e = .returned (.slice a GL.length k) ∧ SlAt w' (.slice a GL.length k) GL ∧ Below w.heap.size w w')
    (hd1 : ∀ pc pr w v, K pc pr w → SlAt w v word → Calls Try.prog 19 #[.pointer pc, v] w fun e w' => e = .returned (.bool G) ∧ Below w.heap.size w w')
    (hd2 : ∀ pc pr w v, K pc pr w → SlAt w v word → Calls Try.prog 20 #[.pointer pr, v] w fun e w' => e = .returned (.bool G) ∧ Below w.heap.size w w')
    (vd vw : Value) (w : World) (hvd : SlAt w vd data) (hvw : SlAt w vw word) : Calls Try.prog 3 #[.int .i64 p, .int .i64 f, vd, vw] w fun e w' => e = .returned (.bool true) ∧ Below w.heap.size w w' := by
  have HK := hidD hK
  have HVD := hidD hvd
  have HVW := hidD hvw
  have HBO := hidD hbo
  have HE1 := hidD (fun pc pr w v h1 h2 => he1 pc pr w v h1 h2)
  have HE2 := hidD (fun pc pr w v h1 h2 => he2 pc pr w v h1 h2)
  have HS1 := hidD (fun pc pr w v h1 h2 => hs1 pc pr w v h1 h2)
  have HS2 := hidD (fun pc pr w v h1 h2 => hs2 pc pr w v h1 h2)
  simp only [if_true, if_false, Bool.false_eq_true] at HE1 HE2 HS1 HS2
  have HG1 := hidD hg1
  have HG2 := hidD hg2
  have HD1 := hidD hd1
  have HD2 := hidD hd2
  have HA := hidD alive_any
  have HO1 := hidD (fun w v h => own_gen data hdl v w h)
  have HO2 := hidD (fun w v h => own_gen word hwl v w h)
  have HSA : Hid (∀ (L : List UInt8) wA u v, SlAt wA u L → SlAt wA v L → Calls Try.prog 16 #[u, v] wA fun e w' => e = .returned (.bool true) ∧ Below wA.heap.size wA w') := fun L wA u v hu hv => by
    have := same_any L L u v wA hu.by' hv.by'
    rw [decide_eq_true rfl] at this; exact this
  have hEE : (EE == EE) = true := beq_self_eq_true _
  have hSE : (SE == SE) = true := beq_self_eq_true _
  have hGG : (G == G) = true := beq_self_eq_true _
  obtain ⟨⟨ad, cd, rfl, _, _⟩, _⟩ := hvd
  obtain ⟨⟨aw, cw, rfl, _, _⟩, _⟩ := hvw
  clear hK hbo he1 he2 hs1 hs2 hg1 hg2 hd1 hd2 hdl hwl
  generalize EL.length = EN at *
  generalize SL.length = SN at *
  generalize GL.length = GN at *
  generalize data.length = DN at *
  generalize word.length = WN at *
  go_enter Try.func3, Try.ntmps3
  go_wp2_with (first
    | (go_at_call 9; refine (HBO.out _).mono ?_; rintro e w1 ⟨pc, pr, rfl, hk, hb⟩; have HK1 := hidD hk; have HB1 := hidD hb; clear hb hk)
    | (go_at_call 10; refine (HA.out _).mono ?_; rintro e w2 ⟨rfl, hb⟩; have HK2 := hidD (HK.out _ _ _ _ HK1.out hb); have HB2 := hidD (Below.next HB1.out hb); clear hb HK1 HB1)
    | (go_at_call 11; refine (HO1.out _ _ (HVD.out.next HB2.out)).mono ?_; rintro e w3 ⟨a3, k3, rfl, hs, hb⟩; have HK3 := hidD (HK.out _ _ _ _ HK2.out hb); have HS3 := hidD hs; have HB3 := hidD (Below.next HB2.out hb); clear hb hs HK2 HB2)
    | (go_at_call 11; refine (HO2.out _ _ (HVW.out.next HB3.out)).mono ?_; rintro e w4 ⟨a4, k4, rfl, hs, hb⟩; have HB4 := hidD (Below.next HB3.out hb); have HX4 : Hid (Ecs K pc pr (.slice ad DN cd) (.slice aw WN cw) (.slice a3 DN k3) (.slice a4 WN k4) data word w4) := ⟨HK.out _ _ _ _ HK3.out hb, HVD.out.next HB4.out, HVW.out.next HB4.out, HS3.out.next hb, hs⟩; clear hb hs HK3 HB3 HS3)
    | (go_at_call 12; refine (HE1.out _ _ _ _ HX4.out.k HX4.out.s1).mono ?_; rintro e w5 ⟨a5, k5, rfl, hs, hb⟩; have HX5 := hidD (HX4.out.next HK.out hb); have HP5 := hidD hs; have HB5 := hidD (Below.next HB4.out hb); clear hb hs HX4 HB4)
    | (go_at_call 13; refine (HE2.out _ _ _ _ HX5.out.k HX5.out.sd).mono ?_; rintro e w6 ⟨a6, k6, rfl, hs, hb⟩; have HX6 := hidD (HX5.out.next HK.out hb); have HP6 := hidD (HP5.out.next hb); have HQ6 := hidD hs; have HB6 := hidD (Below.next HB5.out hb); clear hb hs HX5 HB5 HP5)
    | (go_at_call 14; refine (HS1.out _ _ _ _ HX6.out.k HX6.out.s2).mono ?_; rintro e w7 ⟨a7, k7, rfl, hs, hb⟩; have HX7 := hidD (HX6.out.next HK.out hb); have HP7 := hidD (HP6.out.next hb); have HQ7 := hidD (HQ6.out.next hb); have HT7 := hidD hs; have HB7 := hidD (Below.next HB6.out hb); clear hb hs HX6 HB6 HP6 HQ6)
    | (go_at_call 15; refine (HS2.out _ _ _ _ HX7.out.k HX7.out.sw).mono ?_; rintro e w8 ⟨a8, k8, rfl, hs, hb⟩; have HX8 := hidD (HX7.out.next HK.out hb); have HP8 := hidD (HP7.out.next hb); have HQ8 := hidD (HQ7.out.next hb); have HT8 := hidD (HT7.out.next hb); have HU8 := hidD hs; have HB8 := hidD (Below.next HB7.out hb); clear hb hs HX7 HB7 HP7 HQ7 HT7)
    | (go_at_call 17; refine (HG1.out _ _ _ HX8.out.k).mono ?_; rintro e w9 ⟨a9, k9, rfl, hs, hb⟩; have HX9 := hidD (HX8.out.next HK.out hb); have HP9 := hidD (HP8.out.next hb); have HQ9 := hidD (HQ8.out.next hb); have HT9 := hidD (HT8.out.next hb); have HU9 := hidD (HU8.out.next hb); have HV9 := hidD hs; have HB9 := hidD (Below.next HB8.out hb); clear hb hs HX8 HB8 HP8 HQ8 HT8 HU8)
    | (go_at_call 18; refine (HG2.out _ _ _ HX9.out.k).mono ?_; rintro e wA ⟨aA, kA, rfl, hs, hb⟩; have HXA := hidD (HX9.out.next HK.out hb); have HPA := hidD (HP9.out.next hb); have HQA := hidD (HQ9.out.next hb); have HTA := hidD (HT9.out.next hb); have HUA := hidD (HU9.out.next hb); have HVA := hidD (HV9.out.next hb); have HWA := hidD hs; have HBA := hidD (Below.next HB9.out hb); clear hb hs HX9 HB9 HP9 HQ9 HT9 HU9 HV9)
    | (go_at_call 16; refine (HSA.out GL _ _ _ HVA.out HWA.out).mono ?_; rintro e wB ⟨rfl, hb⟩; have HXB := hidD (HXA.out.next HK.out hb); have HPB := hidD (HPA.out.next hb); have HQB := hidD (HQA.out.next hb); have HTB := hidD (HTA.out.next hb); have HUB := hidD (HUA.out.next hb); have HBB := hidD (Below.next HBA.out hb); clear hb HXA HBA HPA HQA HTA HUA HVA HWA)
    | (go_at_call 16; refine (HSA.out EL _ _ _ HPB.out HQB.out).mono ?_; rintro e wC ⟨rfl, hb⟩; have HXC := hidD (HXB.out.next HK.out hb); have HTC := hidD (HTB.out.next hb); have HUC := hidD (HUB.out.next hb); have HBC := hidD (Below.next HBB.out hb); clear hb HXB HBB HPB HQB HTB HUB)
    | (go_at_call 16; refine (HSA.out SL _ _ _ HTC.out HUC.out).mono ?_; rintro e wD ⟨rfl, hb⟩; have HXD := hidD (HXC.out.next HK.out hb); have HBD := hidD (Below.next HBC.out hb); clear hb HXC HBC HTC HUC)
    | (go_at_call 19; refine (HD1.out _ _ _ _ HXD.out.k HXD.out.s2).mono ?_; rintro e wE ⟨rfl, hb⟩; have HXE := hidD (HXD.out.next HK.out hb); have HBE := hidD (Below.next HBD.out hb); clear hb HXD HBD)
    | (go_at_call 20; refine (HD2.out _ _ _ _ HXE.out.k HXE.out.sw).mono ?_; rintro e wF ⟨rfl, hb⟩; have HXF := hidD (HXE.out.next HK.out hb); have HBF := hidD (Below.next HBE.out hb); clear hb HXE HBE)
    | (go_at_call 16; refine (HSA.out data _ _ _ HXF.out.s1 HXF.out.sd).mono ?_; rintro e wG ⟨rfl, hb⟩; have HXG := hidD (HXF.out.next HK.out hb); have HBG := hidD (Below.next HBF.out hb); clear hb HXF HBF)
    | (go_at_call 16; refine (HSA.out word _ _ _ HXG.out.s2 HXG.out.sw).mono ?_; rintro e wH ⟨rfl, hb⟩; have HBH := hidD (Below.next HBG.out hb); clear hb HXG HBG))
  go_ret
  exact ⟨rfl, HBH.out⟩
end Go.Proofs.Ytdpkeffkpecmjaa
/- RsEncodes, whole. -/
namespace Go.Proofs.Ytdpkeffkpecmjaa
open Go.RowKit
set_option linter.unusedVariables false

/-- What Encode answers: the bytes, the error. -/
def eL (f p : Nat) (data : List UInt8) : List UInt8 := if data.length = 0 then [] else if 255 < data.length + p then [] else encS f p data
def eE (p : Nat) (data : List UInt8) : Int := if data.length = 0 then 1 else if 255 < data.length + p then 3 else 0
def sL (f p : Nat) (word : List UInt8) : List UInt8 := if fauE p word.length = 0 then syns f p word else []
/-- Both codes lie in memory. -/
def Two (p f : Nat) (pc pr : Option Addr) (w : World) : Prop := ∃ c r, pc = some ⟨c, 0, none⟩ ∧ pr = some ⟨r, 0, none⟩ ∧ CdAt w c p f ∧ RkAt w r p f
theorem Two.next {p f : Nat} (pc pr : Option Addr) (w w' : World) (h : Two p f pc pr w) (hb : Below w.heap.size w w') : Two p f pc pr w' := by
  obtain ⟨c, r, h1, h2, h3, h4⟩ := h
  exact ⟨c, r, h1, h2, h3.next hb, h4.next hb⟩
theorem fau_cases (p n : Nat) : (n ≤ p ∧ fauE p n = 1) ∨ (p < n ∧ 255 < n ∧ fauE p n = 3) ∨ (p < n ∧ n ≤ 255 ∧ fauE p n = 0) := by
  unfold fauE
  by_cases h1 : n ≤ p
  · exact .inl ⟨h1, if_pos h1⟩
  · by_cases h2 : 255 < n
    · exact .inr (.inl ⟨by omega, h2, by rw [if_neg h1, if_pos h2]⟩)
    · exact .inr (.inr ⟨by omega, by omega, by rw [if_neg h1, if_neg h2]⟩)
theorem rsEncodes_in (p f : Nat) (h1 : 1 ≤ p) (h2 : p ≤ 254) (h3 : f ≤ 254) (data word : List UInt8) (hdl : data.length ≤ 140737488355200) (hwl : word.length ≤ 140737488355200) (vd vw : Value) (w : World) (hvd : SlAt w vd data) (hvw : SlAt w vw word) : Calls Try.prog 3 #[.int .i64 p, .int .i64 f, vd, vw] w fun e w' => e = .returned (.bool true) ∧ Below w.heap.size w w' := by
  refine encodes_of (Two p f) Two.next p f data word (eL f p data) (sL f p word) (genTo f p) (eE p data) (fauE p word.length) (goodS f p word) hdl hwl ?_ ?_ ?_ ?_ ?_ ?_ ?_ ?_ ?_ vd vw w hvd hvw
  · intro w
    exact (both_ok p f h1 h2 h3 w).mono fun e w' ⟨c, r, h1, h2, h3, h4⟩ => ⟨_, _, h1, ⟨c, r, rfl, rfl, h2, h3⟩, h4⟩
  · rintro pc pr w v ⟨c, r, rfl, rfl, hc, hr⟩ hs
    show Calls Try.prog 12 #[.pointer (some ⟨c, 0, none⟩), v] w _
    unfold eL eE
    by_cases h0 : data.length = 0
    · rw [if_pos h0, if_pos h0]
      rw [List.length_eq_zero_iff.1 h0] at hs
      exact (encode_none v w hs).mono fun e w' ⟨a, b⟩ => ⟨none, 0, a, SlAt.nil _, b⟩
    · rw [if_neg h0, if_neg h0]
      by_cases hb : 255 < data.length + p
      · rw [if_pos hb, if_pos hb]
        exact (encode_big h2 data hb v w hc hs).mono fun e w' ⟨a, b⟩ => ⟨none, 0, a, SlAt.nil _, b⟩
      · rw [if_neg hb, if_neg hb]
        refine (encode_ok h2 data (by omega) (by omega) v w hc hs).mono fun e w' ⟨g, a, _, b, d⟩ => ⟨_, _, ?_, SlAt.row b rfl (by rw [encS_length]; omega), d⟩
        rw [a, encS_length]
  · rintro pc pr w v ⟨c, r, rfl, rfl, hc, hr⟩ hs
    show Calls Try.prog 13 #[.pointer (some ⟨r, 0, none⟩), v] w _
    unfold eL eE
    by_cases h0 : data.length = 0
    · rw [if_pos h0, if_pos h0]
      rw [List.length_eq_zero_iff.1 h0] at hs
      exact (rkEnc_none v w hs).mono fun e w' ⟨a, b⟩ => ⟨none, 0, a, SlAt.nil _, b⟩
    · rw [if_neg h0, if_neg h0]
      by_cases hb : 255 < data.length + p
      · rw [if_pos hb, if_pos hb]
        exact (rkEnc_big h2 data (by omega) hb v w hr hs).mono fun e w' ⟨a, b⟩ => ⟨none, 0, a, SlAt.nil _, b⟩
      · rw [if_neg hb, if_neg hb]
        refine (rkEnc_ok h2 h3 data (by omega) (by omega) v w hr hs).mono fun e w' ⟨a, k, h1, h2, h3⟩ => ⟨a, k, ?_, ?_, h3⟩
        · rw [h1, encS_length]
        · rw [encS_length]; exact h2
  · rintro pc pr w v ⟨c, r, rfl, rfl, hc, hr⟩ hs
    show Calls Try.prog 14 #[.pointer (some ⟨c, 0, none⟩), v] w _
    unfold sL
    rcases fau_cases p word.length with ⟨a1, a2⟩ | ⟨a1, a2, a3⟩ | ⟨a1, a2, a3⟩
    · rw [a2, if_neg (by decide)]
      exact (syndromes_short word a1 v w hc hs).mono fun e w' ⟨a, b⟩ => ⟨none, 0, a, SlAt.nil _, b⟩
    · rw [a3, if_neg (by decide)]
      exact (syndromes_long word a1 a2 v w hc hs).mono fun e w' ⟨a, b⟩ => ⟨none, 0, a, SlAt.nil _, b⟩
    · rw [a3, if_pos rfl]
      have hl : (syns f p word).length = p := by simp [syns]
      refine (syndromes_ok h2 h3 word a1 a2 v w hc hs).mono fun e w' ⟨g, a, _, b, d⟩ => ⟨some ⟨g, 0, none⟩, p, ?_, ?_, d⟩
      · rw [a, hl]
      · rw [hl]; exact SlAt.row b hl.symm (by omega)
  · rintro pc pr w v ⟨c, r, rfl, rfl, hc, hr⟩ hs
    show Calls Try.prog 15 #[.pointer (some ⟨r, 0, none⟩), v] w _
    unfold sL
    by_cases hE : fauE p word.length = 0
    · rcases fau_cases p word.length with ⟨a1, a2⟩ | ⟨a1, a2, a3⟩ | ⟨a1, a2, a3⟩
      · rw [hE] at a2; cases a2
      · rw [hE] at a3; cases a3
      · rw [if_pos hE, hE]
        have hl : (syns f p word).length = p := by simp [syns]
        refine (rkSyn_ok h2 h3 word a1 a2 v w hr hs).mono fun e w' ⟨a, k, b, d, g⟩ => ⟨a, k, ?_, ?_, g⟩
        · rw [b, hl]
        · rw [hl]; exact d
    · rw [if_neg hE]
      exact (rkSyn_err word hE v w hr hs).mono fun e w' ⟨a, b⟩ => ⟨none, 0, a, SlAt.nil _, b⟩
  · rintro pc pr w ⟨c, r, rfl, rfl, hc, hr⟩
    refine (generator_any h2 w hc).mono fun e w' ⟨a, b, d⟩ => ⟨some ⟨w.heap.size, 0, none⟩, p + 1, ?_, ?_, d⟩
    · rw [a, (gen_ok f p).1]
    · rw [(gen_ok f p).1]; exact SlAt.row b (gen_ok f p).1.symm (by omega)
  · rintro pc pr w ⟨c, r, rfl, rfl, hc, hr⟩
    refine (rkGen_any h2 h3 w hr).mono fun e w' ⟨v, a, b, d⟩ => ?_
    obtain ⟨a2, k2, hv, _, _⟩ := b.shape
    exact ⟨a2, k2, by rw [a, hv], by rw [← hv]; exact b, d⟩
  · rintro pc pr w v ⟨c, r, rfl, rfl, hc, hr⟩ hs
    exact good_any h2 h3 word v w hc hs
  · rintro pc pr w v ⟨c, r, rfl, rfl, hc, hr⟩ hs
    exact rkGood_any h2 h3 word v w hr hs
theorem rsEncodes_out (p f : Int) (h : ¬ (1 ≤ p ∧ p ≤ 254 ∧ 0 ≤ f ∧ f ≤ 254)) (data word : List UInt8) (hdl : data.length ≤ 140737488355200) (hwl : word.length ≤ 140737488355200) (vd vw : Value) (w : World) (hvd : SlAt w vd data) (hvw : SlAt w vw word) : Calls Try.prog 3 #[.int .i64 p, .int .i64 f, vd, vw] w fun e w' => e = .returned (.bool true) ∧ Below w.heap.size w w' := by
  refine encodes_of (fun pc pr _ => pc = none ∧ pr = none) (fun _ _ _ _ h _ => h) p f data word [] [] [] 2 2 false hdl hwl ?_ ?_ ?_ ?_ ?_ ?_ ?_ ?_ ?_ vd vw w hvd hvw
  · intro w
    exact (both_out p f h w).mono fun e w' ⟨a, b⟩ => ⟨none, none, a, ⟨rfl, rfl⟩, b⟩
  · rintro pc pr w v ⟨rfl, rfl⟩ hs
    exact (encode_nil v w).mono fun e w' ⟨a, b⟩ => ⟨none, 0, a, SlAt.nil _, b⟩
  · rintro pc pr w v ⟨rfl, rfl⟩ hs
    exact (rkEnc_nil v w).mono fun e w' ⟨a, b⟩ => ⟨none, 0, a, SlAt.nil _, b⟩
  · rintro pc pr w v ⟨rfl, rfl⟩ hs
    exact (syndromes_nil v w).mono fun e w' ⟨a, b⟩ => ⟨none, 0, a, SlAt.nil _, b⟩
  · rintro pc pr w v ⟨rfl, rfl⟩ hs
    exact (rkSyn_nil v w).mono fun e w' ⟨a, b⟩ => ⟨none, 0, a, SlAt.nil _, b⟩
  · rintro pc pr w ⟨rfl, rfl⟩
    exact (generator_nil w).mono fun e w' ⟨a, b⟩ => ⟨none, 0, a, SlAt.nil _, b⟩
  · rintro pc pr w ⟨rfl, rfl⟩
    exact (rkGen_nil w).mono fun e w' ⟨a, b⟩ => ⟨none, 0, a, SlAt.nil _, b⟩
  · rintro pc pr w v ⟨rfl, rfl⟩ hs
    exact good_nil v w
  · rintro pc pr w v ⟨rfl, rfl⟩ hs
    exact rkGood_nil v w
theorem rsEncodes_any (p f : Int) (data word : List UInt8) (hdl : data.length ≤ 140737488355200) (hwl : word.length ≤ 140737488355200) (vd vw : Value) (w : World) (hvd : SlAt w vd data) (hvw : SlAt w vw word) : Calls Try.prog 3 #[.int .i64 p, .int .i64 f, vd, vw] w fun e w' => e = .returned (.bool true) ∧ Below w.heap.size w w' := by
  by_cases h : 1 ≤ p ∧ p ≤ 254 ∧ 0 ≤ f ∧ f ≤ 254
  · obtain ⟨P, rfl⟩ : ∃ P : Nat, p = P := ⟨p.toNat, by omega⟩
    obtain ⟨F, rfl⟩ : ∃ F : Nat, f = F := ⟨f.toNat, by omega⟩
    exact rsEncodes_in P F (by omega) (by omega) (by omega) data word hdl hwl vd vw w hvd hvw
  · exact rsEncodes_out p f h data word hdl hwl vd vw w hvd hvw
end Go.Proofs.Ytdpkeffkpecmjaa
