/- The document's Lines and Words. -/
import Derived.Test.YtgmbkelmgolkpaaDoorGz
import Derived.Laws.Strings2
namespace Go.Proofs.YtgmbkelmgolkpaaDoor
open Go.RowKit
set_option linter.unusedVariables false

/-- A piece of a text. -/
def pcS (x : Tx) (a b : Nat) : Tx := (x.take b).drop a
theorem ba_cut (x : Tx) (a b : Nat) : (bA x).extract a b = bA (pcS x a b) := by
  unfold pcS bA
  apply ByteArray.ext
  rw [ByteArray.data_extract]
  apply Array.toList_inj.1
  simp [List.drop_take]
theorem Tryd.under9t : Tryd.prog.underlying 9 = some .string := by kernel_rfl
theorem slice_piece (x : Tx) {a b : Nat} (h1 : a ≤ b) (h2 : b ≤ x.length) (w : World) : (Instr.slice 9 (.string (bA x)) (some (.int .i64 (a : Int))) (some (.int .i64 (b : Int))) none).run Tryd.prog w = .ok (.string (bA (pcS x a b))) w := by
  have hs := ba_size x
  rw [← ba_cut, run_slice_string w 9 (bA x) .i64 .i64 (a : Int) (b : Int) Tryd.under9t (by omega) (by omega) (by omega)]
  rfl
/-- The lines that end ahead of a place, and where the next one begins. -/
def lnTo (x : Tx) : Nat → List Tx × Nat
  | 0 => ([], 0)
  | i + 1 => if i = x.length ∨ x.getD i 0 = 10 then ((lnTo x i).1 ++ [pcS x (lnTo x i).2 i], i + 1) else lnTo x i
def dlnS (x : Tx) : List Tx := (lnTo x (x.length + 1)).1
theorem ln_le (x : Tx) : ∀ i, (lnTo x i).2 ≤ i ∧ (lnTo x i).1.length ≤ i
  | 0 => ⟨Nat.le_refl _, by simp [lnTo]⟩
  | i + 1 => by
    obtain ⟨h1, h2⟩ := ln_le x i
    rw [lnTo]; split
    · exact ⟨Nat.le_refl _, by rw [List.length_append, List.length_singleton]; omega⟩
    · exact ⟨by omega, by omega⟩
set_option maxRecDepth 100000 in
set_option maxHeartbeats 1600000 in
theorem refLines_any (x : Tx) (hx : x.length ≤ 1048576) (w : World) : Calls Tryd.prog 43 #[encT x] w fun e w' => ∃ u, e = .returned u ∧ w'.ownsRow w.heap.size 9 1 u (dlnS x).length ((dlnS x).map encT) ∧ Below w.heap.size w w' := by
  have HSL := hidD (fun (a b : Nat) (h1 : a ≤ b) (h2 : b ≤ x.length) => slice_piece x h1 h2)
  have HGB := hidD (fun k h => ba_get x k h)
  have HSZ := hidD (ba_size x)
  have HLE := hidD (ln_le x)
  have HNX : Hid (∀ i, lnTo x (i + 1) = if i = x.length ∨ x.getD i 0 = 10 then ((lnTo x i).1 ++ [pcS x (lnTo x i).2 i], i + 1) else lnTo x i) := fun i => rfl
  have HDL : Hid (dlnS x = (lnTo x (x.length + 1)).1) := rfl
  have HU : Hid (Tryd.prog.underlying 35 = some (.slice 9)) := by show _ = _; kernel_rfl
  unfold encT
  have hbs : ((bA x).size : Int) = (x.length : Int) := by rw [ba_size]
  generalize bA x = b at *
  generalize hn : x.length = n at *
  go_enter Tryd.func43, Tryd.ntmps43
  go_wp2_with fail
  go_loopw [3, 4, 5] (fun l f i wr => ∃ k : Nat, k ≤ n + 1 ∧ i = .int .i64 (k : Int) ∧ f = .int .i64 ((lnTo x k).2 : Int) ∧ wr.ownsRow w.heap.size 9 1 l (lnTo x k).1.length ((lnTo x k).1.map encT) ∧ Below w.heap.size w wr) (fun _ _ i _ => n + 1 - (intOf i).toNat)
  case atStart => exact ⟨0, Nat.zero_le _, rfl, rfl, World.ownsRow_nil _ _ _ _, Below.refl _ _⟩
  case round =>
    obtain ⟨k, hk, rfl, rfl, hown, hbel⟩ := hrel
    have HOW := hidD hown
    have HBW := hidD hbel
    obtain ⟨a3, c3, h3⟩ := row_shape hown
    subst h3
    obtain ⟨hl1, hl2⟩ := HLE.out k
    by_cases hlt : k ≤ n
    · have hlti : (k : Int) ≤ (n : Int) := by omega
      have HN := hidD (HNX.out k)
      generalize hfr : (lnTo x k).2 = fr at *
      generalize hLL : (lnTo x k).1 = LL at *
      generalize hll : LL.length = ll at *
      have HLL := hidD hll
      have hsl := HSL.out fr k hl1 (by omega)
      clear hown hbel
      have HO6 := hidD (fun o => HOW.out.alloc o)
      by_cases hend : k = n
      · rw [if_pos (.inl hend)] at HN
        subst hend
        generalize hpc : bA (pcS x fr k) = pc at *
        go_wp2_with (at_builtin; refine wpList_append_one Tryd.info9 rfl (by decide) HU.out rfl _ _ rfl w.heap.size (.slice a3 ll c3) ll (LL.map encT) rfl (HO6.out _) wr.heap.size (.string pc) rfl (new_cell1 wr (.string pc) 9 0 _ rfl) rfl (by omega) (by have := HBW.out.size; simp; omega) ?_; intro v8 w8 hown8 hb8 hk8; have HO8 := hidD hown8; have HB8 := hidD (Below.trans (Below.alloc HBW.out HBW.out.size _) hb8); clear hown8 hb8 hk8)
        go_roundw
        case rel => exact ⟨k + 1, by omega, by go_num, by rw [HN.out]; go_num, by rw [HN.out, List.length_append, List.map_append, HLL.out]; show World.ownsRow _ _ _ _ _ _ (_ ++ [encT _]); unfold encT; rw [hpc]; exact HO8.out, HB8.out⟩
        case measure => simp [intOf]
      · have hkb : k < b.size := by have := HSZ.out; omega
        have HG := hidD (HGB.out k hkb)
        have hlt2 : (k : Int) < (n : Int) := by omega
        have hne : ¬ (k : Int) = (n : Int) := by omega
        have hnd : decide ((k : Int) = (n : Int)) = false := decide_eq_false hne
        have hnb : ((k : Int) == (n : Int)) = false := beq_eq_false_iff_ne.2 hne
        by_cases h10 : b[k] = 10
        · rw [if_pos (.inr (by rw [← HG.out]; exact h10))] at HN
          generalize hpc : bA (pcS x fr k) = pc at *
          have ht : (b[k].toNat : Int) = 10 := by rw [h10]; rfl
          go_wp2_with (at_builtin; refine wpList_append_one Tryd.info9 rfl (by decide) HU.out rfl _ _ rfl w.heap.size (.slice a3 ll c3) ll (LL.map encT) rfl (HO6.out _) wr.heap.size (.string pc) rfl (new_cell1 wr (.string pc) 9 0 _ rfl) rfl (by omega) (by have := HBW.out.size; simp; omega) ?_; intro v8 w8 hown8 hb8 hk8; have HO8 := hidD hown8; have HB8 := hidD (Below.trans (Below.alloc HBW.out HBW.out.size _) hb8); clear hown8 hb8 hk8)
          go_roundw
          case rel => exact ⟨k + 1, by omega, by go_num, by rw [HN.out]; go_num, by rw [HN.out, List.length_append, List.map_append, HLL.out]; show World.ownsRow _ _ _ _ _ _ (_ ++ [encT _]); unfold encT; rw [hpc]; exact HO8.out, HB8.out⟩
          case measure => simp [intOf]; omega
        · have hxn : ¬ (k = n ∨ x.getD k 0 = 10) := fun hc => by
            rcases hc with hc | hc
            · exact hend hc
            · exact h10 (by rw [HG.out]; exact hc)
          rw [if_neg hxn] at HN
          have ht : ¬ (b[k].toNat : Int) = 10 := fun hc => h10 (by
            have : b[k].toNat = 10 := by omega
            exact UInt8.toNat_inj.1 this)
          go_wp2_with fail
          go_roundw
          case rel => exact ⟨k + 1, by omega, by go_num, by rw [HN.out, hfr], by rw [HN.out, hLL, HLL.out]; exact HOW.out, HBW.out⟩
          case measure => simp [intOf]; omega
    · obtain rfl : k = n + 1 := by omega
      go_wp2_with fail
      refine bodyPost_ret (v := .slice a3 (lnTo x (n + 1)).1.length c3) (by simp [results, Tryd.results43, go_sem]) rfl ?_
      exact ⟨_, rfl, by rw [HDL.out]; exact HOW.out, HBW.out⟩
/-- The words that end ahead of a place, and where an open one begins. -/
def wdTo (x : Tx) : Nat → List Tx × Option Nat
  | 0 => ([], none)
  | i + 1 => if i = x.length ∨ x.getD i 0 = 32 ∨ x.getD i 0 = 9 then (match (wdTo x i).2 with
      | some a => ((wdTo x i).1 ++ [pcS x a i], none)
      | none => ((wdTo x i).1, none)) else (match (wdTo x i).2 with
      | some a => ((wdTo x i).1, some a)
      | none => ((wdTo x i).1, some i))
def dwdS (x : Tx) : List Tx := (wdTo x (x.length + 1)).1
def frV (f : Option Nat) : Int := match f with
  | some a => (a : Int)
  | none => -1
theorem wd_le (x : Tx) : ∀ i, (wdTo x i).1.length ≤ i ∧ ∀ a, (wdTo x i).2 = some a → a < i
  | 0 => ⟨by simp [wdTo], fun a h => by cases h⟩
  | i + 1 => by
    obtain ⟨h1, h2⟩ := wd_le x i
    rw [wdTo]
    cases hf : (wdTo x i).2 with
    | some b =>
      split
      · exact ⟨by rw [List.length_append, List.length_singleton]; omega, fun a h => by cases h⟩
      · exact ⟨by show (wdTo x i).1.length ≤ _; omega, fun a h => by cases h; have := h2 b hf; omega⟩
    | none =>
      split
      · exact ⟨by show (wdTo x i).1.length ≤ _; omega, fun a h => by cases h⟩
      · exact ⟨by show (wdTo x i).1.length ≤ _; omega, fun a h => by cases h; omega⟩
set_option maxRecDepth 100000 in
set_option maxHeartbeats 1600000 in
theorem refWords_any (x : Tx) (hx : x.length ≤ 1048576) (w : World) : Calls Tryd.prog 44 #[encT x] w fun e w' => ∃ u, e = .returned u ∧ w'.ownsRow w.heap.size 9 1 u (dwdS x).length ((dwdS x).map encT) ∧ Below w.heap.size w w' := by
  have HSL := hidD (fun (a b : Nat) (h1 : a ≤ b) (h2 : b ≤ x.length) => slice_piece x h1 h2)
  have HGB := hidD (fun k h => ba_get x k h)
  have HSZ := hidD (ba_size x)
  have HLE := hidD (wd_le x)
  have HNX : Hid (∀ i, wdTo x (i + 1) = if i = x.length ∨ x.getD i 0 = 32 ∨ x.getD i 0 = 9 then (match (wdTo x i).2 with
      | some a => ((wdTo x i).1 ++ [pcS x a i], none)
      | none => ((wdTo x i).1, none)) else (match (wdTo x i).2 with
      | some a => ((wdTo x i).1, some a)
      | none => ((wdTo x i).1, some i))) := fun i => rfl
  have HDL : Hid (dwdS x = (wdTo x (x.length + 1)).1) := rfl
  have HU : Hid (Tryd.prog.underlying 35 = some (.slice 9)) := by show _ = _; kernel_rfl
  unfold encT
  have hbs : ((bA x).size : Int) = (x.length : Int) := by rw [ba_size]
  generalize bA x = b at *
  generalize hn : x.length = n at *
  go_enter Tryd.func44, Tryd.ntmps44
  go_wp2_with fail
  go_loopw [3, 4, 5] (fun l f i wr => ∃ k : Nat, k ≤ n + 1 ∧ i = .int .i64 (k : Int) ∧ f = .int .i64 (frV (wdTo x k).2) ∧ wr.ownsRow w.heap.size 9 1 l (wdTo x k).1.length ((wdTo x k).1.map encT) ∧ Below w.heap.size w wr) (fun _ _ i _ => n + 1 - (intOf i).toNat)
  case atStart => exact ⟨0, Nat.zero_le _, rfl, rfl, World.ownsRow_nil _ _ _ _, Below.refl _ _⟩
  case round =>
    obtain ⟨k, hk, rfl, rfl, hown, hbel⟩ := hrel
    have HOW := hidD hown
    have HBW := hidD hbel
    obtain ⟨a3, c3, h3⟩ := row_shape hown
    subst h3
    obtain ⟨hl1, hl3⟩ := HLE.out k
    by_cases hlt : k ≤ n
    · have hlti : (k : Int) ≤ (n : Int) := by omega
      have HN := hidD (HNX.out k)
      generalize hfr : (wdTo x k).2 = fr at *
      generalize hLL : (wdTo x k).1 = LL at *
      generalize hll : LL.length = ll at *
      have HLL := hidD hll
      clear hown hbel
      have HO6 := hidD (fun o => HOW.out.alloc o)
      unfold frV
      by_cases hend : k = n
      · rw [if_pos (.inl hend)] at HN
        subst hend
        cases hf : fr with
        | some a =>
          rw [hf] at HN
          have hfa := hl3 a hf
          have hsl := HSL.out a k (by omega) (by omega)
          generalize hpc : bA (pcS x a k) = pc at *
          have ha0 : (0 : Int) ≤ (a : Int) := by omega
          have had : decide ((0 : Int) ≤ (a : Int)) = true := decide_eq_true ha0
          go_wp2_with (at_builtin; refine wpList_append_one Tryd.info9 rfl (by decide) HU.out rfl _ _ rfl w.heap.size (.slice a3 ll c3) ll (LL.map encT) rfl (HO6.out _) wr.heap.size (.string pc) rfl (new_cell1 wr (.string pc) 9 0 _ rfl) rfl (by omega) (by have := HBW.out.size; simp; omega) ?_; intro v8 w8 hown8 hb8 hk8; have HO8 := hidD hown8; have HB8 := hidD (Below.trans (Below.alloc HBW.out HBW.out.size _) hb8); clear hown8 hb8 hk8)
          go_roundw
          case rel => exact ⟨k + 1, by omega, by go_num, by first | (rw [HN.out]; done) | (rw [HN.out]; rfl), by rw [HN.out]; show World.ownsRow _ _ _ _ _ (LL ++ [pcS x a k]).length ((LL ++ [pcS x a k]).map encT); rw [List.length_append, List.map_append, HLL.out]; show World.ownsRow _ _ _ _ _ _ (_ ++ [encT _]); unfold encT; rw [hpc]; exact HO8.out, HB8.out⟩
          case measure => simp [intOf]
        | none =>
          rw [hf] at HN
          have hm1 : ¬ (0 : Int) ≤ -1 := by omega
          go_wp2_with fail
          go_roundw
          case rel => exact ⟨k + 1, by omega, by go_num, by first | (rw [HN.out]; done) | (rw [HN.out]; rfl), by rw [HN.out]; show World.ownsRow _ _ _ _ _ LL.length (LL.map encT); rw [HLL.out]; exact HOW.out, HBW.out⟩
          case measure => simp [intOf]
      · have hkb : k < b.size := by have := HSZ.out; omega
        have HG := hidD (HGB.out k hkb)
        have hlt2 : (k : Int) < (n : Int) := by omega
        have hne : ¬ (k : Int) = (n : Int) := by omega
        have hnd : decide ((k : Int) = (n : Int)) = false := decide_eq_false hne
        have hnb : ((k : Int) == (n : Int)) = false := beq_eq_false_iff_ne.2 hne
        by_cases h32 : b[k] = 32
        · rw [if_pos (.inr (.inl (by rw [← HG.out]; exact h32)))] at HN
          have ht : (b[k].toNat : Int) = 32 := by rw [h32]; rfl
          cases hf : fr with
          | some a =>
            rw [hf] at HN
            have hfa := hl3 a hf
            have hsl := HSL.out a k (by omega) (by omega)
            generalize hpc : bA (pcS x a k) = pc at *
            have ha0 : (0 : Int) ≤ (a : Int) := by omega
            have had : decide ((0 : Int) ≤ (a : Int)) = true := decide_eq_true ha0
            go_wp2_with (at_builtin; refine wpList_append_one Tryd.info9 rfl (by decide) HU.out rfl _ _ rfl w.heap.size (.slice a3 ll c3) ll (LL.map encT) rfl (HO6.out _) wr.heap.size (.string pc) rfl (new_cell1 wr (.string pc) 9 0 _ rfl) rfl (by omega) (by have := HBW.out.size; simp; omega) ?_; intro v8 w8 hown8 hb8 hk8; have HO8 := hidD hown8; have HB8 := hidD (Below.trans (Below.alloc HBW.out HBW.out.size _) hb8); clear hown8 hb8 hk8)
            go_roundw
            case rel => exact ⟨k + 1, by omega, by go_num, by first | (rw [HN.out]; done) | (rw [HN.out]; rfl), by rw [HN.out]; show World.ownsRow _ _ _ _ _ (LL ++ [pcS x a k]).length ((LL ++ [pcS x a k]).map encT); rw [List.length_append, List.map_append, HLL.out]; show World.ownsRow _ _ _ _ _ _ (_ ++ [encT _]); unfold encT; rw [hpc]; exact HO8.out, HB8.out⟩
            case measure => simp [intOf]; omega
          | none =>
            rw [hf] at HN
            have hm1 : ¬ (0 : Int) ≤ -1 := by omega
            go_wp2_with fail
            go_roundw
            case rel => exact ⟨k + 1, by omega, by go_num, by first | (rw [HN.out]; done) | (rw [HN.out]; rfl), by rw [HN.out]; show World.ownsRow _ _ _ _ _ LL.length (LL.map encT); rw [HLL.out]; exact HOW.out, HBW.out⟩
            case measure => simp [intOf]; omega
        · have ht : ¬ (b[k].toNat : Int) = 32 := fun hc => h32 (by
            have : b[k].toNat = 32 := by omega
            exact UInt8.toNat_inj.1 this)
          have htb : ((b[k].toNat : Int) == 32) = false := beq_eq_false_iff_ne.2 ht
          have htd : decide ((b[k].toNat : Int) = 32) = false := decide_eq_false ht
          by_cases h9 : b[k] = 9
          · rw [if_pos (.inr (.inr (by rw [← HG.out]; exact h9)))] at HN
            have ht9 : (b[k].toNat : Int) = 9 := by rw [h9]; rfl
            cases hf : fr with
            | some a =>
              rw [hf] at HN
              have hfa := hl3 a hf
              have hsl := HSL.out a k (by omega) (by omega)
              generalize hpc : bA (pcS x a k) = pc at *
              have ha0 : (0 : Int) ≤ (a : Int) := by omega
              have had : decide ((0 : Int) ≤ (a : Int)) = true := decide_eq_true ha0
              go_wp2_with (at_builtin; refine wpList_append_one Tryd.info9 rfl (by decide) HU.out rfl _ _ rfl w.heap.size (.slice a3 ll c3) ll (LL.map encT) rfl (HO6.out _) wr.heap.size (.string pc) rfl (new_cell1 wr (.string pc) 9 0 _ rfl) rfl (by omega) (by have := HBW.out.size; simp; omega) ?_; intro v8 w8 hown8 hb8 hk8; have HO8 := hidD hown8; have HB8 := hidD (Below.trans (Below.alloc HBW.out HBW.out.size _) hb8); clear hown8 hb8 hk8)
              go_roundw
              case rel => exact ⟨k + 1, by omega, by go_num, by first | (rw [HN.out]; done) | (rw [HN.out]; rfl), by rw [HN.out]; show World.ownsRow _ _ _ _ _ (LL ++ [pcS x a k]).length ((LL ++ [pcS x a k]).map encT); rw [List.length_append, List.map_append, HLL.out]; show World.ownsRow _ _ _ _ _ _ (_ ++ [encT _]); unfold encT; rw [hpc]; exact HO8.out, HB8.out⟩
              case measure => simp [intOf]; omega
            | none =>
              rw [hf] at HN
              have hm1 : ¬ (0 : Int) ≤ -1 := by omega
              go_wp2_with fail
              go_roundw
              case rel => exact ⟨k + 1, by omega, by go_num, by first | (rw [HN.out]; done) | (rw [HN.out]; rfl), by rw [HN.out]; show World.ownsRow _ _ _ _ _ LL.length (LL.map encT); rw [HLL.out]; exact HOW.out, HBW.out⟩
              case measure => simp [intOf]; omega
          · have hxn : ¬ (k = n ∨ x.getD k 0 = 32 ∨ x.getD k 0 = 9) := fun hc => by
              rcases hc with hc | hc | hc
              · exact hend hc
              · exact h32 (by rw [HG.out]; exact hc)
              · exact h9 (by rw [HG.out]; exact hc)
            rw [if_neg hxn] at HN
            have ht9 : ¬ (b[k].toNat : Int) = 9 := fun hc => h9 (by
              have : b[k].toNat = 9 := by omega
              exact UInt8.toNat_inj.1 this)
            have htb9 : ((b[k].toNat : Int) == 9) = false := beq_eq_false_iff_ne.2 ht9
            have htn9 : (!((b[k].toNat : Int) == 9)) = true := by rw [htb9]; rfl
            cases hf : fr with
            | some a =>
              rw [hf] at HN
              have hfa : ¬ (a : Int) < 0 := by omega
              go_wp2_with fail
              go_roundw
              case rel => exact ⟨k + 1, by omega, by go_num, by first | (rw [HN.out]; done) | (rw [HN.out]; rfl), by rw [HN.out]; show World.ownsRow _ _ _ _ _ LL.length (LL.map encT); rw [HLL.out]; exact HOW.out, HBW.out⟩
              case measure => simp [intOf]; omega
            | none =>
              rw [hf] at HN
              have hm1 : (-1 : Int) < 0 := by omega
              have hm2 : decide ((-1 : Int) < 0) = true := decide_eq_true hm1
              go_wp2_with fail
              go_roundw
              case rel => exact ⟨k + 1, by omega, by go_num, by first | (rw [HN.out]; done) | (rw [HN.out]; rfl), by rw [HN.out]; show World.ownsRow _ _ _ _ _ LL.length (LL.map encT); rw [HLL.out]; exact HOW.out, HBW.out⟩
              case measure => simp [intOf]; omega
    · obtain rfl : k = n + 1 := by omega
      go_wp2_with fail
      refine bodyPost_ret (v := .slice a3 (wdTo x (n + 1)).1.length c3) (by simp [results, Tryd.results44, go_sem]) rfl ?_
      exact ⟨_, rfl, by rw [HDL.out]; exact HOW.out, HBW.out⟩
end Go.Proofs.YtgmbkelmgolkpaaDoor
