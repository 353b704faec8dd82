/- Texts of one proof, one behind the other. -/
import Derived.Test.YtdpkeffkpecmjaaRst
import Derived.Test.YtdpkeffkpecmjaaGm
import Derived.Test.YtdpkeffkpecmjaaGy
/- Plain facts of distances; RsApart. -/
namespace Go.Proofs.Ytdpkeffkpecmjaa
open Go.RowKit
set_option linter.unusedVariables false

theorem slice_take {w0 : World} {a : Option Addr} {cap : Nat} {L : List UInt8} (hb : ByAt w0 (.slice a L.length cap) L) (hlc : L.length ≤ cap) (C : Nat) (hC : C ≤ L.length) : ∃ a1 : Option Addr, (∀ w, (Instr.sliceAt 22 (.slice a L.length cap) none (some (.int .i64 (C : Int))) none).run Try.prog w = .ok (.slice a1 (L.take C).length cap) w) ∧ ByAt w0 (.slice a1 (L.take C).length cap) (L.take C) := by
  have hl : (L.take C).length = C := by rw [List.length_take]; omega
  refine ⟨if cap = 0 then a else a.map (·.add 0), fun w => by rw [hl]; exact sliceAt_h a _ cap C (by omega) w, ?_⟩
  rw [hl]
  have he : (if cap = 0 then a else a.map (·.add 0)) = a ∨ cap = 0 := by
    by_cases h0 : cap = 0
    · exact Or.inr h0
    · rw [if_neg h0]
      refine Or.inl ?_
      rcases hb with ⟨hn, a', c', e, hz⟩ | ⟨g, off, c', e, _⟩
      · cases a with
        | none => rfl
        | some ad => rcases ad with ⟨b, o, _ | _⟩ <;> simp [Addr.add]
      · cases e; simp [Addr.add]
  rcases he with he | he
  · rw [he]; exact hb.take hC
  · rw [if_pos he]; exact hb.take hC
/-- At how many of the first k places two words differ. -/
def cntTo (x y : List UInt8) : Nat → Nat
  | 0 => 0
  | k + 1 => if cf x k = cf y k then cntTo x y k else cntTo x y k + 1
theorem cnt_le (x y : List UInt8) : ∀ k, cntTo x y k ≤ k
  | 0 => Nat.le_refl _
  | k + 1 => by have := cnt_le x y k; rw [cntTo]; split <;> omega
theorem cnt_same (x : List UInt8) : ∀ k, cntTo x x k = 0
  | 0 => rfl
  | k + 1 => by rw [cntTo, if_pos rfl, cnt_same x k]
theorem cnt_filter (x y : List UInt8) : ∀ k, ((List.range k).filter fun i => decide (cf x i ≠ cf y i)).length = cntTo x y k
  | 0 => rfl
  | k + 1 => by
    rw [List.range_succ, List.filter_append, List.length_append, cnt_filter x y k, cntTo]
    by_cases h : cf x k = cf y k
    · rw [if_pos h]; simp [h]
    · rw [if_neg h]; simp [h]
/-- Two good words of one length that are unlike differ at more than p places. -/
theorem cnt_apart {f p : Nat} {x y : List UInt8} (h : y.length = x.length) (hl : x.length ≤ 255) (hx : ∀ i, i < p → syn f x i = 0) (hy : ∀ i, i < p → syn f y i = 0) (hne : x ≠ y) : p < cntTo x y x.length := by
  refine Nat.lt_of_not_le fun hle => hne ?_
  refine good_apart h hl hy hx (((List.range x.length).filter fun i => decide (cf x i ≠ cf y i)).map fun i => x.length - 1 - i) ?_ ?_ ?_ (by rw [List.length_map, cnt_filter]; exact hle)
  · rw [List.nodup_iff_pairwise_ne, List.pairwise_map]
    refine List.Pairwise.imp_of_mem ?_ (List.nodup_iff_pairwise_ne.1 (List.Nodup.sublist List.filter_sublist (List.nodup_range (n := x.length))))
    intro a b ha hb hab
    have h1 := List.mem_range.1 (List.mem_filter.1 ha).1
    have h2 := List.mem_range.1 (List.mem_filter.1 hb).1
    omega
  · intro k hk
    obtain ⟨i, hi, rfl⟩ := List.mem_map.1 hk
    have h1 := List.mem_range.1 (List.mem_filter.1 hi).1
    omega
  · intro k hk
    have hlt : k < x.length := Classical.byContradiction fun h' => hk (er_ge h (by omega))
    refine List.mem_map.2 ⟨x.length - 1 - k, List.mem_filter.2 ⟨List.mem_range.2 (by omega), ?_⟩, by omega⟩
    have he := er_at h (i := x.length - 1 - k) (by omega)
    rw [show x.length - 1 - (x.length - 1 - k) = k by omega] at he
    exact decide_eq_true fun hc => hk (by rw [he, hc, UInt8.xor_self])
theorem enc_inj {f p : Nat} {a b : List UInt8} (hl : a.length = b.length) (h : encS f p a = encS f p b) : a = b := by
  have h1 := enc_front f p a
  rw [h, hl, enc_front] at h1
  exact h1.symm

set_option maxRecDepth 100000 in
set_option maxHeartbeats 1600000 in
theorem rsApart_out (p f : Int) (h : ¬ (1 ≤ p ∧ p ≤ 254 ∧ 0 ≤ f ∧ f ≤ 254)) (a b : List UInt8) (va vb : Value) (w : World) (hva : SlAt w va a) (hvb : SlAt w vb b) : Calls Try.prog 8 #[.int .i64 p, .int .i64 f, va, vb] w fun e w' => e = .returned (.bool true) ∧ Below w.heap.size w w' := by
  have HA := hidD (alive_any w)
  have HN := hidD (fun w => rsnew_out p f h w)
  obtain ⟨⟨aa, ca, rfl, hca1, hca2⟩, _⟩ := hva
  obtain ⟨⟨ab, cb, rfl, hcb1, hcb2⟩, _⟩ := hvb
  clear h
  generalize a.length = LA at *
  generalize b.length = LB at *
  by_cases hle : (LA : Int) ≤ LB
  all_goals
    go_enter Try.func8, Try.ntmps8
    go_wp2_with (first
      | (go_at_call 10; refine HA.out.mono ?_; rintro e w1 ⟨rfl, hb⟩; have HB1 := hidD hb; clear hb)
      | (go_at_call 30; refine (HN.out _).mono ?_; rintro e w2 ⟨rfl, hb⟩; have HB2 := hidD (Below.next HB1.out hb); clear hb))
    go_ret
    exact ⟨rfl, HB2.out⟩
set_option maxRecDepth 100000 in
set_option maxHeartbeats 1600000 in
theorem rsApart_none (p f : Nat) (h1 : 1 ≤ p) (h2 : p ≤ 254) (h3 : f ≤ 254) (a b : List UInt8) (hal : a.length ≤ 281474976710656) (hbl : b.length ≤ 281474976710656) (hn : min a.length b.length = 0 ∨ 255 < min a.length b.length + p) (va vb : Value) (w : World) (hva : SlAt w va a) (hvb : SlAt w vb b) : Calls Try.prog 8 #[.int .i64 p, .int .i64 f, va, vb] w fun e w' => e = .returned (.bool true) ∧ Below w.heap.size w w' := by
  have HA := hidD (alive_any w)
  have HN := hidD (rsnew_ok p f h1 h2 h3)
  obtain ⟨⟨aa, ca, rfl, hca1, hca2⟩, _⟩ := hva
  obtain ⟨⟨ab, cb, rfl, hcb1, hcb2⟩, _⟩ := hvb
  generalize a.length = LA at *
  generalize b.length = LB at *
  obtain ⟨N, hN⟩ : ∃ N, N = min LA LB := ⟨_, rfl⟩
  rw [← hN] at hn
  have hcase : (LA ≤ LB ∧ N = LA) ∨ (LB < LA ∧ N = LB) := by omega
  clear hN
  rcases hcase with ⟨hle, hN⟩ | ⟨hle, hN⟩
  all_goals
    subst hN
    rcases hn with hn | hn
    have hni : (N : Int) = 0 := by omega
    have hni2 : ((N : Int) == 0) = true := by rw [hni]; rfl
    rotate_left
    have hni : (255 : Int) < (N : Int) + p := by omega
    have hni2 : ((N : Int) == 0) = false := beq_eq_false_iff_ne.2 (by omega)
    all_goals
      go_enter Try.func8, Try.ntmps8
      go_wp2_with (first
        | (go_at_call 10; refine HA.out.mono ?_; rintro e w1 ⟨rfl, hb⟩; have HB1 := hidD hb; clear hb)
        | (go_at_call 30; refine (HN.out _).mono ?_; rintro e w2 ⟨c, rfl, _, _, hb⟩; have HB2 := hidD (Below.next HB1.out hb); clear hb))
      go_ret
      exact ⟨rfl, HB2.out⟩
end Go.Proofs.Ytdpkeffkpecmjaa
/- What the statements' among, at and own answer. -/
namespace Go.Proofs.Ytdpkeffkpecmjaa
open Go.RowKit
set_option linter.unusedVariables false

theorem in_take {l : List Int} {x : Int} {k : Nat} (hk : k < l.length) : x ∈ l.take (k + 1) ↔ x ∈ l.take k ∨ x = l.getD k 0 := by
  have ht : l.take (k + 1) = l.take k ++ [l.getD k 0] := by
    rw [List.take_add_one, List.getD_eq_getElem?_getD, List.getElem?_eq_getElem hk]; rfl
  rw [ht, List.mem_append, List.mem_singleton]
set_option maxRecDepth 100000 in
set_option maxHeartbeats 1600000 in
theorem among_any (l : List Int) (hl : l.length ≤ 9223372036854775806) (x : Int) (v : Value) (w : World) (hv : IlAt w v l) : Calls Try.prog 32 #[v, .int .i64 x] w fun e w' => e = .returned (.bool (decide (x ∈ l))) ∧ Below w.heap.size w w' := by
  obtain ⟨a, c, rfl, hc1, hc2, hcell⟩ := hv
  have HCE := hidD hcell
  have HW : Hid (Below w.heap.size w w) := Below.refl _ _
  have HT := hidD (fun k (hk : k < l.length) => in_take (l := l) (x := x) hk)
  have HALL : Hid (l.take l.length = l) := List.take_length
  have HIN : Hid (∀ k, k < l.length → l.getD k 0 ∈ l) := fun k hk => by
    rw [List.getD_eq_getElem?_getD, List.getElem?_eq_getElem hk]; exact List.getElem_mem hk
  clear hcell
  generalize l.length = n at *
  go_enter Try.func32, Try.ntmps32
  go_wp2_with fail
  go_loopw [5] (fun i wr => ∃ k : Nat, k ≤ n ∧ i = .int .i64 k ∧ x ∉ l.take k ∧ Below w.heap.size w wr) (fun i _ => n - (intOf i).toNat)
  case atStart => exact ⟨0, Nat.zero_le _, rfl, by simp, HW.out⟩
  case round =>
    obtain ⟨k, hk, rfl, hno, hbel⟩ := hrel
    have HNO := hidD hno
    have HBW := hidD hbel
    clear hno
    by_cases hlt : k < n
    · have hlti : (k : Int) < n := by omega
      obtain ⟨g1, o1, rfl, hg1, hcl1⟩ := HCE.out k hlt
      have f1 : wr.cell? ⟨g1, o1 + k, none⟩ = some (.int .i64 (l.getD k 0)) := (hbel.cell (p := ⟨g1, _, none⟩) hg1).trans hcl1
      clear hcl1 hbel
      by_cases he : l.getD k 0 = x
      · have HA : Hid (decide (x ∈ l) = true) := decide_eq_true (by have := HIN.out k hlt; rw [he] at this; exact this)
        rw [he] at f1
        have hbb : (x == x) = true := beq_self_eq_true _
        go_wp2_with fail
        go_ret
        exact ⟨by rw [HA.out]; rfl, HBW.out⟩
      · have HN2 : Hid (x ∉ l.take (k + 1)) := fun h => ((HT.out k hlt).1 h).elim HNO.out fun h => he h.symm
        have hbb : (l.getD k 0 == x) = false := beq_eq_false_iff_ne.2 he
        generalize l.getD k 0 = z at *
        go_wp2_with fail
        go_roundw
        case rel => exact ⟨k + 1, by omega, by go_num, HN2.out, HBW.out⟩
        case measure => simp [intOf]; omega
    · obtain rfl : k = n := by omega
      have HA : Hid (decide (x ∈ l) = false) := decide_eq_false (by have := HNO.out; rw [HALL.out] at this; exact this)
      clear hbel
      go_wp2_with fail
      go_ret
      exact ⟨by rw [HA.out]; rfl, HBW.out⟩
/-- The places that the first k numbers mean. -/
def atTo (l : List Int) (n : Nat) : Nat → List Int
  | 0 => []
  | k + 1 => if l.getD k 0 % (n : Int) ∈ atTo l n k then atTo l n k else atTo l n k ++ [l.getD k 0 % (n : Int)]
theorem at_in (l : List Int) (n : Nat) (hn : 0 < n) : ∀ k x, x ∈ atTo l n k → 0 ≤ x ∧ x < n
  | 0, x, h => by simp [atTo] at h
  | k + 1, x, h => by
    rw [atTo] at h
    split at h
    · exact at_in l n hn k x h
    · rcases List.mem_append.1 h with h | h
      · exact at_in l n hn k x h
      · rw [List.mem_singleton] at h
        rw [h]
        exact ⟨Int.emod_nonneg _ (by omega), Int.emod_lt_of_pos _ (by omega)⟩
theorem at_nodup (l : List Int) (n : Nat) : ∀ k, (atTo l n k).Nodup
  | 0 => by simp [atTo]
  | k + 1 => by
    rw [atTo]
    split
    · exact at_nodup l n k
    · rename_i h
      rw [List.nodup_append]
      refine ⟨at_nodup l n k, by simp, fun a ha b hb he => ?_⟩
      rw [List.mem_singleton] at hb
      rw [← hb, ← he] at h
      exact h ha
theorem are_of {l : List Int} {n : Nat} (h1 : l.Nodup) (h2 : ∀ x ∈ l, 0 ≤ x ∧ x < n) : areS l n = true := are_true fun i hi => by
  have hg : l.getD i 0 = l[i] := by rw [List.getD_eq_getElem?_getD, List.getElem?_eq_getElem hi]; rfl
  have := h2 l[i] (List.getElem_mem hi)
  rw [okAt, hg, decide_eq_true this.1, decide_eq_true this.2]
  have hno : (l.take i).contains l[i] = false := by
    rw [List.contains_eq_mem, decide_eq_false_iff_not]
    intro hm
    obtain ⟨j, hj, he⟩ := List.mem_take_iff_getElem.1 hm
    exact (List.pairwise_iff_getElem.1 (List.nodup_iff_pairwise_ne.1 h1)) j i (by omega) hi (by omega) he
  rw [hno]; rfl
theorem at_len (l : List Int) (n : Nat) (hn : 0 < n) (k : Nat) : (atTo l n k).length ≤ n := are_len (are_of (at_nodup l n k) (at_in l n hn k))
theorem rem_twice (x : Int) (n : Nat) (hn : 0 < n) : (x.tmod (n : Int) + (n : Int)).tmod (n : Int) = x % (n : Int) := by
  have h1 := Int.tmod_lt_of_pos x (show (0 : Int) < n by omega)
  have h2 : -(n : Int) < x.tmod n := by
    have := Int.tmod_lt_of_pos (-x) (show (0 : Int) < n by omega)
    rw [Int.neg_tmod] at this; omega
  rw [Int.tmod_eq_emod_of_nonneg (by omega), Int.add_emod_right]
  rw [Int.tmod_def, Int.sub_eq_add_neg, ← Int.mul_neg, Int.add_mul_emod_self_left]
set_option maxRecDepth 100000 in
set_option maxHeartbeats 1600000 in
theorem at_any (l : List Int) (hl : l.length ≤ 9223372036854775806) (n : Nat) (hn : 0 < n) (hn2 : n ≤ 255) (v : Value) (w : World) (hv : IlAt w v l) : Calls Try.prog 31 #[v, .int .i64 n] w fun e w' => ∃ u, e = .returned u ∧ IlAt w' u (atTo l n l.length) ∧ Below w.heap.size w w' := by
  obtain ⟨a, c, rfl, hc1, hc2, hcell⟩ := hv
  have HCE := hidD hcell
  have HW : Hid (Below w.heap.size w w) := Below.refl _ _
  have HAL : Hid (∀ (w' : World) o, Below w'.heap.size w' (w'.alloc o)) := fun w' o => (Below.refl _ _).alloc (Nat.le_refl _) o
  have HLN := hidD (at_len l n hn)
  have HSTP : Hid (∀ k, atTo l n (k + 1) = if l.getD k 0 % (n : Int) ∈ atTo l n k then atTo l n k else atTo l n k ++ [l.getD k 0 % (n : Int)]) := fun k => by rw [atTo]
  have HR2 := hidD (fun x => rem_twice x n hn)
  have HBD : Hid (∀ x : Int, -(n : Int) < x.tmod n ∧ x.tmod n < n) := fun x => by
    have h1 := Int.tmod_lt_of_pos x (show (0 : Int) < n by omega)
    have := Int.tmod_lt_of_pos (-x) (show (0 : Int) < n by omega)
    rw [Int.neg_tmod] at this
    exact ⟨by omega, h1⟩
  clear hcell
  generalize l.length = m at *
  have hn0 : ¬ (n : Int) = 0 := by omega
  have hnb : ((n : Int) == 0) = false := beq_eq_false_iff_ne.2 hn0
  go_enter Try.func31, Try.ntmps31
  go_wp2_with fail
  go_loopw [5, 6, 7] (fun o i _ wr => ∃ k : Nat, k ≤ m ∧ i = .int .i64 k ∧ wr.ownsRow w.heap.size 3 1 o (atTo l n k).length ((atTo l n k).map encI) ∧ Below w.heap.size w wr) (fun _ i _ _ => m - (intOf i).toNat)
  case atStart => exact ⟨0, Nat.zero_le _, rfl, World.ownsRow_nil _ _ _ _, HW.out⟩
  case round =>
    obtain ⟨k, hk, rfl, hown, hbel⟩ := hrel
    have HBW := hidD hbel
    have HOW := hidD hown
    have HIL := hidD (il_of_own hown)
    obtain ⟨a5, c5, hu5⟩ := row_shape hown
    subst hu5
    clear hown
    by_cases hlt : k < m
    · have hlti : (k : Int) < m := by omega
      obtain ⟨g1, o1, rfl, hg1, hcl1⟩ := HCE.out k hlt
      have f1 : wr.cell? ⟨g1, o1 + k, none⟩ = some (.int .i64 (l.getD k 0)) := (hbel.cell (p := ⟨g1, _, none⟩) hg1).trans hcl1
      have HL := hidD (HLN.out k)
      clear hcl1 hbel
      have HN := hidD (HSTP.out k)
      have hr2 := HR2.out (l.getD k 0)
      have hbd := HBD.out (l.getD k 0)
      generalize hPP : atTo l n k = PL at *
      have HPP := hidD hPP
      clear hPP
      have HAM := hidD (fun w' (h : IlAt w' (.slice a5 PL.length c5) PL) => among_any PL (by have := HL.out; omega) (l.getD k 0 % (n : Int)) _ w' h)
      by_cases hin : l.getD k 0 % (n : Int) ∈ PL
      · rw [if_pos hin] at HN
        rw [decide_eq_true hin] at HAM
        clear hin
        generalize l.getD k 0 % (n : Int) = q at *
        generalize l.getD k 0 = z at *
        go_wp2_with (go_at_call 32; refine (HAM.out _ HIL.out).mono ?_; rintro e w5 ⟨rfl, hb⟩; have HB5 := hidD hb; clear hb)
        go_roundw
        case rel => exact ⟨k + 1, by omega, by go_num, by rw [HN.out]; exact row_below HOW.out HB5.out, Below.next HBW.out HB5.out⟩
        case measure => simp [intOf]; omega
      · rw [if_neg hin] at HN
        rw [decide_eq_false hin] at HAM
        clear hin
        generalize l.getD k 0 % (n : Int) = q at *
        generalize l.getD k 0 = z at *
        go_wp2_with (first
          | (go_at_call 32; refine (HAM.out _ HIL.out).mono ?_; rintro e w5 ⟨rfl, hb⟩; have HO5 := hidD (row_below HOW.out hb); have HB5 := hidD (Below.next HBW.out hb); clear hb)
          | (at_builtin; refine wpList_append_int rfl _ _ rfl w.heap.size (.slice a5 PL.length c5) PL.length (PL.map encI) rfl (HO5.out.alloc _) w5.heap.size q rfl (new_cell1 w5 (.int .i64 q) 3 0 _ rfl) (by have := HL.out; omega) (by have := HB5.out.size; simp; omega) ?_; intro v8 w8 hown8 hg8; have HO8 := hidD hown8; have HB8 := hidD (row_grown (HO5.out.alloc _) (Below.next HB5.out (HAL.out _ _)) hg8 (by have := HB5.out.size; simp; omega)); clear hown8 hg8))
        go_roundw
        case rel => exact ⟨k + 1, by omega, by go_num, by rw [HN.out, List.length_append, List.map_append]; exact HO8.out, HB8.out⟩
        case measure => simp [intOf]; omega
    · obtain rfl : k = m := by omega
      clear hbel
      go_wp2_with fail
      go_ret
      exact ⟨_, rfl, HIL.out, HBW.out⟩
set_option maxRecDepth 100000 in
theorem own_any (l : List UInt8) (h0 : 0 < l.length) (hl : l.length ≤ 281474976710656) (v : Value) (w : World) (hv : SlAt w v l) : Calls Try.prog 11 #[v] w fun e w' => ∃ g cap, e = .returned (.slice (some ⟨g, 0, none⟩) l.length cap) ∧ l.length ≤ cap ∧ cap ≤ 9223372036854775807 ∧ w.heap.size ≤ g ∧ RowX w' g l ∧ Below w.heap.size w w' := by
  have HV := hidD hv
  obtain ⟨⟨a', cap, rfl, hsh1, hsh2⟩, _⟩ := hv
  have HAL : Hid (∀ (w' : World) o, Below w'.heap.size w' (w'.alloc o)) := fun w' o => (Below.refl _ _).alloc (Nat.le_refl _) o
  generalize hLL : l.length = LL at *
  have HLL := hidD hLL
  clear hLL
  go_enter Try.func11, Try.ntmps11
  go_wp2_with (at_builtin; refine wpList_append_fresh rfl _ _ rfl ⟨w.heap.size, 0, none⟩ rfl (.slice a' LL cap) l rfl (HV.out.by'.next (HAL.out _ _)) (by rw [HLL.out]; omega) (by rw [HLL.out]; omega) ?_; intro c8 w8 h81 h82 h83 h84; rw [HLL.out] at h81; have H1 := hidD h81; have H2 := hidD h82; have H3 := hidD h83; have H4 := hidD (Below.next (HAL.out _ _) h84); clear h81 h82 h83 h84)
  go_ret
  refine ⟨w.heap.size + 1, c8, ?_, H1.out, H2.out, Nat.le_succ _, ?_, H4.out⟩
  · show Ending.returned (.slice (some ⟨w.heap.size + 1, 0, none⟩) l.length c8) = _
    rw [HLL.out]
  · have := H3.out
    rwa [show (w.alloc (.cells #[] 5)).heap.size = w.heap.size + 1 by simp] at this
end Go.Proofs.Ytdpkeffkpecmjaa
/- What the document's among answers. -/
namespace Go.Proofs.Ytdpkeffkpecmjaa
open Go.RowKit
set_option linter.unusedVariables false

set_option maxRecDepth 100000 in
set_option maxHeartbeats 1600000 in
theorem rkAmong_any (l : List Int) (hl : l.length ≤ 9223372036854775806) (x : Int) (v : Value) (w : World) (hv : IlAt w v l) : Calls Try.prog 48 #[v, .int .i64 x] w fun e w' => e = .returned (.bool (decide (x ∈ l))) ∧ Below w.heap.size w w' := by
  obtain ⟨a, c, rfl, hc1, hc2, hcell⟩ := hv
  have HCE := hidD hcell
  have HW : Hid (Below w.heap.size w w) := Below.refl _ _
  have HT := hidD (fun k (hk : k < l.length) => in_take (l := l) (x := x) hk)
  have HALL : Hid (l.take l.length = l) := List.take_length
  have HIN : Hid (∀ k, k < l.length → l.getD k 0 ∈ l) := fun k hk => by
    rw [List.getD_eq_getElem?_getD, List.getElem?_eq_getElem hk]; exact List.getElem_mem hk
  clear hcell
  generalize l.length = n at *
  go_enter Try.func48, Try.ntmps48
  go_wp2_with fail
  go_loopw [5] (fun i wr => ∃ k : Nat, k ≤ n ∧ i = .int .i64 k ∧ x ∉ l.take k ∧ Below w.heap.size w wr) (fun i _ => n - (intOf i).toNat)
  case atStart => exact ⟨0, Nat.zero_le _, rfl, by simp, HW.out⟩
  case round =>
    obtain ⟨k, hk, rfl, hno, hbel⟩ := hrel
    have HNO := hidD hno
    have HBW := hidD hbel
    clear hno
    by_cases hlt : k < n
    · have hlti : (k : Int) < n := by omega
      obtain ⟨g1, o1, rfl, hg1, hcl1⟩ := HCE.out k hlt
      have f1 : wr.cell? ⟨g1, o1 + k, none⟩ = some (.int .i64 (l.getD k 0)) := (hbel.cell (p := ⟨g1, _, none⟩) hg1).trans hcl1
      clear hcl1 hbel
      by_cases he : l.getD k 0 = x
      · have HA : Hid (decide (x ∈ l) = true) := decide_eq_true (by have := HIN.out k hlt; rw [he] at this; exact this)
        rw [he] at f1
        have hbb : (x == x) = true := beq_self_eq_true _
        go_wp2_with fail
        go_ret
        exact ⟨by rw [HA.out]; rfl, HBW.out⟩
      · have HN2 : Hid (x ∉ l.take (k + 1)) := fun h => ((HT.out k hlt).1 h).elim HNO.out fun h => he h.symm
        have hbb : (l.getD k 0 == x) = false := beq_eq_false_iff_ne.2 he
        generalize l.getD k 0 = z at *
        go_wp2_with fail
        go_roundw
        case rel => exact ⟨k + 1, by omega, by go_num, HN2.out, HBW.out⟩
        case measure => simp [intOf]; omega
    · obtain rfl : k = n := by omega
      have HA : Hid (decide (x ∈ l) = false) := decide_eq_false (by have := HNO.out; rw [HALL.out] at this; exact this)
      clear hbel
      go_wp2_with fail
      go_ret
      exact ⟨by rw [HA.out]; rfl, HBW.out⟩
end Go.Proofs.Ytdpkeffkpecmjaa
