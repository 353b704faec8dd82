/- Texts of one proof, one behind the other. -/
import Derived.Test.YtdpkeffkpecmjaaRta
/- What the statements' among, at and own answer. -/
namespace Go.Proofs.Ytdpkeffkpecmjaa
open Go.RowKit
set_option linter.unusedVariables false

theorem in_take {l : List Int} {x : Int} {k : Nat} (hk : k < l.length) : x ∈ l.take (k + 1) ↔ x ∈ l.take k ∨ x = l.getD k 0 := by
  have ht : l.take (k + 1) = l.take k ++ [l.getD k 0] := by
    rw [List.take_add_one, List.getD_eq_getElem?_getD, List.getElem?_eq_getElem hk]; rfl
  rw [ht, List.mem_append, List.mem_singleton]
set_option maxRecDepth 100000 in
set_option maxHeartbeats 1600000 in
theorem among_any (l : List Int) (hl : l.length ≤ 9223372036854775806) (x : Int) (v : Value) (w : World) (hv : IlAt w v l) : Calls Try.prog 32 #[v, .int .i64 x] w fun e w' => e = .returned (.bool (decide (x ∈ l))) ∧ Below w.heap.size w w' := by
  obtain ⟨a, c, rfl, hc1, hc2, hcell⟩ := hv
  have HCE := hidD hcell
  have HW : Hid (Below w.heap.size w w) := Below.refl _ _
  have HT := hidD (fun k (hk : k < l.length) => in_take (l := l) (x := x) hk)
  have HALL : Hid (l.take l.length = l) := List.take_length
  have HIN : Hid (∀ k, k < l.length → l.getD k 0 ∈ l) := fun k hk => by
    rw [List.getD_eq_getElem?_getD, List.getElem?_eq_getElem hk]; exact List.getElem_mem hk
  clear hcell
  generalize l.length = n at *
  go_enter Try.func32, Try.ntmps32
  go_wp2_with fail
  go_loopw [5] (fun i wr => ∃ k : Nat, k ≤ n ∧ i = .int .i64 k ∧ x ∉ l.take k ∧ Below w.heap.size w wr) (fun i _ => n - (intOf i).toNat)
  case atStart => exact ⟨0, Nat.zero_le _, rfl, by simp, HW.out⟩
  case round =>
    obtain ⟨k, hk, rfl, hno, hbel⟩ := hrel
    have HNO := hidD hno
    have HBW := hidD hbel
    clear hno
    by_cases hlt : k < n
    · have hlti : (k : Int) < n := by omega
      obtain ⟨g1, o1, rfl, hg1, hcl1⟩ := HCE.out k hlt
      have f1 : wr.cell? ⟨g1, o1 + k, none⟩ = some (.int .i64 (l.getD k 0)) := (hbel.cell (p := ⟨g1, _, none⟩) hg1).trans hcl1
      clear hcl1 hbel
      by_cases he : l.getD k 0 = x
      · have HA : Hid (decide (x ∈ l) = true) := decide_eq_true (by have := HIN.out k hlt; rw [he] at this; exact this)
        rw [he] at f1
        have hbb : (x == x) = true := beq_self_eq_true _
        go_wp2_with fail
        go_ret
        exact ⟨by rw [HA.out]; rfl, HBW.out⟩
      · have HN2 : Hid (x ∉ l.take (k + 1)) := fun h => ((HT.out k hlt).1 h).elim HNO.out fun h => he h.symm
        have hbb : (l.getD k 0 == x) = false := beq_eq_false_iff_ne.2 he
        generalize l.getD k 0 = z at *
        go_wp2_with fail
        go_roundw
        case rel => exact ⟨k + 1, by omega, by go_num, HN2.out, HBW.out⟩
        case measure => simp [intOf]; omega
    · obtain rfl : k = n := by omega
      have HA : Hid (decide (x ∈ l) = false) := decide_eq_false (by have := HNO.out; rw [HALL.out] at this; exact this)
      clear hbel
      go_wp2_with fail
      go_ret
      exact ⟨by rw [HA.out]; rfl, HBW.out⟩
/-- The places that the first k numbers mean. -/
def atTo (l : List Int) (n : Nat) : Nat → List Int
  | 0 => []
  | k + 1 => if l.getD k 0 % (n : Int) ∈ atTo l n k then atTo l n k else atTo l n k ++ [l.getD k 0 % (n : Int)]
theorem at_in (l : List Int) (n : Nat) (hn : 0 < n) : ∀ k x, x ∈ atTo l n k → 0 ≤ x ∧ x < n
  | 0, x, h => by simp [atTo] at h
  | k + 1, x, h => by
    rw [atTo] at h
    split at h
    · exact at_in l n hn k x h
    · rcases List.mem_append.1 h with h | h
      · exact at_in l n hn k x h
      · rw [List.mem_singleton] at h
        rw [h]
        exact ⟨Int.emod_nonneg _ (by omega), Int.emod_lt_of_pos _ (by omega)⟩
theorem at_nodup (l : List Int) (n : Nat) : ∀ k, (atTo l n k).Nodup
  | 0 => by simp [atTo]
  | k + 1 => by
    rw [atTo]
    split
    · exact at_nodup l n k
    · rename_i h
      rw [List.nodup_append]
      refine ⟨at_nodup l n k, by simp, fun a ha b hb he => ?_⟩
      rw [List.mem_singleton] at hb
      rw [← hb, ← he] at h
      exact h ha
theorem are_of {l : List Int} {n : Nat} (h1 : l.Nodup) (h2 : ∀ x ∈ l, 0 ≤ x ∧ x < n) : areS l n = true := are_true fun i hi => by
  have hg : l.getD i 0 = l[i] := by rw [List.getD_eq_getElem?_getD, List.getElem?_eq_getElem hi]; rfl
  have := h2 l[i] (List.getElem_mem hi)
  rw [okAt, hg, decide_eq_true this.1, decide_eq_true this.2]
  have hno : (l.take i).contains l[i] = false := by
    rw [List.contains_eq_mem, decide_eq_false_iff_not]
    intro hm
    obtain ⟨j, hj, he⟩ := List.mem_take_iff_getElem.1 hm
    exact (List.pairwise_iff_getElem.1 (List.nodup_iff_pairwise_ne.1 h1)) j i (by omega) hi (by omega) he
  rw [hno]; rfl
theorem at_len (l : List Int) (n : Nat) (hn : 0 < n) (k : Nat) : (atTo l n k).length ≤ n := are_len (are_of (at_nodup l n k) (at_in l n hn k))
theorem rem_twice (x : Int) (n : Nat) (hn : 0 < n) : (x.tmod (n : Int) + (n : Int)).tmod (n : Int) = x % (n : Int) := by
  have h1 := Int.tmod_lt_of_pos x (show (0 : Int) < n by omega)
  have h2 : -(n : Int) < x.tmod n := by
    have := Int.tmod_lt_of_pos (-x) (show (0 : Int) < n by omega)
    rw [Int.neg_tmod] at this; omega
  rw [Int.tmod_eq_emod_of_nonneg (by omega), Int.add_emod_right]
  rw [Int.tmod_def, Int.sub_eq_add_neg, ← Int.mul_neg, Int.add_mul_emod_self_left]
set_option maxRecDepth 100000 in
set_option maxHeartbeats 1600000 in
theorem at_any (l : List Int) (hl : l.length ≤ 9223372036854775806) (n : Nat) (hn : 0 < n) (hn2 : n ≤ 255) (v : Value) (w : World) (hv : IlAt w v l) : Calls Try.prog 31 #[v, .int .i64 n] w fun e w' => ∃ u, e = .returned u ∧ IlAt w' u (atTo l n l.length) ∧ Below w.heap.size w w' := by
  obtain ⟨a, c, rfl, hc1, hc2, hcell⟩ := hv
  have HCE := hidD hcell
  have HW : Hid (Below w.heap.size w w) := Below.refl _ _
  have HAL : Hid (∀ (w' : World) o, Below w'.heap.size w' (w'.alloc o)) := fun w' o => (Below.refl _ _).alloc (Nat.le_refl _) o
  have HLN := hidD (at_len l n hn)
  have HSTP : Hid (∀ k, atTo l n (k + 1) = if l.getD k 0 % (n : Int) ∈ atTo l n k then atTo l n k else atTo l n k ++ [l.getD k 0 % (n : Int)]) := fun k => by rw [atTo]
  have HR2 := hidD (fun x => rem_twice x n hn)
  have HBD : Hid (∀ x : Int, -(n : Int) < x.tmod n ∧ x.tmod n < n) := fun x => by
    have h1 := Int.tmod_lt_of_pos x (show (0 : Int) < n by omega)
    have := Int.tmod_lt_of_pos (-x) (show (0 : Int) < n by omega)
    rw [Int.neg_tmod] at this
    exact ⟨by omega, h1⟩
  clear hcell
  generalize l.length = m at *
  have hn0 : ¬ (n : Int) = 0 := by omega
  have hnb : ((n : Int) == 0) = false := beq_eq_false_iff_ne.2 hn0
  go_enter Try.func31, Try.ntmps31
  go_wp2_with fail
  go_loopw [5, 6, 7] (fun o i _ wr => ∃ k : Nat, k ≤ m ∧ i = .int .i64 k ∧ wr.ownsRow w.heap.size 3 1 o (atTo l n k).length ((atTo l n k).map encI) ∧ Below w.heap.size w wr) (fun _ i _ _ => m - (intOf i).toNat)
  case atStart => exact ⟨0, Nat.zero_le _, rfl, World.ownsRow_nil _ _ _ _, HW.out⟩
  case round =>
    obtain ⟨k, hk, rfl, hown, hbel⟩ := hrel
    have HBW := hidD hbel
    have HOW := hidD hown
    have HIL := hidD (il_of_own hown)
    obtain ⟨a5, c5, hu5⟩ := row_shape hown
    subst hu5
    clear hown
    by_cases hlt : k < m
    · have hlti : (k : Int) < m := by omega
      obtain ⟨g1, o1, rfl, hg1, hcl1⟩ := HCE.out k hlt
      have f1 : wr.cell? ⟨g1, o1 + k, none⟩ = some (.int .i64 (l.getD k 0)) := (hbel.cell (p := ⟨g1, _, none⟩) hg1).trans hcl1
      have HL := hidD (HLN.out k)
      clear hcl1 hbel
      have HN := hidD (HSTP.out k)
      have hr2 := HR2.out (l.getD k 0)
      have hbd := HBD.out (l.getD k 0)
      generalize hPP : atTo l n k = PL at *
      have HPP := hidD hPP
      clear hPP
      have HAM := hidD (fun w' (h : IlAt w' (.slice a5 PL.length c5) PL) => among_any PL (by have := HL.out; omega) (l.getD k 0 % (n : Int)) _ w' h)
      by_cases hin : l.getD k 0 % (n : Int) ∈ PL
      · rw [if_pos hin] at HN
        rw [decide_eq_true hin] at HAM
        clear hin
        generalize l.getD k 0 % (n : Int) = q at *
        generalize l.getD k 0 = z at *
        go_wp2_with (go_at_call 32; refine (HAM.out _ HIL.out).mono ?_; rintro e w5 ⟨rfl, hb⟩; have HB5 := hidD hb; clear hb)
        go_roundw
        case rel => exact ⟨k + 1, by omega, by go_num, by rw [HN.out]; exact row_below HOW.out HB5.out, Below.next HBW.out HB5.out⟩
        case measure => simp [intOf]; omega
      · rw [if_neg hin] at HN
        rw [decide_eq_false hin] at HAM
        clear hin
        generalize l.getD k 0 % (n : Int) = q at *
        generalize l.getD k 0 = z at *
        go_wp2_with (first
          | (go_at_call 32; refine (HAM.out _ HIL.out).mono ?_; rintro e w5 ⟨rfl, hb⟩; have HO5 := hidD (row_below HOW.out hb); have HB5 := hidD (Below.next HBW.out hb); clear hb)
          | (at_builtin; refine wpList_append_int rfl _ _ rfl w.heap.size (.slice a5 PL.length c5) PL.length (PL.map encI) rfl (HO5.out.alloc _) w5.heap.size q rfl (new_cell1 w5 (.int .i64 q) 3 0 _ rfl) (by have := HL.out; omega) (by have := HB5.out.size; simp; omega) ?_; intro v8 w8 hown8 hg8; have HO8 := hidD hown8; have HB8 := hidD (row_grown (HO5.out.alloc _) (Below.next HB5.out (HAL.out _ _)) hg8 (by have := HB5.out.size; simp; omega)); clear hown8 hg8))
        go_roundw
        case rel => exact ⟨k + 1, by omega, by go_num, by rw [HN.out, List.length_append, List.map_append]; exact HO8.out, HB8.out⟩
        case measure => simp [intOf]; omega
    · obtain rfl : k = m := by omega
      clear hbel
      go_wp2_with fail
      go_ret
      exact ⟨_, rfl, HIL.out, HBW.out⟩
set_option maxRecDepth 100000 in
theorem own_any (l : List UInt8) (h0 : 0 < l.length) (hl : l.length ≤ 281474976710656) (v : Value) (w : World) (hv : SlAt w v l) : Calls Try.prog 11 #[v] w fun e w' => ∃ g cap, e = .returned (.slice (some ⟨g, 0, none⟩) l.length cap) ∧ l.length ≤ cap ∧ cap ≤ 9223372036854775807 ∧ w.heap.size ≤ g ∧ RowX w' g l ∧ Below w.heap.size w w' := by
  have HV := hidD hv
  obtain ⟨⟨a', cap, rfl, hsh1, hsh2⟩, _⟩ := hv
  have HAL : Hid (∀ (w' : World) o, Below w'.heap.size w' (w'.alloc o)) := fun w' o => (Below.refl _ _).alloc (Nat.le_refl _) o
  generalize hLL : l.length = LL at *
  have HLL := hidD hLL
  clear hLL
  go_enter Try.func11, Try.ntmps11
  go_wp2_with (at_builtin; refine wpList_append_fresh rfl _ _ rfl ⟨w.heap.size, 0, none⟩ rfl (.slice a' LL cap) l rfl (HV.out.by'.next (HAL.out _ _)) (by rw [HLL.out]; omega) (by rw [HLL.out]; omega) ?_; intro c8 w8 h81 h82 h83 h84; rw [HLL.out] at h81; have H1 := hidD h81; have H2 := hidD h82; have H3 := hidD h83; have H4 := hidD (Below.next (HAL.out _ _) h84); clear h81 h82 h83 h84)
  go_ret
  refine ⟨w.heap.size + 1, c8, ?_, H1.out, H2.out, Nat.le_succ _, ?_, H4.out⟩
  · show Ending.returned (.slice (some ⟨w.heap.size + 1, 0, none⟩) l.length c8) = _
    rw [HLL.out]
  · have := H3.out
    rwa [show (w.alloc (.cells #[] 5)).heap.size = w.heap.size + 1 by simp] at this
end Go.Proofs.Ytdpkeffkpecmjaa
/- Plain facts of RsMends. -/
namespace Go.Proofs.Ytdpkeffkpecmjaa
open Go.RowKit
set_option linter.unusedVariables false

/-- What was done to a word: at the lost places, and at as many others as D has. -/
structure Hurt (x b : List UInt8) (G D : List Int) : Prop where
  len : b.length = x.length
  off : ∀ j, cf b j ≠ cf x j → (j : Int) ∈ G ∨ (j : Int) ∈ D
theorem Hurt.start (x : List UInt8) (G : List Int) : Hurt x x G [] := ⟨rfl, fun j h => absurd rfl h⟩
theorem Hurt.put {x b : List UInt8} {G D : List Int} (h : Hurt x b G D) (q : Nat) (hq : q < x.length) (v : UInt8) (hm : (q : Int) ∈ G ∨ (q : Int) ∈ D) : Hurt x (b.set q v) G D := by
  refine ⟨by rw [List.length_set]; exact h.len, fun j hj => ?_⟩
  rw [cf_set _ _ _ _ (by rw [h.len]; exact hq)] at hj
  by_cases he : j = q
  · rw [he]; exact hm
  · rw [if_neg he] at hj; exact h.off j hj
theorem Hurt.more {x b : List UInt8} {G D : List Int} (h : Hurt x b G D) (q : Int) : Hurt x b G (D ++ [q]) := ⟨h.len, fun j hj => (h.off j hj).elim .inl fun h => .inr (List.mem_append.2 (.inl h))⟩
theorem Hurt.turn {x b : List UInt8} {G D : List Int} (h : Hurt x b G D) (hG : areS G b.length = true) : (turnP b x G).length ≤ D.length := by
  have h1 := nodup_leN (α := Int) ((turnP b x G).map fun (k : Nat) => (b.length : Int) - 1 - (k : Int)) D (by
    rw [List.nodup_iff_pairwise_ne, List.pairwise_map]
    exact (List.nodup_iff_pairwise_ne.1 (turnP_nodup b x G)).imp (fun h he => h (by omega))) (fun y hy => by
    obtain ⟨k, hk, rfl⟩ := List.mem_map.1 hy
    obtain ⟨h1, h2, h3⟩ := turnP_mem.1 hk
    have he := er_at h.len.symm (i := b.length - 1 - k) (by omega)
    rw [show b.length - 1 - (b.length - 1 - k) = k by omega] at he
    rw [he] at h2
    have hne : cf b (b.length - 1 - k) ≠ cf x (b.length - 1 - k) := fun hc => h2 (by rw [hc, UInt8.xor_self])
    rw [show (b.length : Int) - 1 - (k : Int) = ((b.length - 1 - k : Nat) : Int) by omega]
    rcases h.off _ hne with hm | hm
    · exact absurd ((lostP_mem hG (i := b.length - 1 - k) (by omega)).2 hm) (by rw [show b.length - 1 - (b.length - 1 - k) = k by omega]; exact h3)
    · exact hm)
  rw [List.length_map] at h1
  exact h1
theorem Hurt.fine {f p : Nat} (hp1 : 1 ≤ p) (hp : p ≤ 254) {x b : List UInt8} {G D : List Int} (h : Hurt x b G D) (h1 : p < x.length) (h2 : x.length ≤ 255) (hg : ∀ i, i < p → syn f x i = 0) (hG : areS G x.length = true) (hb : 2 * D.length + G.length ≤ p) : Fine f p b G ∧ dWord f p b G = x := by
  have hG' : areS G b.length = true := by rw [h.len]; exact hG
  have ht := h.turn hG'
  have := mends (f := f) hp1 hp b x (by rw [h.len]; exact h1) (by rw [h.len]; exact h2) h.len.symm hg G hG' (by omega)
  exact ⟨this.1, this.2.1⟩
theorem dif_comm (A B : List UInt8) : ∀ k, difTo A B k = difTo B A k
  | 0 => rfl
  | k + 1 => by
    rw [difTo, difTo, dif_comm A B k]
    by_cases h : cf A k = cf B k
    · rw [if_pos h, if_pos h.symm]
    · rw [if_neg h, if_neg (fun h' => h h'.symm)]
theorem dif_none {A B : List UInt8} : ∀ k, difTo A B k = [] ↔ ∀ j, j < k → cf A j = cf B j
  | 0 => by simp [difTo]
  | k + 1 => by
    rw [difTo]
    by_cases h : cf A k = cf B k
    · rw [if_pos h, dif_none k]
      constructor
      · intro h' j hj
        by_cases he : j = k
        · rw [he]; exact h
        · exact h' j (by omega)
      · intro h' j hj; exact h' j (by omega)
    · rw [if_neg h]
      constructor
      · intro h'; simp at h'
      · intro h'; exact absurd (h' k (by omega)) h
/-- The hurt word is good just if nothing was done. -/
theorem Hurt.good {f p : Nat} {x b : List UInt8} {G D : List Int} (h : Hurt x b G D) (h1 : p < x.length) (h2 : x.length ≤ 255) (hg : ∀ i, i < p → syn f x i = 0) (hG : areS G x.length = true) (hb : 2 * D.length + G.length ≤ p) : goodS f p b = ((difTo b x x.length).length == 0) := by
  by_cases he : b = x
  · rw [he, (dif_none x.length).2 fun j _ => rfl]
    unfold goodS
    rw [decide_eq_true h1, decide_eq_true h2, syns_all.2 hg]; rfl
  · have hd : difTo b x x.length ≠ [] := fun hn => he (cf_ext h.len fun k hk => (dif_none x.length).1 hn k (by rw [← h.len]; exact hk))
    have hl : ((difTo b x x.length).length == 0) = false := beq_eq_false_iff_ne.2 (fun hz => hd (List.length_eq_zero_iff.1 hz))
    rw [hl]
    cases hgb : goodS f p b with
    | false => rfl
    | true =>
      exfalso
      unfold goodS at hgb
      simp only [Bool.and_eq_true] at hgb
      have hG' : areS G b.length = true := by rw [h.len]; exact hG
      have ht := h.turn hG'
      refine he (good_apart (f := f) (p := p) (r := b) (c := x) h.len.symm (by rw [h.len]; exact h2) hg (syns_all.1 hgb.2.2) (allP b x G) (allP_nodup hG') (fun k hk => allP_lt hG' hk) (fun k hk => allP_supp h.len.symm hk) ?_)
      unfold allP
      rw [List.length_append, lostP_length]
      omega
theorem at_are (l : List Int) (n : Nat) (hn : 0 < n) (k m : Nat) : areS ((atTo l n k).take m) n = true := are_of (List.Nodup.sublist (List.take_sublist _ _) (at_nodup l n k)) (fun x hx => at_in l n hn k x (List.mem_of_mem_take hx))
theorem IlAt.take {w : World} {a : Option Addr} {l : List Int} {c m : Nat} (h : IlAt w (.slice a l.length c) l) (hm : m ≤ l.length) : IlAt w (.slice a m c) (l.take m) := by
  obtain ⟨a', c', he, h1, h2, h3⟩ := h
  injection he with e1 e2 e3
  subst e1 e3
  have hl : (l.take m).length = m := by rw [List.length_take]; omega
  refine ⟨a, c, by rw [hl], by omega, h2, fun k hk => ?_⟩
  rw [hl] at hk
  obtain ⟨g, o, h4, h5, h6⟩ := h3 k (by omega)
  refine ⟨g, o, h4, h5, ?_⟩
  rw [h6, List.getD_eq_getElem?_getD, List.getD_eq_getElem?_getD, List.getElem?_take, if_pos hk]
end Go.Proofs.Ytdpkeffkpecmjaa
