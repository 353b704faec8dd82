/- Texts of one proof, one behind the other. -/
import Derived.Test.YtgmbkelmgolkpabDoorStc
import Derived.Test.YtgmbkelmgolkpabDoorGnl
import Derived.Test.YtgmbkelmgolkpabDoorGg
import Derived.Test.YtgmbkelmgolkpabDoorGf
/- What the law's own has answers. -/
namespace Go.Proofs.YtgmbkelmgolkpabDoor
open Go.RowKit
set_option linter.unusedVariables false

set_option maxRecDepth 100000 in
set_option maxHeartbeats 800000 in
theorem lawHas_any (l : List Int) (hl : l.length ≤ 9223372036854775806) (x : Int) (v : Value) (w : World) (hv : IlAt w v l) : Calls Tryd.prog 13 #[v, .int .i64 x] w fun e w' => e = .returned (.bool (l.contains x)) ∧ Below w.heap.size w w' := by
  obtain ⟨a, c, rfl, hc1, hc2, hcell⟩ := hv
  have HCE := hidD hcell
  have HYES : Hid (∀ k, k < l.length → l.getD k 0 = x → l.contains x = true) := fun k hk he => by
    rw [List.contains_iff_mem, ← he, List.getD_eq_getElem?_getD, List.getElem?_eq_getElem hk]
    exact List.getElem_mem hk
  have HNO : Hid ((∀ k, k < l.length → l.getD k 0 ≠ x) → l.contains x = false) := fun h => by
    cases hc : l.contains x with
    | false => rfl
    | true =>
      rw [List.contains_iff_mem] at hc
      obtain ⟨k, hk, he⟩ := List.getElem_of_mem hc
      exact absurd (by rw [List.getD_eq_getElem?_getD, List.getElem?_eq_getElem hk]; exact he) (h k hk)
  clear hcell
  generalize l.contains x = R at *
  generalize l.length = n at *
  go_enter Tryd.func13, Tryd.ntmps13
  go_wp2_with fail
  go_loopw [5] (fun i wr => ∃ k : Nat, k ≤ n ∧ i = .int .i64 (k : Int) ∧ wr = w ∧ ∀ j, j < k → l.getD j 0 ≠ x) (fun i _ => n - (intOf i).toNat)
  case atStart => exact ⟨0, Nat.zero_le _, rfl, rfl, fun j hj => absurd hj (Nat.not_lt_zero _)⟩
  case round =>
    obtain ⟨k, hk, rfl, hw, hall⟩ := hrel
    subst wr
    have HALL := hidD hall
    clear hall
    by_cases hlt : k < n
    · have hlti : (k : Int) < (n : Int) := by omega
      obtain ⟨g, o, rfl, hg, hcl⟩ := HCE.out k hlt
      have HY := hidD (HYES.out k hlt)
      have HNE : Hid (l.getD k 0 ≠ x → ∀ j, j < k + 1 → l.getD j 0 ≠ x) := fun hne j hj => by
        by_cases e : j = k
        · rw [e]; exact hne
        · exact HALL.out j (by omega)
      clear HYES HNO HCE
      generalize l.getD k 0 = y at *
      by_cases he : y = x
      · have HR := hidD (HY.out he)
        subst he
        go_wp2_with fail
        refine bodyPost_ret (v := .bool true) (by simp [results, Tryd.results13, go_sem]) rfl ?_
        exact ⟨by rw [HR.out], Below.refl _ _⟩
      · have HN := hidD (HNE.out he)
        have hed : decide (y = x) = false := decide_eq_false he
        clear HNE
        go_wp2_with fail
        go_roundw
        case rel => exact ⟨k + 1, by omega, by go_num, by first | rfl | trivial, HN.out⟩
        case measure => simp [intOf]; omega
    · obtain rfl : k = n := by omega
      have HR := hidD (HNO.out HALL.out)
      go_wp2_with fail
      refine bodyPost_ret (v := .bool false) (by simp [results, Tryd.results13, go_sem]) rfl ?_
      exact ⟨by rw [HR.out], Below.refl _ _⟩
end Go.Proofs.YtgmbkelmgolkpabDoor
/- What GrammarLasts asks, in words of the calls. -/
namespace Go.Proofs.YtgmbkelmgolkpabDoor
open Go.RowKit Go.Maps
set_option linter.unusedVariables false

theorem nu_ne (A : List Tx) (t : Nat) : ∀ k x c, nuTo A t k x = some c → c ≠ (t : Int)
  | 0, x, c, h => by cases h
  | k + 1, x, c, h => by
    rw [nuTo] at h
    split at h
    · exact nu_ne A t k x c h
    · rename_i hk
      have h : (if x = A.getD k [] then some (k : Int) else nuTo A t k x) = some c := h
      split at h
      · cases h; omega
      · exact nu_ne A t k x c h
theorem bq_bits {nul l : Nat} {r : List Int} {S : Nat → Nat} {x i : Nat} (h : (S x).testBit i = true) : ∀ q, (bqTo nul l r S q x).testBit i = true
  | 0 => h
  | q + 1 => by
    rw [bqTo]; split
    · by_cases hx : x = l
      · rw [hx, upd_same, Nat.testBit_or]; have := bq_bits (nul := nul) (l := l) (r := r) h q; rw [hx] at this; rw [this, Bool.true_or]
      · rw [upd_other hx]; exact bq_bits h q
    · exact bq_bits h q
theorem bp_bits {R : Ru} {nul : Nat} {S : Nat → Nat} {x i : Nat} (h : (S x).testBit i = true) : ∀ k, (bpTo R nul S k x).testBit i = true
  | 0 => h
  | k + 1 => bq_bits (bp_bits h k) _
theorem bpIt_bits {R : Ru} {nul : Nat} {S : Nat → Nat} {x i : Nat} (h : (S x).testBit i = true) : ∀ j, (bpIt R nul S j x).testBit i = true
  | 0 => h
  | j + 1 => bp_bits (bpIt_bits h j) _
theorem all_of_pr {x : Tx} (h : (prR x).2 = 0) : (parsL x).all (roF (nuF (teS (parsL x)) (otS (parsL x))) (teS (parsL x)).length) = true := by
  unfold prR at h
  split at h
  · cases h
  · split at h
    · split at h
      · rename_i he
        unfold prE newE at he
        split at he
        · split at he
          · rename_i hc
            rw [Bool.and_eq_true] at hc
            exact hc.1
          · cases he
        · cases he
      · rename_i he; exact absurd h he
    · cases h
theorem gy_of {w : World} {p : Nat} {x : Tx} (hE : (prR x).2 = 0) {st nul : Nat} {bg fo : Nat → Nat} (h : GfAt w p (teS (parsL x)) (otS (parsL x)) st ((parsL x).map (rnF (nuF (teS (parsL x)) (otS (parsL x))))) nul bg fo) : Gy ((parsL x).map (rnF (nuF (teS (parsL x)) (otS (parsL x))))) (allN (teS (parsL x)) (otS (parsL x))).length ((teS (parsL x)).length + 1) nul bg := by
  have hall := all_of_pr hE
  rw [List.all_eq_true] at hall
  have hlen := allN_len (teS (parsL x)) (otS (parsL x))
  obtain ⟨j, hj, hb⟩ := h.bs
  refine ⟨h.ok, h.few, ⟨by omega, by omega⟩, fun k hk => ?_, fun k hk q hq => ?_, h.gr, hb, fun y hy => ?_⟩
  · rw [List.length_map] at hk
    have h1 := hall ((parsL x)[k]) (List.getElem_mem hk)
    rw [List.getD_eq_getElem?_getD, List.getElem?_map, List.getElem?_eq_getElem hk]
    show _ ≤ (rnF _ _).1
    unfold roF at h1
    rw [Bool.and_eq_true, Bool.and_eq_true] at h1
    have h2 := of_decide_eq_true h1.1.2
    unfold rnF
    show _ ≤ (vaF _ _).toNat
    omega
  · rw [List.length_map] at hk
    have h1 := hall ((parsL x)[k]) (List.getElem_mem hk)
    have hRk : ((parsL x).map (rnF (nuF (teS (parsL x)) (otS (parsL x))))).getD k (0, []) = rnF (nuF (teS (parsL x)) (otS (parsL x))) (parsL x)[k] := by
      rw [List.getD_eq_getElem?_getD, List.getElem?_map, List.getElem?_eq_getElem hk]; rfl
    rw [hRk] at hq ⊢
    simp only [rnF, List.length_map] at hq ⊢
    unfold roF at h1
    rw [Bool.and_eq_true] at h1
    have h2 := h1.2
    rw [List.all_eq_true] at h2
    have h3 := h2 (((parsL x)[k].drop 1)[q]) (List.getElem_mem hq)
    rw [List.getD_eq_getElem?_getD, List.getElem?_map, List.getElem?_eq_getElem hq]
    simp only [Option.map_some, Option.getD_some, Nat.add_sub_cancel]
    cases hc : nuF (teS (parsL x)) (otS (parsL x)) ((parsL x)[k].drop 1)[q] with
    | none => rw [hc] at h3; cases h3
    | some c =>
      unfold vaF
      rw [hc, Option.getD_some]
      exact nu_ne _ _ _ _ _ hc
  · rw [hj]
    refine bpIt_bits ?_ j
    unfold biS
    rw [if_pos hy, Nat.testBit_two_pow]; simp
/-- What the calls answer of lists that need not be told. -/
def FiC (w : World) (p : Nat) (l A : List Int) : Prop := ∀ v w', Below w.heap.size w w' → IlAt w' v l → Calls Tryd.prog 14 #[.pointer (some ⟨p, 0, none⟩), v] w' fun e w'' => ∃ u, e = .returned u ∧ IlAt w'' u A ∧ Below w'.heap.size w' w''
def NuC (w : World) (p : Nat) (l : List Int) (b : Bool) : Prop := ∀ v w', Below w.heap.size w w' → IlAt w' v l → Calls Tryd.prog 12 #[.pointer (some ⟨p, 0, none⟩), v] w' fun e w'' => e = .returned (.bool b) ∧ Below w'.heap.size w' w''
def HsC (A : List Int) (x : Int) (b : Bool) : Prop := ∀ u w', IlAt w' u A → Calls Tryd.prog 13 #[u, .int .i64 x] w' fun e w'' => e = .returned (.bool b) ∧ Below w'.heap.size w' w''
/-- What is true of a symbol's least text. -/
def LtC (w : World) (p Tt : Nat) (s : Nat) (ok : Bool) (l : List Int) : Prop := l.length ≤ 1048576 ∧ (ok = false → l = []) ∧ (ok = true → (∀ j, j < l.length → 0 ≤ l.getD j 0 ∧ l.getD j 0 < (Tt : Int) - 1) ∧ NuC w p [(s : Int)] (decide (l = [])) ∧ ∃ B, FiC w p [(s : Int)] B ∧ (l ≠ [] → HsC B (l.getD 0 0) true))
theorem nb_get {t : Tx} {j : Nat} (hj : j < t.length) : (nbS t).getD j 0 = (t[j].toNat : Int) := by
  simp [nbS, List.getD, List.getElem?_map, List.getElem?_eq_getElem hj]
theorem least_told {w : World} {p : Nat} {x : Tx} (hE : (prR x).2 = 0) {st nul : Nat} {bg fo : Nat → Nat} (h : GfAt w p (teS (parsL x)) (otS (parsL x)) st ((parsL x).map (rnF (nuF (teS (parsL x)) (otS (parsL x))))) nul bg fo) (s : Nat) (hs0 : (teS (parsL x)).length + 1 ≤ s) (hs : s < (allN (teS (parsL x)) (otS (parsL x))).length) :
    Calls Tryd.prog 11 #[.pointer (some ⟨p, 0, none⟩), .int .i64 (s : Int)] w fun e w' => ∃ (ok : Bool) (l : List Int) (u : Value), e = .returned (.tuple #[u, .bool ok]) ∧ IlAt w' u l ∧ LtC w p ((teS (parsL x)).length + 1) s ok l ∧ Below w.heap.size w w' := by
  have G := gy_of hE h
  refine (least_any h _ _ (rounds_of G) s hs).mono fun e w' ⟨F, A, h1, h2, h3⟩ => ?_
  cases hse : (F s).se with
  | false => exact ⟨false, [], _, h1 hse, IlAt.nil _, ⟨by simp, fun _ => rfl, fun hc => by cases hc⟩, h3⟩
  | true =>
    obtain ⟨hi, u, e1, e2, e3⟩ := h2 hse
    obtain ⟨⟨t1, t2, t3⟩, t4⟩ := inv_told hi hs0 hs hse
    have hnl : ((nbS (F s).t) = []) ↔ (F s).t = [] := by simp [nbS]
    have hb0 : fiS (gsOf (teS (parsL x)) (otS (parsL x)) st nul bg fo) [(s : Int)] = bg s := by
      show bg _ ||| (if nul.testBit _ then 0 else 0) = _
      rw [ite_self, Nat.or_zero, Int.toNat_natCast]
    refine ⟨true, nbS (F s).t, u, e1, e2, ⟨by rw [nbS, List.length_map]; exact e3, (fun hc => by cases hc), fun _ => ⟨fun j hj => ?_, fun v w2 hb hv => ?_, liTo (bg s) 128, fun v w2 hb hv => ?_, fun hne u2 w2 hu => ?_⟩⟩, h3⟩
    · rw [nbS, List.length_map] at hj
      rw [nb_get hj]
      have := t1 ((F s).t[j]) (List.getElem_mem hj)
      exact ⟨by omega, by omega⟩
    · have hq := nullable_any [(s : Int)] (by rw [List.length_singleton]; omega) v w2 (h.gm.next hb) hv
      have hz : [(s : Int)].all (nulS (gsOf (teS (parsL x)) (otS (parsL x)) st nul bg fo)) = decide (nbS (F s).t = []) := by
        rw [List.all_cons, List.all_nil, Bool.and_true]
        unfold nulS hasS
        rw [decide_eq_true (show (0 : Int) ≤ (s : Int) by omega), decide_eq_true (show (s : Int) < (((gsOf (teS (parsL x)) (otS (parsL x)) st nul bg fo).n : Nat) : Int) by show (s : Int) < ((allN _ _).length : Int); omega)]
        show (true && true && nul.testBit (s : Int).toNat) = _
        rw [Int.toNat_natCast, Bool.and_self, Bool.true_and]
        cases hn : nul.testBit s with
        | true => exact (decide_eq_true (hnl.2 (t4 hn))).symm
        | false => exact (decide_eq_false (fun hc => by rw [t2 (hnl.1 hc)] at hn; cases hn)).symm
      rw [hz] at hq
      exact hq
    · have hq := first_any [(s : Int)] (by rw [List.length_singleton]; omega) (fun k hk => by
        have hk1 : k < 1 := hk
        obtain rfl : k = 0 := by omega
        show hasS _ (s : Int) = true
        unfold hasS
        rw [decide_eq_true (show (0 : Int) ≤ (s : Int) by omega), decide_eq_true (show (s : Int) < (((gsOf (teS (parsL x)) (otS (parsL x)) st nul bg fo).n : Nat) : Int) by show (s : Int) < ((allN _ _).length : Int); omega)]; rfl) v w2 (h.gm.next hb) hv
      rw [hb0] at hq
      exact hq
    · cases ht : (F s).t with
      | nil => exact absurd (hnl.2 ht) hne
      | cons b r =>
        have h5 := t3 b r ht
        have h6 := t1 b (by rw [ht]; exact List.mem_cons_self)
        have hq := lawHas_any (liTo (bg s) 128) (Nat.le_trans (liTo_len _ _) (by decide)) ((nbS (b :: r)).getD 0 0) u2 w2 hu
        have h7 : (nbS (b :: r)).getD 0 0 = ((b.toNat : Nat) : Int) := rfl
        rw [h7] at hq ⊢
        rw [has_li (by have := G.tn; have := G.few; omega) h5] at hq
        exact hq
theorem us_mem {E X T : Nat} : ∀ {k : Nat} {y : Int}, y ∈ usTo E X T k → ∃ j, j < k ∧ y = ((T + j : Nat) : Int)
  | 0, y, h => by cases h
  | k + 1, y, h => by
    rw [usTo] at h
    split at h
    · obtain ⟨j, h1, h2⟩ := us_mem h; exact ⟨j, by omega, h2⟩
    · rw [List.mem_append, List.mem_singleton] at h
      rcases h with h | h
      · obtain ⟨j, h1, h2⟩ := us_mem h; exact ⟨j, by omega, h2⟩
      · exact ⟨k, by omega, h⟩
theorem us_rise {E X T : Nat} : ∀ {k i : Nat}, i + 1 < (usTo E X T k).length → (usTo E X T k).getD i 0 < (usTo E X T k).getD (i + 1) 0
  | 0, i, h => by simp [usTo] at h
  | k + 1, i, h => by
    rw [usTo] at h ⊢
    split
    · rename_i hc; rw [if_pos hc] at h; exact us_rise h
    · rename_i hc
      rw [if_neg hc, List.length_append, List.length_singleton] at h
      by_cases hi : i + 1 < (usTo E X T k).length
      · rw [List.getD_eq_getElem?_getD, List.getElem?_append_left (by omega), ← List.getD_eq_getElem?_getD, List.getD_eq_getElem?_getD (i := i + 1), List.getElem?_append_left hi, ← List.getD_eq_getElem?_getD]
        exact us_rise hi
      · rw [List.getD_eq_getElem?_getD, List.getElem?_append_left (by omega), List.getD_eq_getElem?_getD (i := i + 1), List.getElem?_append_right (by omega), List.getElem?_eq_getElem (show i < _ by omega)]
        obtain ⟨j, h1, h2⟩ := us_mem (List.getElem_mem (show i < (usTo E X T k).length by omega))
        rw [show i + 1 - (usTo E X T k).length = 0 by omega]
        simp only [Option.getD_some, List.getElem?_cons_zero]
        omega
end Go.Proofs.YtgmbkelmgolkpabDoor
