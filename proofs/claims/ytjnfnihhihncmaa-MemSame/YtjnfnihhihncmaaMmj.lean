/- Rows of regions; Clone, Compare, the closure of New. -/
import Derived.Test.YtjnfnihhihncmaaMmi
import Derived.Laws.AppendOwnNone
namespace Go.Proofs.Ytjnfnihhihncmaa
open Go.RowKit
set_option linter.unusedVariables false

abbrev Rgn := Int × Int × Int
def encR (x : Rgn) : List Value := [.int .i64 x.1, .int .i64 x.2.1, .int .i64 x.2.2]
def flatR (L : List Rgn) : List Value := L.flatMap encR
theorem flatR_cons (x : Rgn) (L : List Rgn) : flatR (x :: L) = .int .i64 x.1 :: .int .i64 x.2.1 :: .int .i64 x.2.2 :: flatR L := rfl
theorem flatR_len : ∀ L : List Rgn, (flatR L).length = L.length * 3
  | [] => rfl
  | x :: L => by rw [flatR_cons]; simp only [List.length_cons, flatR_len L]; omega
theorem flatR_get : ∀ (L : List Rgn) (i : Nat) (h : i < L.length), (flatR L)[i * 3]? = some (.int .i64 L[i].1) ∧ (flatR L)[i * 3 + 1]? = some (.int .i64 L[i].2.1) ∧ (flatR L)[i * 3 + 2]? = some (.int .i64 L[i].2.2)
  | [], i, h => absurd h (by simp)
  | x :: L, 0, h => ⟨rfl, rfl, rfl⟩
  | x :: L, i + 1, h => by
    have := flatR_get L i (by simpa using h)
    rw [flatR_cons, show (i + 1) * 3 = i * 3 + 3 by omega]
    exact this
theorem flatR_one : ∀ (L : List Rgn) (u : Value), u ∈ flatR L → u.oneCell' = true := fun L u hu => by
  obtain ⟨x, _, hx⟩ := List.mem_flatMap.1 hu
  simp only [encR, List.mem_cons, List.not_mem_nil, or_false] at hx
  rcases hx with rfl | rfl | rfl <;> rfl
/- a slice value that reads as these regions -/
def RsAt (w : World) (v : Value) (L : List Rgn) : Prop :=
  ∃ va rc, v = .slice va L.length rc ∧ (va = none → rc = 0) ∧ ∀ i (h : i < L.length), ∃ g o, va = some ⟨g, o, none⟩ ∧ g < w.heap.size ∧ w.cell? ⟨g, o + i * 3, none⟩ = some (.int .i64 L[i].1) ∧ w.cell? ⟨g, o + (i * 3 + 1), none⟩ = some (.int .i64 L[i].2.1) ∧ w.cell? ⟨g, o + (i * 3 + 2), none⟩ = some (.int .i64 L[i].2.2)
theorem RsAt.next {w w' : World} {v : Value} {L : List Rgn} (h : RsAt w v L) (hb : Below w.heap.size w w') : RsAt w' v L := by
  obtain ⟨va, rc, rfl, h0, hc⟩ := h
  refine ⟨va, rc, rfl, h0, fun i hi => ?_⟩
  obtain ⟨g, o, e, hg, c0, c1, c2⟩ := hc i hi
  exact ⟨g, o, e, Nat.lt_of_lt_of_le hg hb.size, (hb.cell (p := ⟨g, _, none⟩) hg).trans c0, (hb.cell (p := ⟨g, _, none⟩) hg).trans c1, (hb.cell (p := ⟨g, _, none⟩) hg).trans c2⟩
/- a row of its own reads as regions -/
theorem own_rs {w : World} {base n : Nat} {v : Value} {L : List Rgn} (h : w.ownsRow base 35 3 v n (flatR L)) (hn : n = L.length) : RsAt w v L := by
  subst hn
  rcases h.2 with ⟨rfl, h0⟩ | ⟨g, cap, cur, rfl, hb, hg, h1, h2, h3, h4⟩
  · exact ⟨none, 0, by rw [h0], fun _ => rfl, fun i hi => by omega⟩
  · refine ⟨some ⟨g, 0, none⟩, cap, rfl, fun h => by simp at h, fun i hi => ⟨g, 0, rfl, row_lt hg, ?_⟩⟩
    obtain ⟨c0, c1, c2⟩ := flatR_get L i hi
    rw [← h4] at c0 c1 c2
    rw [List.getElem?_take_of_lt (by omega)] at c0 c1 c2
    simp only [Nat.zero_add]
    refine ⟨?_, ?_, ?_⟩ <;> rw [cell_of_row _ _ _ _ _ _ hg, ← Array.getElem?_toList]
    · exact c0
    · exact c1
    · exact c2
theorem own_rg {w : World} {base g n cap : Nat} {L : List Rgn} (h : w.ownsRow base 35 3 (.slice (some ⟨g, 0, none⟩) n cap) n (flatR L)) (hn : n = L.length) : RgAt w (some ⟨g, 0, none⟩) g L := by
  subst hn
  rcases h.2 with ⟨h0, _⟩ | ⟨g', cap', cur, e, hb, hg, h1, h2, h3, h4⟩
  · cases h0
  · cases e
    refine ⟨row_lt hg, fun i hi => ⟨rfl, ?_⟩⟩
    obtain ⟨c0, c1, c2⟩ := flatR_get L i hi
    rw [← h4] at c0 c1 c2
    rw [List.getElem?_take_of_lt (by omega)] at c0 c1 c2
    refine ⟨?_, ?_, ?_⟩ <;> rw [cell_of_row _ _ _ _ _ _ hg, ← Array.getElem?_toList]
    · exact c0
    · exact c1
    · exact c2
theorem Try.infoRg : (Try.prog.info? 35).map (fun i => (i.zero, i.size, i.bytes)) = some (some (.agg #[.int .i64 0, .int .i64 0, .int .i64 0]), 3, 24) := by kernel_rfl
theorem own_emptyR (w : World) : (w.alloc (.cells #[] (35 : TypeId))).ownsRow w.heap.size 35 3 (.slice (some ⟨w.heap.size, 0, none⟩) 0 0) 0 [] :=
  ⟨rfl, .inr ⟨w.heap.size, 0, #[], rfl, Nat.le_refl _, heap_alloc_new _ _, Nat.le_refl _, Nat.zero_le _, rfl, rfl⟩⟩
theorem nil_rs (w : World) : RsAt w (.slice none 0 0) [] := ⟨none, 0, rfl, fun _ => rfl, fun i hi => absurd hi (by simp)⟩
theorem slN_in {P : Program} (w : World) (d : Nat) (t : TypeId) (a : Option Addr) (n c : Nat) {e} (h : P.underlying t = some (.slice e)) : (Op.equalIn (d + 1) t (.slice a n c) (.slice none 0 0)).run P w = .ok a.isNone w := by
  cases a <;> simp [Op.equalIn, run_underlying h]
theorem slN_any {P : Program} (w : World) (t : TypeId) (a : Option Addr) (n c : Nat) {e} (h : P.underlying t = some (.slice e)) : (binOp .eql t (.slice a n c) (.slice none 0 0)).run P w = .ok (.bool a.isNone) w := by
  have : (Op.equal t (.slice a n c) (.slice none 0 0)).run P w = .ok a.isNone w := slN_in w 9999 t a n c h
  simp only [binOp]
  simp [this]
theorem slN (w : World) (a : Option Addr) (n c : Nat) : (binOp .eql 24 (.slice a n c) (.slice none 0 0)).run Try.prog w = .ok (.bool a.isNone) w := slN_any w 24 a n c Try.underlying24
theorem RsAt.flat {w : World} {ad : Addr} {n cap : Nat} {L : List Rgn} (h : RsAt w (.slice (some ad) n cap) L) : n = L.length ∧ ∀ (j : Nat) (u : Value), (flatR L)[j]? = some u → w.cell? (ad.add j) = some u := by
  obtain ⟨va, rc, e, h0, hc⟩ := h
  cases e
  refine ⟨rfl, fun j u hu => ?_⟩
  have hj : j < L.length * 3 := by
    rcases Nat.lt_or_ge j (L.length * 3) with h1 | h1
    · exact h1
    · rw [List.getElem?_eq_none (by rw [flatR_len]; exact h1)] at hu; cases hu
  have hi : j / 3 < L.length := by omega
  obtain ⟨g, o, e, hg, c0, c1, c2⟩ := hc (j / 3) hi
  obtain ⟨f0, f1, f2⟩ := flatR_get L (j / 3) hi
  cases e
  rw [show (⟨g, o, none⟩ : Addr).add j = ⟨g, o + j, none⟩ from Addr.add_lit ..]
  have hm : j = j / 3 * 3 ∨ j = j / 3 * 3 + 1 ∨ j = j / 3 * 3 + 2 := by omega
  generalize j / 3 = q at *
  rcases hm with rfl | rfl | rfl
  · rw [c0, ← hu, f0]
  · rw [c1, ← hu, f1]
  · rw [c2, ← hu, f2]
theorem wpList_append_rg {ops : Array Oper} {rest : List Oper} {o : Oper} {a : Act} {Q : Exit → Act → World → Prop} {w : World} (hgd : o.guard = none) (s x : Operand)
    (ho : o.op = .call { callee := .builtin .append, args := #[s, x], argTypes := #[24, 24] }) (base : Nat) (v : Value) (n : Nat) (xs : List Value)
    (hs : a.eval s = v) (hown : w.ownsRow base 35 3 v n xs) (ad : Addr) (m cap : Nat) (L : List Rgn) (hx : a.eval x = .slice (some ad) m cap) (hr : RsAt w (.slice (some ad) m cap) L)
    (hl : n + m ≤ 4398046511104) (hbase : base ≤ w.heap.size)
    (h : ∀ v' w', w'.ownsRow base 35 3 v' (n + m) (xs ++ flatR L) → w.grownBy w' v.ownBlock → wpList Try.prog ops Q rest (a.put o.dst v') w') : wpList Try.prog ops Q (o :: rest) a w := by
  obtain ⟨i0, hi, hz0, hz1, hz2⟩ := info_parts Try.infoRg
  obtain ⟨rfl, hf⟩ := hr.flat
  exact wpList_append_own w hgd s x 24 ho base 35 i0 _ 3 24 Try.underlying24 hi hz0 hz1 hz2 rfl (by decide) v n xs hs hown ad L.length cap (flatR L) hx (flatR_len L) hf (fun u hu => flatR_one L u hu) (by unfold maxLen; omega) (by omega) hbase fun v' w' h1 h2 _ => h v' w' h1 h2
set_option maxRecDepth 100000 in
set_option maxHeartbeats 1600000 in
theorem clone_rg (L : List Rgn) (hl : L.length ≤ 4398046511104) (v : Value) (w : World) (h : RsAt w v L) : Calls Try.prog 29 #[v] w fun e w' => ∃ u, e = .returned u ∧ w'.ownsRow w.heap.size 35 3 u L.length (flatR L) ∧ Below w.heap.size w w' := by
  have hsn := slN
  have HR := hidD h
  obtain ⟨va, rc, rfl, h0, hc⟩ := h
  cases va with
  | none =>
    have hn : L = [] := by
      cases L with
      | nil => rfl
      | cons x L => obtain ⟨g, o, e, _⟩ := hc 0 (by simp); cases e
    subst hn
    have hrc := h0 rfl
    subst hrc
    clear h0 hc HR
    go_enter Try.func29, Try.ntmps29
    go_wp2_with fail
    refine bodyPost_ret (v := .slice none 0 0) (by simp [results, Try.results29, go_sem]) rfl ?_
    exact ⟨_, rfl, ⟨rfl, .inl ⟨rfl, rfl⟩⟩, Below.refl _ _⟩
  | some ad =>
    have HB1 := hidD ((Below.refl w.heap.size w).alloc (Nat.le_refl _) (.cells #[] (35 : TypeId)))
    have HO := hidD (own_emptyR w)
    have HR1 := hidD (HR.out.next HB1.out)
    clear hc h0
    have hl0 : 0 + L.length ≤ 4398046511104 := by omega
    go_enter Try.func29, Try.ntmps29
    go_wp2_with (refine wpList_append_rg rfl _ _ rfl w.heap.size (.slice (some ⟨w.heap.size, 0, none⟩) 0 0) 0 [] rfl HO.out ad L.length rc L rfl HR1.out hl0 HB1.out.size ?_; intro v' w' h1 h2; have HF := hidD h1; have HG := hidD (row_grown HO.out HB1.out h2 HB1.out.size); clear h1 h2)
    refine bodyPost_ret (v := v') (by simp [results, Try.results29, go_sem]) rfl ?_
    exact ⟨v', rfl, by simpa using HF.out, HG.out⟩
set_option maxRecDepth 100000 in
theorem isNaN_any (x : Int) (w : World) : Calls Try.prog 61 #[.int .i64 x] w fun e w' => e = .returned (.bool false) ∧ w' = w := by
  go_enter Try.func61, Try.ntmps61
  go_wp2_with fail
  go_ret
  exact ⟨by simp, rfl⟩
def cmpI (x y : Int) : Int := if x < y then -1 else if y < x then 1 else 0
set_option maxRecDepth 100000 in
theorem cmp_any (x y : Int) (w : World) : Calls Try.prog 32 #[.int .i64 x, .int .i64 y] w fun e w' => e = .returned (.int .i64 (cmpI x y)) ∧ w' = w := by
  have HN : Hid (∀ x w, Calls Try.prog 61 #[.int .i64 x] w fun e w' => e = .returned (.bool false) ∧ w' = w) := fun x w => isNaN_any x w
  unfold cmpI
  by_cases h1 : x < y
  · rw [if_pos h1]
    go_enter Try.func32, Try.ntmps32
    go_wp2_with (go_at_call 61; refine (HN.out _ _).mono ?_; rintro e w2 ⟨rfl, rfl⟩)
    go_ret
    exact ⟨rfl, rfl⟩
  · rw [if_neg h1]
    by_cases h2 : y < x
    · rw [if_pos h2]
      have h3 : x > y := h2
      go_enter Try.func32, Try.ntmps32
      go_wp2_with (go_at_call 61; refine (HN.out _ _).mono ?_; rintro e w2 ⟨rfl, rfl⟩)
      go_ret
      exact ⟨rfl, rfl⟩
    · rw [if_neg h2]
      have h3 : ¬ x > y := h2
      go_enter Try.func32, Try.ntmps32
      go_wp2_with (go_at_call 61; refine (HN.out _ _).mono ?_; rintro e w2 ⟨rfl, rfl⟩)
      go_ret
      exact ⟨rfl, rfl⟩
end Go.Proofs.Ytjnfnihhihncmaa
