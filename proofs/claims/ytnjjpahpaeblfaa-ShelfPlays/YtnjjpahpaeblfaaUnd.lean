/- What Contains, addNew and Under answer: all that a name leans on through others, in order. -/
import Derived.Test.YtnjjpahpaeblfaaNext
import Derived.Deep.AppendLies
namespace Go.Proofs.Ytnjjpahpaeblfaa
open Go.RowKit Go.Maps Go.Sort
set_option linter.unusedVariables false

theorem hidU {q : Prop} (h : q) : Hid q := h

set_option maxRecDepth 100000 in
set_option maxHeartbeats 1000000 in
theorem index_any (ls : List (List UInt8)) (hlen : ls.length ≤ 8796093022208) (x : List UInt8) (a : Option Addr) (cap : Nat) (w : World) (hs : StrsAt w (.slice a ls.length cap) ls) :
    Calls Try.prog 50 #[.slice a ls.length cap, .string ⟨x.toArray⟩] w fun e w' => (∃ i : Int, e = .returned (.int .i64 i) ∧ decide (0 ≤ i) = ls.contains x) ∧ w' = w := by
  have HS := hidU hs
  clear hs
  obtain ⟨r, hr⟩ : ∃ r, r = ls.contains x := ⟨_, rfl⟩
  rw [← hr]
  have HR : Hid (r = ls.contains x) := hr
  clear hr
  go_enter Try.func50, Try.ntmps50
  go_wp2
  go_loop [8] (fun i => ∃ k : Nat, k ≤ ls.length ∧ i = .int .i64 k ∧ ∀ j, j < k → (ls.getD j [] == x) = false) (fun i => ls.length - (intOf i).toNat)
  case atStart => exact ⟨0, Nat.zero_le _, rfl, fun j hj => by omega⟩
  case round =>
    obtain ⟨k, hk, rfl, hall⟩ := hrel
    have HA := hidU hall
    clear hall
    by_cases hlt : k < ls.length
    · rcases HS.out with ⟨h0, _⟩ | ⟨g, off, cap', hsl, hg, hcl⟩
      · rw [h0] at hlt; exact absurd hlt (by simp)
      cases hsl
      have hcx : w.cell? ⟨g, off + k, none⟩ = some (.string ⟨(ls.getD k []).toArray⟩) := hcl k hlt
      have HT : Hid ((ls.getD k [] == x) = true → ls.contains x = true) := fun h => by rw [List.contains_iff_mem, ← beq_iff_eq.1 h]; exact mem_getD hlt
      clear hcl
      generalize hyy : ls.getD k [] = y at *
      have HY := hidU hyy
      clear hyy
      cases hxy : (x == y) with
      | true =>
        have hyx : (y == x) = true := by rw [beq_iff_eq] at hxy ⊢; exact hxy.symm
        have HYX := hidU hyx
        clear hyx
        go_wp2
        go_ret
        exact ⟨⟨_, rfl, by rw [HR.out, HT.out HYX.out]; simp⟩, rfl⟩
      | false =>
        have hyx : (y == x) = false := by rw [beq_eq_false_iff_ne] at hxy ⊢; exact hxy.symm
        have HYX := hidU hyx
        clear hyx
        go_wp2
        go_round
        case rel =>
          refine ⟨k + 1, by omega, by go_num, fun j hj => ?_⟩
          by_cases e : j = k
          · subst e; rw [HY.out]; exact HYX.out
          · exact HA.out j (by omega)
        case measure => simp [intOf]; omega
    · go_wp2
      go_ret
      have hkl : k = ls.length := by omega
      subst hkl
      refine ⟨⟨_, rfl, ?_⟩, rfl⟩
      rw [HR.out]
      cases hc : ls.contains x with
      | false => rfl
      | true =>
        obtain ⟨j, hj, he⟩ := List.mem_iff_getElem.1 (List.contains_iff_mem.1 hc)
        have := HA.out j hj
        rw [List.getD, List.getElem?_eq_getElem hj] at this
        simp [he] at this

set_option maxRecDepth 100000 in
set_option maxHeartbeats 400000 in
theorem contains_any (ls : List (List UInt8)) (hlen : ls.length ≤ 8796093022208) (x : List UInt8) (a : Option Addr) (cap : Nat) (w : World) (hs : StrsAt w (.slice a ls.length cap) ls) :
    Calls Try.prog 47 #[.slice a ls.length cap, .string ⟨x.toArray⟩] w fun e w' => e = .returned (.bool (ls.contains x)) ∧ w' = w := by
  have HC := hidU (index_any ls hlen x a cap w hs)
  obtain ⟨r, hr⟩ : ∃ r, r = ls.contains x := ⟨_, rfl⟩
  rw [← hr] at HC ⊢
  clear hr hs
  go_enter Try.func47, Try.ntmps47
  go_wp2_with (go_at_call 50; refine HC.out.mono ?_; rintro e w' ⟨⟨i, rfl, hi⟩, rfl⟩; have HI := hidU hi; clear hi)
  go_ret
  exact ⟨ret_bool HI.out, rfl⟩

def addL (l : List (List UInt8)) (m : List (List UInt8)) : List (List UInt8) := m.foldl (fun l x => if l.contains x then l else l ++ [x]) l
theorem addL_take {l m : List (List UInt8)} {k : Nat} (hk : k < m.length) : addL l (m.take (k + 1)) = if (addL l (m.take k)).contains (m.getD k []) then addL l (m.take k) else addL l (m.take k) ++ [m.getD k []] := by
  rw [List.take_succ_eq_append_getElem hk, addL, List.foldl_append]
  simp only [List.foldl_cons, List.foldl_nil, List.getD, List.getElem?_eq_getElem hk, Option.getD_some]
  rfl
theorem addL_len (l m : List (List UInt8)) : (addL l m).length ≤ l.length + m.length := by
  induction m generalizing l with
  | nil => simp [addL]
  | cons x r ih =>
    have := ih (if l.contains x then l else l ++ [x])
    simp only [addL, List.foldl_cons] at this ⊢
    refine Nat.le_trans this ?_
    split <;> simp <;> omega
theorem addL_mem {l m : List (List UInt8)} {y : List UInt8} : y ∈ addL l m ↔ y ∈ l ∨ y ∈ m := by
  induction m generalizing l with
  | nil => simp [addL]
  | cons x r ih =>
    have : addL l (x :: r) = addL (if l.contains x then l else l ++ [x]) r := rfl
    rw [this, ih]
    by_cases hc : l.contains x = true
    · rw [if_pos hc]
      have hm := List.contains_iff_mem.1 hc
      constructor
      · rintro (h | h)
        · exact .inl h
        · exact .inr (List.mem_cons_of_mem _ h)
      · rintro (h | h)
        · exact .inl h
        · rcases List.mem_cons.1 h with rfl | h
          · exact .inl hm
          · exact .inr h
    · rw [if_neg hc]
      simp [or_assoc]
theorem addL_nodup {l m : List (List UInt8)} (h : l.Nodup) : (addL l m).Nodup := by
  induction m generalizing l with
  | nil => exact h
  | cons x r ih =>
    have : addL l (x :: r) = addL (if l.contains x then l else l ++ [x]) r := rfl
    rw [this]
    by_cases hc : l.contains x = true
    · rw [if_pos hc]; exact ih h
    · rw [if_neg hc]
      refine ih ?_
      rw [List.nodup_append]
      refine ⟨h, by simp, ?_⟩
      intro a ha b hb e
      rw [List.mem_singleton] at hb
      subst hb; subst e
      exact hc (List.contains_iff_mem.2 ha)
theorem addL_prefix (l m : List (List UInt8)) : ∃ t, addL l m = l ++ t := by
  induction m generalizing l with
  | nil => exact ⟨[], by simp [addL]⟩
  | cons x r ih =>
    have : addL l (x :: r) = addL (if l.contains x then l else l ++ [x]) r := rfl
    rw [this]
    obtain ⟨t, ht⟩ := ih (if l.contains x then l else l ++ [x])
    rw [ht]
    split
    · exact ⟨t, rfl⟩
    · exact ⟨x :: t, by simp⟩

set_option maxRecDepth 100000 in
set_option maxHeartbeats 1000000 in
theorem addNew_any (l m : List (List UInt8)) (hl : l.length + m.length ≤ 100000) (hm : StrsOk m) (a1 a2 : Option Addr) (c1 c2 base : Nat) (w : World) (hbase : base ≤ w.heap.size) (hrow : w.ownsRow base 9 1 (.slice a1 l.length c1) l.length (l.map encStr))
    (hs : ∀ w', Below base w w' → StrsAt w' (.slice a2 m.length c2) m) :
    Calls Try.prog 40 #[.slice a1 l.length c1, .slice a2 m.length c2] w fun e w' => ∃ v, e = .returned v ∧ w'.ownsRow base 9 1 v (addL l m).length ((addL l m).map encStr) ∧ Below base w w' := by
  obtain ⟨i0, hi, hz0, hz1, hz2⟩ := info_parts Try.info9
  have HROW := hidU hrow
  have HS := hidU hs
  have HM := hidU hm.2
  clear hrow hs hm
  go_enter Try.func40, Try.ntmps40
  go_wp2
  go_loopw [0, 9] (fun v i wr => ∃ k : Nat, k ≤ m.length ∧ i = .int .i64 k ∧ wr.ownsRow base 9 1 v (addL l (m.take k)).length ((addL l (m.take k)).map encStr) ∧ Below base w wr) (fun _ i _ => m.length - (intOf i).toNat)
  case atStart => exact ⟨0, Nat.zero_le _, rfl, by simpa [addL] using HROW.out, Below.refl _ _⟩
  case round =>
    obtain ⟨k, hk, rfl, hrow, hnx⟩ := hrel
    have hszn := hnx.size
    by_cases hlt : k < m.length
    · rcases HS.out wr hnx with ⟨h0, _⟩ | ⟨g, off, cap', hsl, hg, hcl⟩
      · rw [h0] at hlt; exact absurd hlt (by simp)
      cases hsl
      have hcx : wr.cell? ⟨g, off + k, none⟩ = some (.string ⟨(m.getD k []).toArray⟩) := hcl k hlt
      have HT := hidU (addL_take (l := l) hlt)
      have hll : (addL l (m.take k)).length ≤ 100000 := by
        have := addL_len l (m.take k)
        have h2 : (m.take k).length ≤ m.length := List.length_take_le' _ _
        omega
      have HROWk := hidU hrow
      obtain ⟨a5, c5, rfl⟩ := row_shape hrow
      have HC := hidU (contains_any (addL l (m.take k)) (by omega) (m.getD k []) a5 c5 wr (StrsAt.of_row hrow))
      clear hcl hrow
      generalize m.getD k [] = x at *
      generalize addL l (m.take k) = acc at *
      cases hcn : acc.contains x with
      | true =>
        have HT2 := hidU (HT.out.trans (if_pos hcn))
        rw [hcn] at HC
        clear hcn
        go_wp2_with (go_at_call 47; refine HC.out.mono ?_; rintro e w' ⟨rfl, rfl⟩)
        go_roundw
        case rel => exact ⟨k + 1, by omega, by go_num, by rw [HT2.out]; exact HROWk.out, hnx⟩
        case measure => simp [intOf]; omega
      | false =>
        have HT2 := hidU (HT.out.trans (if_neg (by rw [hcn]; simp)))
        rw [hcn] at HC
        clear hcn
        go_wp2_with (first
          | (go_at_call 47; refine HC.out.mono ?_; rintro e w' ⟨rfl, rfl⟩)
          | (at_builtin; refine wpList_append_own _ rfl _ _ 27 rfl base 9 i0 (.string ⟨#[]⟩) 1 16 Try.underlying27 hi hz0 hz1 hz2 rfl (by decide) _ _ _ rfl (HROWk.out.alloc _) ⟨w'.heap.size, 0, none⟩ 1 1 [encStr x] rfl rfl (cell_one_new _ _ _) (by simp [Value.oneCell', encStr]) (by unfold maxLen; omega) (by omega) (by simp; omega) ?_; intro v' w5 hown5 hg5 hnil5; obtain ⟨a6, c6, rfl⟩ := row_shape hown5; clear hnil5)
          | go_in)
        go_roundw
        case rel =>
          refine ⟨k + 1, by omega, by go_num, ?_, (hnx.alloc (by omega) _).grown hg5 (by have := hg5.size; simp at this ⊢; omega) (fun j hj => (HROWk.out.lt j hj).1)⟩
          rw [HT2.out]
          simpa using hown5
        case measure => simp [intOf]; omega
    · go_wp2
      go_ret
      have hkl : k = m.length := by omega
      subst hkl
      rw [List.take_length] at hrow
      exact ⟨_, rfl, hrow, hnx⟩

/-- The least list that has what a name leans on, and with each name what that leans on. -/
def ClosedU (S : List Nt) (x : List UInt8) (P : List UInt8 → Prop) : Prop := (∀ y ∈ leansOf S x, P y) ∧ ∀ y, P y → ∀ z ∈ leansOf S y, P z
def IsUnder (S : List Nt) (x : List UInt8) (U : List (List UInt8)) : Prop := U.Nodup ∧ ClosedU S x (· ∈ U) ∧ ∀ P, ClosedU S x P → ∀ y ∈ U, P y
/-- .. while it is gone through: behind i names. -/
def UnderTo (S : List Nt) (x : List UInt8) (U : List (List UInt8)) (i : Nat) : Prop := U.Nodup ∧ (∀ y ∈ leansOf S x, y ∈ U) ∧ (∀ j, j < i → ∀ z ∈ leansOf S (U.getD j []), z ∈ U) ∧ ∀ P, ClosedU S x P → ∀ y ∈ U, P y

theorem UnderTo.start (S : List Nt) (x : List UInt8) : UnderTo S x (addL [] (leansOf S x)) 0 :=
  ⟨addL_nodup List.nodup_nil, fun y hy => addL_mem.2 (.inr hy), fun j hj => by omega, fun P hP y hy => by
    rcases addL_mem.1 hy with h | h
    · simp at h
    · exact hP.1 y h⟩
theorem UnderTo.step {S : List Nt} {x : List UInt8} {U : List (List UInt8)} {i : Nat} (h : UnderTo S x U i) (hi : i < U.length) : UnderTo S x (addL U (leansOf S (U.getD i []))) (i + 1) := by
  obtain ⟨h1, h2, h3, h4⟩ := h
  obtain ⟨t, ht⟩ := addL_prefix U (leansOf S (U.getD i []))
  refine ⟨addL_nodup h1, fun y hy => addL_mem.2 (.inl (h2 y hy)), fun j hj z hz => ?_, fun P hP y hy => ?_⟩
  · have hg : (addL U (leansOf S (U.getD i []))).getD j [] = U.getD j [] := by
      rw [ht, List.getD, List.getElem?_append_left (by omega)]; rfl
    rw [hg] at hz
    by_cases e : j = i
    · subst e; exact addL_mem.2 (.inr hz)
    · exact addL_mem.2 (.inl (h3 j (by omega) z hz))
  · rcases addL_mem.1 hy with h | h
    · exact h4 P hP y h
    · exact hP.2 (U.getD i []) (h4 P hP _ (mem_getD hi)) y h
theorem UnderTo.done {S : List Nt} {x : List UInt8} {U : List (List UInt8)} (h : UnderTo S x U U.length) : IsUnder S x U := by
  obtain ⟨h1, h2, h3, h4⟩ := h
  refine ⟨h1, ⟨h2, fun y hy z hz => ?_⟩, h4⟩
  obtain ⟨j, hj, rfl⟩ := List.mem_iff_getElem.1 hy
  refine h3 j hj z ?_
  rw [List.getD, List.getElem?_eq_getElem hj]; exact hz

theorem nodup_len : ∀ {l m : List (List UInt8)}, l.Nodup → (∀ y ∈ l, y ∈ m) → l.length ≤ m.length
  | [], m, _, _ => by simp
  | x :: r, m, h, hs => by
    rw [List.nodup_cons] at h
    have hx := hs x (List.mem_cons_self ..)
    have ih := nodup_len (l := r) (m := m.erase x) h.2 (fun y hy => by
      have hne : y ≠ x := fun e => h.1 (e ▸ hy)
      exact (List.mem_erase_of_ne hne).2 (hs y (List.mem_cons_of_mem _ hy)))
    rw [List.length_erase_of_mem hx] at ih
    have := List.length_pos_of_mem hx
    simp only [List.length_cons]
    omega

theorem leansOf_mem {S : List Nt} {x y : List UInt8} (h : y ∈ leansOf S x) : ∃ n ∈ S, n.name = x ∧ y ∈ n.leans := by
  unfold leansOf at h
  split at h
  · rename_i n hn
    exact ⟨n, List.mem_of_find?_eq_some hn, by simpa using List.find?_some hn, h⟩
  · simp at h
theorem UnderTo.all {S : List Nt} {x : List UInt8} {U : List (List UInt8)} {i : Nat} (h : UnderTo S x U i) : ∀ y ∈ U, y ∈ S.flatMap Nt.leans :=
  h.2.2.2 (· ∈ S.flatMap Nt.leans) ⟨fun y hy => by obtain ⟨n, hn, _, hy⟩ := leansOf_mem hy; exact List.mem_flatMap.2 ⟨n, hn, hy⟩, fun z _ y hy => by obtain ⟨n, hn, _, hy⟩ := leansOf_mem hy; exact List.mem_flatMap.2 ⟨n, hn, hy⟩⟩

theorem SH.leans8 {w : World} {p b : Nat} {F : Nat → Prop} {S : List Nt} {D : DataW Value} (h : SH w p b F S D) {n : Nt} (hn : n ∈ S) : n.leans.length ≤ 8 := by
  have := (h.inn n hn).2.1
  unfold rightI at this
  split at this
  · simp at this
  · split at this
    · simp at this
    · omega
theorem flat_len {S : List Nt} (h : ∀ n ∈ S, n.leans.length ≤ 8) : (S.flatMap Nt.leans).length ≤ 8 * S.length := by
  induction S with
  | nil => simp
  | cons n r ih =>
    have h1 := h n (List.mem_cons_self ..)
    have h2 := ih (fun m hm => h m (List.mem_cons_of_mem _ hm))
    simp only [List.flatMap_cons, List.length_append, List.length_cons]
    omega
theorem SH.under_len {w : World} {p b : Nat} {F : Nat → Prop} {S : List Nt} {D : DataW Value} (h : SH w p b F S D) {x : List UInt8} {U : List (List UInt8)} {i : Nat} (hU : UnderTo S x U i) : U.length ≤ 512 := by
  have h1 := nodup_len hU.1 hU.all
  have h2 := flat_len (fun n hn => h.leans8 hn)
  have h3 := h.few
  omega
theorem SH.under_ok {w : World} {p b : Nat} {F : Nat → Prop} {S : List Nt} {D : DataW Value} (h : SH w p b F S D) {x : List UInt8} {U : List (List UInt8)} {i : Nat} (hU : UnderTo S x U i) : StrsOk U := by
  refine ⟨by have := h.under_len hU; omega, fun y hy => ?_⟩
  obtain ⟨n, hn, hy⟩ := List.mem_flatMap.1 (hU.all y hy)
  exact (h.inn n hn).1.leans.2 y hy
theorem SH.leansOf8 {w : World} {p b : Nat} {F : Nat → Prop} {S : List Nt} {D : DataW Value} (h : SH w p b F S D) (x : List UInt8) : (leansOf S x).length ≤ 8 := by
  unfold leansOf
  split
  · rename_i n hn
    exact h.leans8 (List.mem_of_find?_eq_some hn)
  · simp
end Go.Proofs.Ytnjjpahpaeblfaa
