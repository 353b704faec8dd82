/- Plain: lines of a text, words of a line. -/
import Derived.Test.YtgmbkelmgolkpaaDoorGn
import Derived.Laws.RangeAny
import Derived.Laws.RangeString
import Derived.Lib.SplitLaws
import Derived.Laws.Strings
namespace Go.Proofs.YtgmbkelmgolkpaaDoor
open Go.RowKit
set_option linter.unusedVariables false

theorem width_one (s : ByteArray) (pos : Nat) (h : pos < s.size) : 1 ≤ (Utf8.decode s pos).2 := by
  by_cases ha : (s[pos]'h).toNat < 128
  · rw [decode_ascii s pos h ha]; exact Nat.le_refl _
  · exact (decode_high s pos h (by omega)).2
theorem spans_ok (p : Nat → Bool) (s : ByteArray) : ∀ (f pos : Nat) (st : Option Nat) (acc : List (Nat × Nat)), (∀ x ∈ acc, x.1 < x.2 ∧ x.2 ≤ s.size) → (∀ a, st = some a → a < pos ∧ a < s.size) →
    (∀ x ∈ (Lib.spansFromP p s f pos st acc).1, x.1 < x.2 ∧ x.2 ≤ s.size) ∧ (∀ a, (Lib.spansFromP p s f pos st acc).2 = some a → a < s.size) ∧ (Lib.spansFromP p s f pos st acc).1.length + (if (Lib.spansFromP p s f pos st acc).2.isSome then 1 else 0) ≤ acc.length + (if st.isSome then 1 else 0) + f
  | 0, pos, st, acc, h1, h2 => ⟨h1, fun a ha => (h2 a ha).2, by show acc.length + (if st.isSome then 1 else 0) ≤ _; omega⟩
  | f + 1, pos, st, acc, h1, h2 => by
    unfold Lib.spansFromP
    by_cases hp : pos < s.size
    · rw [if_pos hp]
      have hw := width_one s pos hp
      split
      · cases st with
        | some a =>
          have ha := h2 a rfl
          have ih := spans_ok p s f (pos + (Utf8.decode s pos).2) none (acc ++ [(a, pos)]) (by
            intro x hx
            rcases List.mem_append.1 hx with hx | hx
            · exact h1 x hx
            · rw [List.mem_singleton] at hx; subst hx; exact ⟨ha.1, Nat.le_of_lt hp⟩) nofun
          refine ⟨ih.1, ih.2.1, Nat.le_trans ih.2.2 ?_⟩
          rw [List.length_append]; simp
        | none =>
          have ih := spans_ok p s f (pos + (Utf8.decode s pos).2) none acc h1 nofun
          exact ⟨ih.1, ih.2.1, Nat.le_trans ih.2.2 (by simp <;> omega)⟩
      · cases st with
        | some a =>
          have ha := h2 a rfl
          have ih := spans_ok p s f (pos + (Utf8.decode s pos).2) (some a) acc h1 (fun b hb => by cases hb; exact ⟨by omega, ha.2⟩)
          exact ⟨ih.1, ih.2.1, Nat.le_trans ih.2.2 (by simp <;> omega)⟩
        | none =>
          have ih := spans_ok p s f (pos + (Utf8.decode s pos).2) (some pos) acc h1 (fun b hb => by cases hb; exact ⟨by omega, hp⟩)
          exact ⟨ih.1, ih.2.1, Nat.le_trans ih.2.2 (by simp <;> omega)⟩
    · rw [if_neg hp]
      exact ⟨h1, fun a ha => (h2 a ha).2, by show acc.length + (if st.isSome then 1 else 0) ≤ _; omega⟩
theorem fields_ok (p : Nat → Bool) (s : ByteArray) : (∀ x ∈ Lib.spansOfP p s, x.1 < x.2 ∧ x.2 ≤ s.size) ∧ (Lib.spansOfP p s).length ≤ s.size := by
  have h := spans_ok p s s.size 0 none [] (fun x hx => by cases hx) nofun
  unfold Lib.spansOfP Lib.closeSpans
  revert h
  generalize Lib.spansFromP p s s.size 0 none [] = r
  obtain ⟨acc, st⟩ := r
  rintro ⟨h1, h2, h3⟩
  cases st with
  | none => exact ⟨h1, by simpa using h3⟩
  | some a =>
    refine ⟨fun x hx => ?_, by simpa using h3⟩
    rcases List.mem_append.1 hx with hx | hx
    · exact h1 x hx
    · rw [List.mem_singleton] at hx; subst hx; exact ⟨h2 a rfl, Nat.le_refl _⟩
theorem fld_one (l : Tx) : ∀ x ∈ fldS l, 1 ≤ x.length ∧ x.length ≤ l.length := by
  intro x hx
  unfold fldS Lib.goFieldsP at hx
  rw [List.map_map] at hx
  obtain ⟨y, hy, rfl⟩ := List.mem_map.1 hx
  have h1 := (fields_ok isBl ⟨l.toArray⟩).1 y hy
  have hs : (⟨l.toArray⟩ : ByteArray).size = l.length := by simp [ByteArray.size]
  rw [hs] at h1
  have h2 : ((⟨l.toArray⟩ : ByteArray).extract y.1 y.2).size = y.2 - y.1 := by rw [ByteArray.size_extract, hs]; omega
  have h3 : ((⟨l.toArray⟩ : ByteArray).extract y.1 y.2).data.toList.length = y.2 - y.1 := by rw [Array.length_toList]; exact h2
  simp only [Function.comp_apply]
  rw [h3]
  omega
theorem fld_len (l : Tx) : (fldS l).length ≤ l.length := by
  unfold fldS Lib.goFieldsP
  rw [List.length_map, List.length_map]
  have h1 := (fields_ok isBl ⟨l.toArray⟩).2
  have hs : (⟨l.toArray⟩ : ByteArray).size = l.length := by simp [ByteArray.size]
  omega
/-- The lines of a text. -/
def nlB : ByteArray := ⟨#[10]⟩
def lnsS (x : Tx) : List Tx := (Lib.splitB nlB 0 (Lib.countB ⟨x.toArray⟩ nlB) ⟨x.toArray⟩).map fun b => b.data.toList
theorem split_size (sep : ByteArray) : ∀ (k : Nat) (s : ByteArray), ∀ l ∈ Lib.splitB sep 0 k s, l.size ≤ s.size
  | 0, s, l, h => by
    rw [Lib.splitB] at h
    rw [List.mem_singleton] at h
    rw [h]; exact Nat.le_refl _
  | k + 1, s, l, h => by
    rw [Lib.splitB] at h
    split at h
    · rw [List.mem_singleton] at h
      rw [h]; exact Nat.le_refl _
    · rcases List.mem_cons.1 h with h | h
      · rw [h, ByteArray.size_extract]; omega
      · have := split_size sep k _ l h
        rw [ByteArray.size_extract] at this
        omega
theorem lns_len (x : Tx) : (lnsS x).length = Lib.countB ⟨x.toArray⟩ nlB + 1 ∧ (lnsS x).length ≤ x.length + 1 := by
  have h1 := Lib.splitB_all nlB (by decide) 0 _ (⟨x.toArray⟩ : ByteArray) rfl
  have h2 := Lib.countB_le nlB (by decide) _ (⟨x.toArray⟩ : ByteArray) (Nat.le_refl _)
  have hs : (⟨x.toArray⟩ : ByteArray).size = x.length := by simp [ByteArray.size]
  unfold lnsS
  rw [List.length_map, h1]
  exact ⟨rfl, by omega⟩
theorem lns_le (x : Tx) : ∀ l ∈ lnsS x, l.length ≤ x.length := by
  intro l hl
  obtain ⟨b, hb, rfl⟩ := List.mem_map.1 hl
  have := split_size nlB _ _ b hb
  have hs : (⟨x.toArray⟩ : ByteArray).size = x.length := by simp [ByteArray.size]
  rw [Array.length_toList]
  have h2 : b.data.size = b.size := rfl
  omega
theorem getD_mem {ws : List Tx} {k : Nat} (h : k < ws.length) : ws.getD k [] ∈ ws := by rw [List.getD_eq_getElem?_getD, List.getElem?_eq_getElem h]; exact List.getElem_mem h
theorem al_in {ws : List Tx} (h : 2 ≤ ws.length) : ∀ k, k ≤ ws.length - 2 → (∀ r ∈ (alTo ws k).1, r.length ≤ k + 1 ∧ ∀ x ∈ r, x ∈ ws) ∧ ∀ x ∈ (alTo ws k).2, x ∈ ws
  | 0, _ => by
    refine ⟨fun r hr => (by cases hr), fun x hx => ?_⟩
    have h2 : x ∈ [ws.getD 0 []] := hx
    rw [List.mem_singleton] at h2
    subst h2; exact getD_mem (by omega)
  | k + 1, hk => by
    have ih := al_in h k (by omega)
    have hc := al_cur ws k
    rw [alTo]
    split
    · refine ⟨fun r hr => ?_, fun x hx => ?_⟩
      · rcases List.mem_append.1 hr with hr | hr
        · have := ih.1 r hr; exact ⟨by omega, this.2⟩
        · rw [List.mem_singleton] at hr; subst hr; exact ⟨by omega, ih.2⟩
      · rw [List.mem_singleton] at hx; subst hx; exact getD_mem (by omega)
    · refine ⟨fun r hr => ?_, fun x hx => ?_⟩
      · have := ih.1 r hr; exact ⟨by omega, this.2⟩
      · rcases List.mem_append.1 hx with hx | hx
        · exact ih.2 x hx
        · rw [List.mem_singleton] at hx; subst hx; exact getD_mem (by omega)
theorem al_each {ws : List Tx} (h : 2 ≤ ws.length) : ∀ r ∈ alS ws, r.length ≤ ws.length := by
  intro r hr
  have hi := al_in h _ (Nat.le_refl _)
  have hc := al_cur ws (ws.length - 2)
  unfold alS at hr
  rcases List.mem_append.1 hr with hr | hr
  · have := (hi.1 r hr).1; omega
  · rw [List.mem_singleton] at hr; subst hr; omega
theorem al_from {ws : List Tx} (h : 2 ≤ ws.length) : ∀ r ∈ alS ws, ∀ x ∈ r, x ∈ ws := by
  intro r hr
  have hi := al_in h _ (Nat.le_refl _)
  unfold alS at hr
  rcases List.mem_append.1 hr with hr | hr
  · exact (hi.1 r hr).2
  · rw [List.mem_singleton] at hr; subst hr; exact hi.2
/-- Rules of lines: how many, how long. -/
theorem rd_ok (ls : List Tx) (M : Nat) (hM : ∀ l ∈ ls, l.length ≤ M) : ∀ k, k ≤ ls.length → (∀ j, j < k → goodL ls j = true) → (rdTo ls k).length ≤ k * M ∧ (rdTo ls k).flatten.length ≤ k * (2 * M) ∧ (∀ r ∈ rdTo ls k, 1 ≤ r.length ∧ r.length ≤ M ∧ ∀ x ∈ r, x.length ≤ M)
  | 0, _, _ => ⟨by simp [rdTo], by simp [rdTo], fun r hr => (by cases hr)⟩
  | k + 1, hk, hg => by
    have ih := rd_ok ls M hM k (by omega) (fun j hj => hg j (by omega))
    rw [rdTo]
    split
    · exact ⟨by have := ih.1; rw [Nat.add_mul]; omega, by have := ih.2.1; rw [Nat.add_mul]; omega, ih.2.2⟩
    · rename_i hs
      have hgk := hg k (by omega)
      unfold goodL at hgk
      rw [Bool.not_eq_true] at hs
      rw [hs, Bool.false_or] at hgk
      have hlen : (ls.getD k []).length ≤ M := hM _ (by rw [List.getD_eq_getElem?_getD, List.getElem?_eq_getElem (by omega)]; exact List.getElem_mem _)
      have hf := fld_len (ls.getD k [])
      have hf1 := fld_one (ls.getD k [])
      generalize fldS (ls.getD k []) = ws at *
      have h2 : 2 ≤ ws.length := by
        unfold lnS at hgk
        simp only [Bool.and_eq_true, decide_eq_true_eq] at hgk
        exact hgk.1.1.1
      have a1 := alS_len h2
      have a2 := alS_all h2
      refine ⟨?_, ?_, fun r hr => ?_⟩
      · rw [List.length_append, Nat.add_mul]; have := ih.1; omega
      · rw [List.flatten_append, List.length_append, Nat.add_mul]; have := ih.2.1; omega
      · rcases List.mem_append.1 hr with hr | hr
        · exact ih.2.2 r hr
        · refine ⟨alS_pos r hr, Nat.le_trans (al_each h2 r hr) (by omega), fun x hx => Nat.le_trans (hf1 x (al_from h2 r hr x hx)).2 hlen⟩
end Go.Proofs.YtgmbkelmgolkpaaDoor
