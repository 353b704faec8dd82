/- Slices of numbers; a number put into a falling list. -/
import Derived.Test.YtdbledfpphkppaaRfd
namespace Go.Proofs.Ytdbledfpphkppaa
open Go.RowKit
set_option linter.unusedVariables false

def encI (x : Int) : Value := .int .i64 x
/-- A slice value reads as these numbers. -/
def IsAt (w : World) (sl : Value) (xs : List Int) : Prop :=
  (xs = [] ∧ ∃ a cap, sl = .slice a 0 cap ∧ (a = none → cap = 0)) ∨
  ∃ g off cap, sl = .slice (some ⟨g, off, none⟩) xs.length cap ∧ g < w.heap.size ∧ ∀ j, j < xs.length → w.cell? ⟨g, off + j, none⟩ = some (encI (xs.getD j 0))
theorem IsAt.below {B : Nat} {w w' : World} {sl : Value} {xs : List Int} (h : IsAt w sl xs) (hb : Below B w w') (hB : w.heap.size ≤ B) : IsAt w' sl xs := by
  rcases h with h | ⟨g, off, cap, rfl, hg, hc⟩
  · exact .inl h
  · refine .inr ⟨g, off, cap, rfl, Nat.lt_of_lt_of_le hg hb.size, fun j hj => ?_⟩
    rw [hb.cell (p := ⟨g, off + j, none⟩) (Nat.lt_of_lt_of_le hg hB)]
    exact hc j hj
theorem IsAt.next {w w' : World} {sl : Value} {xs : List Int} (h : IsAt w sl xs) (hb : Below w.heap.size w w') : IsAt w' sl xs := h.below hb (Nat.le_refl _)
theorem IsAt.shape {w : World} {sl : Value} {xs : List Int} (h : IsAt w sl xs) : ∃ a cap, sl = .slice a xs.length cap ∧ ∀ k, k < xs.length → ∃ g off, a = some ⟨g, off, none⟩ ∧ g < w.heap.size ∧ w.cell? ⟨g, off + k, none⟩ = some (.int .i64 (xs.getD k 0)) := by
  rcases h with ⟨rfl, a, cap, rfl, _⟩ | ⟨g, off, cap, rfl, hg, hc⟩
  · exact ⟨a, cap, rfl, fun k hk => by simp at hk⟩
  · exact ⟨_, cap, rfl, fun k hk => ⟨g, off, rfl, hg, hc k hk⟩⟩
theorem Try.info3 : (Try.prog.info? 3).map (fun i => (i.zero, i.size, i.bytes)) = some (some (.int .i64 0), 1, 8) := by kernel_rfl
theorem ints_oneCell (xs : List Int) : ∀ u ∈ xs.map encI, u.oneCell' = true := by
  intro u hu
  obtain ⟨x, _, rfl⟩ := List.mem_map.1 hu
  rfl
theorem row_is {w : World} {base : Nat} {v : Value} {xs : List Int} (h : w.ownsRow base 3 1 v xs.length (xs.map encI)) : IsAt w v xs := by
  rcases h.2 with ⟨rfl, h0⟩ | ⟨g, cap, cur, rfl, hb, hg, hc, hm, hs, ht⟩
  · exact .inl ⟨List.eq_nil_of_length_eq_zero h0, none, 0, rfl, fun _ => rfl⟩
  · refine .inr ⟨g, 0, cap, rfl, row_lt hg, fun j hj => ?_⟩
    rw [Nat.zero_add, cell_of_row _ _ _ _ _ _ hg]
    have h1 : cur.toList[j]? = (xs.map encI)[j]? := by
      rw [← ht, List.getElem?_take, if_pos (by rw [Nat.mul_one]; exact hj)]
    rw [← Array.getElem?_toList, h1, List.getElem?_map, List.getElem?_eq_getElem hj, List.getD_eq_getElem?_getD, List.getElem?_eq_getElem hj]; rfl
theorem wpList_append_is {ops : Array Oper} {rest : List Oper} {o : Oper} {a : Act} {Q : Exit → Act → World → Prop} {w : World} (hgd : o.guard = none) (s x : Operand)
    (ho : o.op = .call { callee := .builtin .append, args := #[s, x], argTypes := #[38, 38] }) (base : Nat) (v : Value) (n : Nat) (xs : List Value)
    (hs : a.eval s = v) (hown : w.ownsRow base 3 1 v n xs) (sl : Value) (bs : List Int) (hx : a.eval x = sl) (hsrc : IsAt w sl bs) (hl : n + bs.length ≤ 1000000) (hbase : base ≤ w.heap.size)
    (h : ∀ v' w', w'.ownsRow base 3 1 v' (n + bs.length) (xs ++ bs.map encI) → w.grownBy w' v.ownBlock → wpList Try.prog ops Q rest (a.put o.dst v') w') : wpList Try.prog ops Q (o :: rest) a w := by
  obtain ⟨i0, hi, hz0, hz1, hz2⟩ := info_parts Try.info3
  rcases hsrc with ⟨rfl, ad, cap, rfl, hcap⟩ | ⟨g, off, cap, rfl, hg, hc⟩
  · cases ad with
    | none =>
      refine wpList_append_own_none hgd s x 38 ho base 3 i0 1 Try.underlying38 hi v n xs hs hown (by rw [hx, hcap rfl]) ?_
      exact h v w (by simpa using hown) ⟨rfl, rfl, rfl, Nat.le_refl _, fun _ _ _ => rfl⟩
    | some ad =>
      refine wpList_append_own w hgd s x 38 ho base 3 i0 (.int .i64 0) 1 8 Try.underlying38 hi hz0 hz1 hz2 rfl (by decide) v n xs hs hown ad 0 cap [] hx (by simp) (fun j u hu => by simp at hu) (by simp) (by unfold maxLen; omega) (by simp at hl; omega) hbase ?_
      intro v' w' h1 h2 _
      exact h v' w' (by simpa using h1) h2
  · refine wpList_append_own w hgd s x 38 ho base 3 i0 (.int .i64 0) 1 8 Try.underlying38 hi hz0 hz1 hz2 rfl (by decide) v n xs hs hown ⟨g, off, none⟩ bs.length cap (bs.map encI) hx (by simp) (fun j u hu => ?_) (ints_oneCell bs) (by unfold maxLen; omega) (by omega) hbase ?_
    · rw [List.getElem?_map] at hu
      cases hj : bs[j]? with
      | none => rw [hj] at hu; cases hu
      | some y =>
        rw [hj] at hu
        have hlt := (List.getElem?_eq_some_iff.1 hj).1
        rw [Go.WideShapes.add_plain, hc j hlt, List.getD_eq_getElem?_getD, hj]
        exact hu
    · intro v' w' h1 h2 _
      exact h v' w' h1 h2
theorem IsAt.take {w : World} {a : Option Addr} {n cap : Nat} {xs : List Int} (h : IsAt w (.slice a xs.length cap) xs) (hn : n ≤ xs.length) : IsAt w (.slice a n cap) (xs.take n) := by
  have hl : (xs.take n).length = n := by simp; omega
  rcases h with ⟨rfl, a', c', he, hcap⟩ | ⟨g, off, c', he, hg, hc⟩
  · cases he
    have : n = 0 := by simpa using hn
    subst this
    exact .inl ⟨by simp, a, cap, rfl, hcap⟩
  · cases he
    refine .inr ⟨g, off, cap, by rw [hl], hg, fun j hj => ?_⟩
    rw [hl] at hj
    rw [hc j (by omega), List.getD_eq_getElem?_getD, List.getD_eq_getElem?_getD, List.getElem?_take, if_pos hj]
theorem IsAt.drop {w : World} {g off n cap : Nat} {xs : List Int} (h : IsAt w (.slice (some ⟨g, off, none⟩) xs.length cap) xs) (hn : n < xs.length) (c' : Nat) : IsAt w (.slice (some ⟨g, off + n, none⟩) (xs.length - n) c') (xs.drop n) := by
  have hl : (xs.drop n).length = xs.length - n := by simp
  rcases h with ⟨rfl, a', c', he, hcap⟩ | ⟨g', off', c', he, hg, hc⟩
  · simp at hn
  · cases he
    refine .inr ⟨g, off + n, _, by rw [hl], hg, fun j hj => ?_⟩
    rw [hl] at hj
    rw [show off + n + j = off + (n + j) by omega, hc (n + j) (by omega), List.getD_eq_getElem?_getD, List.getD_eq_getElem?_getD, List.getElem?_drop]
theorem is_new (w : World) (x : Int) : IsAt (w.alloc (.cells #[.int .i64 x] (3 : TypeId))) (.slice (some ⟨w.heap.size, 0, none⟩) 1 1) [x] := by
  refine .inr ⟨w.heap.size, 0, 1, rfl, by simp, fun j hj => ?_⟩
  have : j = 0 := by simpa using hj
  subst this
  rw [World.cell?_alloc_new]; rfl
theorem row_isN {w : World} {base n : Nat} {v : Value} {xs : List Int} (h : w.ownsRow base 3 1 v n (xs.map encI)) (hn : n = xs.length) : IsAt w v xs := by subst hn; exact row_is h
/- how many at the head are not less -/
def cutF (n : Int) : List Int → Nat
  | [] => 0
  | x :: l => if n ≤ x then cutF n l + 1 else 0
def insF (n : Int) (l : List Int) : List Int := l.take (cutF n l) ++ n :: l.drop (cutF n l)
theorem cut_le (n : Int) : ∀ l, cutF n l ≤ l.length
  | [] => Nat.le_refl _
  | x :: l => by unfold cutF; split; have := cut_le n l; simp; omega; omega
theorem cut_lt (n : Int) : ∀ (l : List Int) {k : Nat}, k < cutF n l → n ≤ l.getD k 0
  | [], k, h => by simp [cutF] at h
  | x :: l, k, h => by
    unfold cutF at h
    split at h
    · rename_i hx
      cases k with
      | zero => simpa using hx
      | succ k => have := cut_lt n l (k := k) (by omega); simpa using this
    · omega
theorem cut_at (n : Int) : ∀ (l : List Int), cutF n l < l.length → ¬ n ≤ l.getD (cutF n l) 0
  | [], h => by simp [cutF] at h
  | x :: l, h => by
    unfold cutF at *
    split
    · rename_i hx
      rw [if_pos hx] at h
      have := cut_at n l (by simp at h; omega)
      simpa using this
    · rename_i hx; simpa using hx
theorem ins_len (n : Int) (l : List Int) : (insF n l).length = l.length + 1 := by
  have := cut_le n l; unfold insF; simp; omega
end Go.Proofs.Ytdbledfpphkppaa
