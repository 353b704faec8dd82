/- Plain: the lengths of a table's cycles as they are met, sorted and turned round; and a table that has every byte. -/
import Derived.Test.YtdbledfpphkppabRfe
namespace Go.Proofs.Ytdbledfpphkppab
set_option linter.unusedVariables false

def lenTo (t : Nat → Nat) : Nat → (Nat → Bool) × List Int
  | 0 => (fun _ => true, [])
  | k + 1 => ((walkC t 257 (lenTo t k).1 k 0).1, if 0 < (walkC t 257 (lenTo t k).1 k 0).2 then (lenTo t k).2 ++ [((walkC t 257 (lenTo t k).1 k 0).2 : Int)] else (lenTo t k).2)
theorem len_met (t : Nat → Nat) : ∀ k, (lenTo t k).1 = (cycTo t k).1
  | 0 => rfl
  | k + 1 => by rw [lenTo, cycTo, len_met t k]
theorem ins_count (n v : Int) (l : List Int) : (insF n l).count v = (l ++ [n]).count v := by
  unfold insF
  have h := congrArg (List.count v) (List.take_append_drop (cutF n l) l)
  rw [List.count_append] at h
  rw [List.count_append, List.count_append, List.count_cons, List.count_cons, List.count_nil]
  omega
theorem len_count (t : Nat → Nat) (v : Int) : ∀ k, (lenTo t k).2.count v = (cycTo t k).2.count v
  | 0 => rfl
  | k + 1 => by
    rw [lenTo, cycTo, len_met t k]
    dsimp only
    split
    · rw [ins_count, List.count_append, List.count_append, len_count t v k]
    · exact len_count t v k
theorem len_len (t : Nat → Nat) : ∀ k, (lenTo t k).2.length ≤ k
  | 0 => Nat.le_refl _
  | k + 1 => by
    have := len_len t k
    rw [lenTo]
    dsimp only
    split
    · rw [List.length_append, List.length_singleton]; omega
    · omega
theorem ins_cons (n x : Int) (l : List Int) : insF n (x :: l) = if n ≤ x then x :: insF n l else n :: x :: l := by
  unfold insF
  rw [cutF]
  split <;> rfl
theorem ins_mem {n v : Int} {l : List Int} (h : v ∈ insF n l) : v = n ∨ v ∈ l := by
  unfold insF at h
  rcases List.mem_append.1 h with h | h
  · exact .inr (List.mem_of_mem_take h)
  · rcases List.mem_cons.1 h with h | h
    · exact .inl h
    · exact .inr (List.mem_of_mem_drop h)
theorem ins_fall (n : Int) : ∀ l : List Int, l.Pairwise (· ≥ ·) → (insF n l).Pairwise (· ≥ ·)
  | [], _ => by show [n].Pairwise _; exact List.pairwise_singleton _ _
  | x :: l, h => by
    obtain ⟨h1, h2⟩ := List.pairwise_cons.1 h
    rw [ins_cons]
    split
    · rename_i hn
      refine List.pairwise_cons.2 ⟨fun v hv => ?_, ins_fall n l h2⟩
      rcases ins_mem hv with h | h
      · rw [h]; exact hn
      · exact h1 v h
    · rename_i hn
      refine List.pairwise_cons.2 ⟨fun v hv => ?_, h⟩
      rcases List.mem_cons.1 hv with h | h
      · rw [h]; exact Int.le_of_lt (Int.not_le.1 hn)
      · exact Int.le_trans (h1 v h) (Int.le_of_lt (Int.not_le.1 hn))
theorem cyc_fall (t : Nat → Nat) : ∀ k, (cycTo t k).2.Pairwise (· ≥ ·)
  | 0 => List.Pairwise.nil
  | k + 1 => by
    rw [cycTo]
    dsimp only
    split
    · exact ins_fall _ _ (cyc_fall t k)
    · exact cyc_fall t k
theorem cyc_sorted (t : Nat → Nat) : ((lenTo t 256).2.mergeSort fun x y => decide (x ≤ y)).reverse = cycS t := by
  refine List.Perm.eq_of_pairwise (le := fun a b : Int => a ≥ b) (fun a b _ _ h1 h2 => Int.le_antisymm h2 h1) ?_ (cyc_fall t 256) ?_
  · rw [List.pairwise_reverse]
    have := List.pairwise_mergeSort (le := fun x y : Int => decide (x ≤ y)) (fun a b c h1 h2 => by simp at *; omega) (fun a b => by simp; omega) (lenTo t 256).2
    exact this.imp fun h => by simpa using h
  · refine (List.reverse_perm _).trans ((List.mergeSort_perm _ _).trans ?_)
    rw [List.perm_iff_count]
    intro v
    exact len_count t v 256
/- every byte -/
theorem sm_ge {f : Nat → Nat} : ∀ {n v : Nat}, (∀ x, x < n → 1 ≤ f x) → v < n → n + f v ≤ sm f n + 1
  | n + 1, v, h, hv => by
    rw [sm]
    have hn := h n (by omega)
    by_cases he : v = n
    · subst he
      have : ∀ m, m ≤ v → m ≤ sm f m := fun m => by
        induction m with
        | zero => intro _; exact Nat.zero_le _
        | succ m ih => intro hm; rw [sm]; have := ih (by omega); have := h m (by omega); omega
      have := this v (Nat.le_refl _)
      omega
    · have := sm_ge (n := n) (v := v) (fun x hx => h x (by omega)) (by omega)
      omega
theorem once_pos {t : Nat → Nat} (ht : ∀ x, x < 256 → t x < 256) (h : ∀ v, v < 256 → 0 < cnV t 256 v) : onceB t = true := by
  refine once_all fun v hv => ?_
  have h1 := ct_all t (m := 256) (n := 256) ht
  have h2 := sm_ge (f := fun c => ct (fun x => t x == c) 256) (n := 256) (v := v) (fun x hx => h x hx) hv
  have h3 := h v hv
  unfold cnV at h3
  rw [h1] at h2
  omega
theorem once_neg {t : Nat → Nat} {v : Nat} (hv : v < 256) (h : cnV t 256 v = 0) : onceB t = false := once_not hv (by unfold cnV at h; rw [h]; simp)
end Go.Proofs.Ytdbledfpphkppab
