/- The walk of ShelfSums: true for every slice of words, and nothing that was there has changed. -/
import Derived.Test.YtnjjpahpaeblfaaAlive
namespace Go.Proofs.Ytnjjpahpaeblfaa
open Go.RowKit Go.Maps Go.Sort
set_option linter.unusedVariables false

theorem Try.info23 : (Try.prog.info? 23).map (fun i => (i.zero, i.size, i.bytes)) = some (some (.int .u32 0), 1, 4) := by kernel_rfl

theorem WordsAt.below {B : Nat} {w w' : World} {sl : Value} {xs : List Int} (h : WordsAt w sl xs) (hb : Below B w w') (hB : w.heap.size ≤ B) : WordsAt w' sl xs := by
  rcases h with h | ⟨g, off, cap, rfl, hg, hc⟩
  · exact .inl h
  · refine .inr ⟨g, off, cap, rfl, Nat.lt_of_lt_of_le hg hb.size, fun j hj => ?_⟩
    rw [hb.cell (p := ⟨g, off + j, none⟩) (Nat.lt_of_lt_of_le hg hB)]
    exact hc j hj
theorem WordsAt.of_row {w : World} {base : Nat} {sl : Value} {xs : List Int} (h : w.ownsRow base 23 1 sl xs.length (xs.map (Value.int .u32))) : WordsAt w sl xs := by
  rcases h.2 with ⟨rfl, h0⟩ | ⟨g, cap, cur, rfl, hb, hg, h1, h2, h3, h4⟩
  · exact .inl ⟨List.eq_nil_of_length_eq_zero h0, none, 0, rfl⟩
  · refine .inr ⟨g, 0, cap, rfl, (Array.getElem?_eq_some_iff.1 hg).1, fun j hj => ?_⟩
    have := h.cells (g := g) rfl j (.int .u32 (xs.getD j 0)) (by rw [List.getElem?_map, List.getElem?_eq_getElem hj]; simp [List.getD, List.getElem?_eq_getElem hj])
    rw [show (⟨g, 0, none⟩ : Addr).add j = ⟨g, 0 + j, none⟩ from Addr.add_lit ..] at this
    exact this
theorem words_oneCell (xs : List Int) : ∀ u ∈ xs.map (Value.int .u32), u.oneCell' = true := by
  intro u hu
  obtain ⟨x, _, rfl⟩ := List.mem_map.1 hu
  rfl
/-- A slice of words as the source of an append: an address, or nil. -/
theorem WordsAt.src {w : World} {g off : Nat} {xs : List Int} (hc : ∀ j, j < xs.length → w.cell? ⟨g, off + j, none⟩ = some (.int .u32 (xs.getD j 0))) :
    ∀ j u, (xs.map (Value.int .u32))[j]? = some u → w.cell? ((⟨g, off, none⟩ : Addr).add j) = some u := by
  intro j u hu
  rw [List.getElem?_map, Option.map_eq_some_iff] at hu
  obtain ⟨x, hx, rfl⟩ := hu
  obtain ⟨hj, rfl⟩ := List.getElem?_eq_some_iff.1 hx
  have := hc j hj
  rw [List.getD, List.getElem?_eq_getElem hj] at this
  rw [show (⟨g, off, none⟩ : Addr).add j = ⟨g, off + j, none⟩ from Addr.add_lit ..]
  exact this

set_option maxRecDepth 100000 in
set_option maxHeartbeats 2000000 in
/-- The law behind the copy: 'mine' owns the words. -/
theorem sums_some (xs : List Int) (hok : WordsOk xs) (ad : Addr) (cap : Nat) (w : World) (hs : WordsAt w (.slice (some ad) xs.length cap) xs) (hsrc : ∀ o j u, (xs.map (Value.int .u32))[j]? = some u → (w.alloc o).cell? (ad.add j) = some u) :
    Calls Try.prog 3 #[.slice (some ad) xs.length cap] w fun e w' => e = .returned (.bool true) ∧ Below w.heap.size w w' := by
  obtain ⟨i0, hi, hz0, hz1, hz2⟩ := info_parts Try.info23
  have hlen := hok.1
  have HOK : Hid (WordsOk xs) := hok
  have HS : Hid (∀ w', Below w.heap.size w w' → WordsAt w' (.slice (some ad) xs.length cap) xs) := fun w' hb => hs.below hb (Nat.le_refl _)
  have HSRC := hidIt hsrc
  clear hs hok hsrc
  go_enter Try.func3, Try.ntmps3
  go_wp2_with (first
    | (at_builtin; refine wpList_append_own _ rfl _ _ 22 rfl w.heap.size 23 i0 (.int .u32 0) 1 4 Try.underlying22 hi hz0 hz1 hz2 rfl (by decide) (.slice (some ⟨w.heap.size, 0, none⟩) 0 0) 0 [] rfl (World.ownsRow_made _ _ 0 (Nat.le_refl _) (by decide) rfl) ad xs.length _ (xs.map (Value.int .u32)) rfl (by simp) (HSRC.out _) (words_oneCell xs) (by unfold maxLen; omega) (by omega) (by simp) ?_; intro v' w3 hown' hg3 hnil3; have HB3 : Hid (Below w.heap.size w w3) := ((Below.refl w.heap.size w).alloc (Nat.le_refl _) _).grown hg3 (by simp) (fun j hj => by simp [Value.ownBlock] at hj; omega); have hr3 : w3.ownsRow w.heap.size 23 1 v' xs.length (xs.map (Value.int .u32)) := by { simpa using hown' }; obtain ⟨a3, c3, rfl⟩ := row_shape hr3; have HM : Hid (WordsAt w3 (.slice a3 xs.length c3) xs) := WordsAt.of_row hr3; clear hnil3 hown' hg3 hr3)
    | (go_at_call 9; refine (sum_any xs HOK.out _ _ _ HM.out).mono ?_; rintro e w' ⟨rfl, rfl⟩)
    | (go_at_call 10; refine (refSum_any xs HOK.out _ _ _ (HS.out _ HB3.out)).mono ?_; rintro e w' ⟨rfl, rfl⟩)
    | (go_at_call 11; refine (alive_any _).mono ?_; rintro e w4 ⟨rfl, hb4⟩)
    | go_in)
  have HB4 : Hid (Below w'.heap.size w' w4) := hb4
  have HBW : Hid (Below w.heap.size w w4) := HB3.out.trans (hb4.mono HB3.out.size)
  clear hb4
  go_loopw [4] (fun i wr => ∃ k : Nat, k ≤ xs.length ∧ i = .int .i64 k ∧ Below w.heap.size w wr ∧ Below w'.heap.size w' wr) (fun i _ => xs.length - (intOf i).toNat)
  case atStart => exact ⟨0, Nat.zero_le _, rfl, HBW.out, HB4.out⟩
  case round =>
    obtain ⟨k, hk, rfl, hnx, hn3⟩ := hrel
    by_cases hlt : k < xs.length
    · rcases HS.out _ hnx with ⟨h0, _⟩ | ⟨g, off, cap', hsl, hg, hcl⟩
      · rw [h0] at hlt; exact absurd hlt (by simp)
      rcases HM.out.below hn3 (Nat.le_refl _) with ⟨h0, _⟩ | ⟨g', off', cap'', hsl', hg', hcl'⟩
      · rw [h0] at hlt; exact absurd hlt (by simp)
      cases hsl
      cases hsl'
      have hcx := hcl k hlt
      have hcy := hcl' k hlt
      have hlti : (k : Int) < xs.length := by omega
      clear hcl hcl'
      generalize xs.getD k 0 = x at *
      have hbn : (x != x) = false := by simp
      go_wp2_with fail
      go_quiet (fail)
      go_wp2
      go_roundw
      case rel => exact ⟨k + 1, by omega, by go_num, below_drewN hnx _, below_drewN hn3 _⟩
      case measure => simp [intOf]; omega
    · go_wp2
      go_ret
      exact ⟨rfl, hnx⟩

set_option maxRecDepth 100000 in
set_option maxHeartbeats 2000000 in
theorem sums_nil (w : World) : Calls Try.prog 3 #[.slice none 0 0] w fun e w' => e = .returned (.bool true) ∧ Below w.heap.size w w' := by
  obtain ⟨i0, hi, hz0, hz1, hz2⟩ := info_parts Try.info23
  have HOK : Hid (WordsOk []) := by simp [Hid, WordsOk]
  have HB3 : Hid (∀ o, Below w.heap.size w (w.alloc o)) := fun o => (Below.refl w.heap.size w).alloc (Nat.le_refl _) o
  have h9 : Hid (∀ a cap (w : World), Calls Try.prog 9 #[.slice a 0 cap] w fun e w' => e = .returned (.int .u32 (sumL [])) ∧ w' = w) := fun a cap w => sum_any [] HOK.out a cap w (.inl ⟨rfl, a, cap, rfl⟩)
  have h10 : Hid (∀ a cap (w : World), Calls Try.prog 10 #[.slice a 0 cap] w fun e w' => e = .returned (.int .u32 (sumL [])) ∧ w' = w) := fun a cap w => refSum_any [] HOK.out a cap w (.inl ⟨rfl, a, cap, rfl⟩)
  go_enter Try.func3, Try.ntmps3
  go_wp2_with (first
    | (at_builtin; refine wpList_append_own_none rfl _ _ 22 rfl w.heap.size 23 i0 1 Try.underlying22 hi (.slice (some ⟨w.heap.size, 0, none⟩) 0 0) 0 [] rfl (World.ownsRow_made _ _ 0 (Nat.le_refl _) (by decide) rfl) rfl ?_)
    | (go_at_call 9; refine (h9.out _ _ _).mono ?_; rintro e w' ⟨rfl, rfl⟩)
    | (go_at_call 10; refine (h10.out _ _ _).mono ?_; rintro e w' ⟨rfl, rfl⟩)
    | (go_at_call 11; refine (alive_any _).mono ?_; rintro e w4 ⟨rfl, hb4⟩)
    | go_in)
  refine wp_loop_rounds 1 ?_
  rw [rounds_succ]
  go_wp2
  go_ret
  exact ⟨rfl, (HB3.out _).trans (hb4.mono (by simp))⟩

theorem sums_any (xs : List Int) (hok : WordsOk xs) (sl : Value) (w : World) (hs : WordsAt w sl xs) (hcap : sl = .slice none xs.length 0 ∨ ∃ ad cap, sl = .slice (some ad) xs.length cap) :
    Calls Try.prog 3 #[sl] w fun e w' => e = .returned (.bool true) ∧ Below w.heap.size w w' := by
  rcases hs with ⟨rfl, a, cap, rfl⟩ | ⟨g, off, cap, rfl, hg, hc⟩
  · rcases hcap with h | ⟨ad, cap', h⟩
    · cases h; exact sums_nil w
    · cases h; exact sums_some [] hok ad cap w (.inl ⟨rfl, some ad, cap, rfl⟩) (fun o j u hu => by simp at hu)
  · refine sums_some xs hok _ cap w (.inr ⟨g, off, cap, rfl, hg, hc⟩) (fun o => WordsAt.src (fun j hj => ?_))
    exact (((Below.refl w.heap.size w).alloc (Nat.le_refl _) o).cell (p := ⟨g, off + j, none⟩) hg).trans (hc j hj)
end Go.Proofs.Ytnjjpahpaeblfaa
