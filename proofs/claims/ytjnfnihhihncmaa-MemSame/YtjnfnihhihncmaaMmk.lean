/- What the sorting of regions answers. -/
import Derived.Test.YtjnfnihhihncmaaMmj
import Derived.Test.YtjnfnihhihncmaaShelg
import Derived.Test.YtjnfnihhihncmaaShelf
import Derived.Sort.OwnSorted
namespace Go.Proofs.Ytjnfnihhihncmaa
open Go.RowKit
set_option linter.unusedVariables false

theorem flatR_at : ∀ (L : List Rgn) (j : Nat) (h : j < 3 * L.length), (flatR L)[j]? = some ((encR (L[j / 3]'(by omega)))[j % 3]'(by show _ < 3; omega))
  | [], j, h => absurd h (by simp)
  | x :: L, 0, h => rfl
  | x :: L, 1, h => rfl
  | x :: L, 2, h => rfl
  | x :: L, j + 3, h => by
    rw [flatR_cons, List.getElem?_cons_succ, List.getElem?_cons_succ, List.getElem?_cons_succ, flatR_at L j (by simp only [List.length_cons] at h; omega)]
    have e1 : (j + 3) / 3 = j / 3 + 1 := by omega
    have e2 : (j + 3) % 3 = j % 3 := by omega
    simp only [e1, e2, List.getElem_cons_succ]
theorem flatK_list (d : Array Rgn) : (Go.Sort.flatK encR 3 d).toList = flatR d.toList := by
  apply List.ext_getElem?
  intro j
  by_cases hj : j < d.size * 3
  · rw [flatR_at _ _ (by simpa [Nat.mul_comm] using hj)]
    have h1 := Go.Sort.get_flatK encR 3 d j hj
    have hs : j < (Go.Sort.flatK encR 3 d).size := by rw [Go.Sort.size_flatK]; exact hj
    rw [Array.getElem?_toList, Array.getElem?_eq_getElem hs]
    rw [getElem!_pos _ j hs] at h1
    rw [h1]
    congr 1
    have hd : j / 3 < d.size := by omega
    rw [getElem!_pos d (j / 3) hd]
    have h2 : j % 3 < (encR d[j / 3]).length := by show _ < 3; omega
    rw [getElem!_pos (encR d[j / 3]) (j % 3) h2]
    simp
  · rw [List.getElem?_eq_none (by simp; omega), List.getElem?_eq_none (by rw [flatR_len]; simp; omega)]
theorem holds_rg {w : World} {g n : Nat} {cur : Array Value} {e : TypeId} {L : List Rgn} (hb : w.heap[g]? = some (.cells cur e (0, 0))) (ht : cur.toList.take (L.length * 3) = flatR L) : Go.Sort.HoldsK encR 3 w g 0 L.toArray := by
  intro j hj
  rw [Go.Sort.size_flatK] at hj
  have hj' : j < L.length * 3 := by simpa using hj
  refine ⟨?_, by simp [World.frozen?, hb]⟩
  have h1 : (cur.toList.take (L.length * 3))[j]? = (flatR L)[j]? := by rw [ht]
  rw [List.getElem?_take_of_lt hj'] at h1
  have h2 := flatK_list L.toArray
  have hs : j < (Go.Sort.flatK encR 3 L.toArray).size := by rw [Go.Sort.size_flatK]; exact hj
  have h3 : (flatR L)[j]? = some ((Go.Sort.flatK encR 3 L.toArray)[j]!) := by
    rw [getElem!_pos _ j hs, ← Array.getElem?_eq_getElem hs, ← Array.getElem?_toList, h2]
  rw [cell_of_row _ _ _ _ _ _ hb, Nat.zero_add, ← Array.getElem?_toList, h1, h3]
  rfl
theorem heap_sortK {w : World} {g n : Nat} {os : Array Obj} {cur : Array Value} {e : TypeId} {fr : Nat × Nat} (d : Array Rgn) (hb : w.heap[g]? = some (.cells cur e fr)) :
    (Go.Proofs.sortWorldK encR 3 w g 0 n d os).heap[g]? = some (.cells (Go.Sort.putCells id 0 (Go.Sort.flatK encR 3 d) cur) e fr) := by
  have hg : g < w.heap.size := row_lt hb
  unfold Go.Proofs.sortWorldK Go.Sort.putRowK
  rw [Go.Sort.heap_grow_old _ _ (by simpa using hg)]
  simp [Go.Sort.putRow, Go.Sort.mapBlock, Go.Sort.ahead, Array.getElem?_modify, hb, Go.Sort.onCells]
theorem grownBy_sortK {w : World} {g n : Nat} {os : Array Obj} (d : Array Rgn) : w.grownBy (Go.Proofs.sortWorldK encR 3 w g 0 n d os) (some g) := by
  unfold Go.Proofs.sortWorldK Go.Sort.putRowK
  refine ⟨rfl, rfl, rfl, by simp, fun k hk hne => ?_⟩
  rw [Go.Sort.heap_grow_old _ _ (by simpa using hk)]
  have : g ≠ k := fun e => hne (by rw [e])
  simp [Go.Sort.putRow, Go.Sort.mapBlock, Go.Sort.ahead, Array.getElem?_modify, this]
theorem take_putK (cur F : Array Value) (h : F.size ≤ cur.size) : (Go.Sort.putCells id 0 F cur).toList.take F.size = F.toList := by
  apply List.ext_getElem?
  intro j
  by_cases hj : j < F.size
  · rw [List.getElem?_take_of_lt hj, Array.getElem?_toList]
    simp [Go.Sort.putCells, hj, show j < cur.size by omega]
  · rw [List.getElem?_take_eq_none (by omega), List.getElem?_eq_none (by simp; omega)]
theorem owns_sortK {w : World} {base g cap n : Nat} {e : TypeId} {os : Array Obj} {cur : Array Value} {L : List Rgn} (d : Array Rgn) (hl : d.size = L.length) (hbase : base ≤ g) (hb : w.heap[g]? = some (.cells cur e (0, 0)))
    (h1 : L.length ≤ cap) (h2 : cap ≤ maxLen) (h3 : cur.size = cap * 3) :
    (Go.Proofs.sortWorldK encR 3 w g 0 n d os).ownsRow base e 3 (.slice (some ⟨g, 0, none⟩) L.length cap) L.length (flatR d.toList) :=
  ⟨by rw [flatR_len]; simp [hl], .inr ⟨g, cap, _, rfl, hbase, heap_sortK d hb, h1, h2, by simp [Go.Sort.putCells, h3], by
    have hs := Go.Sort.size_flatK encR 3 d
    rw [← flatK_list, ← hl, ← hs]
    exact take_putK cur _ (by rw [hs, h3, hl]; omega)⟩⟩
def cfS (x y : Rgn) : Int := cmpI x.1 y.1
theorem ltS (x y : Rgn) : Go.Proofs.ltOf cfS x y = decide (x.1 < y.1) := by
  unfold Go.Proofs.ltOf cfS cmpI
  by_cases h1 : x.1 < y.1
  · simp [h1]
  · by_cases h2 : y.1 < x.1 <;> simp [h1, h2]
theorem swoS : Go.Sort.SWO (Go.Proofs.ltOf cfS) where
  irrefl x := by rw [ltS]; simp
  trans x y z h1 h2 := by rw [ltS] at *; simp at *; omega
  ntrans x y z h1 h2 := by rw [ltS] at *; simp at *; omega
set_option maxRecDepth 100000 in
set_option maxHeartbeats 1000000 in
theorem closureS (x y : Rgn) (W : World) : Calls Try.prog 31 #[.agg (encR x).toArray, .agg (encR y).toArray] W fun e w' => e = .returned (.int .i64 (cfS x y)) ∧ ∃ q os', w' = Go.Sort.grow (W.drewN q) os' := by
  have hcon := hidD (fun W' => cmp_any x.1 y.1 W')
  unfold cfS
  generalize cmpI x.1 y.1 = r at *
  obtain ⟨xa, xb, xc⟩ := x
  obtain ⟨ya, yb, yc⟩ := y
  show Calls _ _ #[.agg #[.int .i64 xa, .int .i64 xb, .int .i64 xc], .agg #[.int .i64 ya, .int .i64 yb, .int .i64 yc]] _ _
  change Hid (∀ W', Calls Try.prog 32 #[.int .i64 xa, .int .i64 ya] W' _) at hcon
  obtain ⟨g0, -, -⟩ := rg_cells W xa xb xc
  have hlt : W.heap.size < (W.alloc (.cells #[.int .i64 xa, .int .i64 xb, .int .i64 xc] 35)).heap.size := row_lt (heap_alloc_last _ _)
  obtain ⟨k0, -, -⟩ := rg_cells (W.alloc (.cells #[.int .i64 xa, .int .i64 xb, .int .i64 xc] 35)) ya yb yc
  have g1 := (((Below.refl _ (W.alloc (.cells #[.int .i64 xa, .int .i64 xb, .int .i64 xc] 35))).alloc (Nat.le_refl _) (.cells #[.int .i64 ya, .int .i64 yb, .int .i64 yc] 35)).cell (p := ⟨W.heap.size, 0, none⟩) hlt).trans g0
  go_enter Try.func31, Try.ntmps31
  go_wp2_with (go_at_call 32; refine (hcon.out _).mono ?_; rintro e w' ⟨rfl, rfl⟩)
  go_ret
  exact ⟨rfl, 0, _, by rw [Go.Sort.alloc_eq_grow, Go.Sort.alloc_eq_grow, Go.Sort.grow_grow]; rfl⟩
/- a rising list, the same elements -/
def SortedTo (L M : List Rgn) : Prop := M.Perm L ∧ ∀ i j (hi : i < j) (hj : j < M.length), (M[i]'(by omega)).1 ≤ M[j].1
set_option maxRecDepth 100000 in
theorem len_zero (w : World) : Calls Try.prog 60 #[.int .u64 0] w fun e w' => e = .returned (.int .i64 0) ∧ w' = w := by
  have HL : Hid (∀ w, Calls Try.prog 86 #[.int .u64 0] w fun e w' => e = .returned (.int .i64 0) ∧ w' = w) := fun w => Go.Proofs.Try.bits_Len64 0 w (by decide) (by decide)
  go_enter Try.func60, Try.ntmps60
  go_wp2_with (go_at_call 86; refine (HL.out _).mono ?_; rintro e w2 ⟨rfl, rfl⟩)
  go_ret
  exact ⟨rfl, rfl⟩
set_option maxRecDepth 100000 in
theorem ins_none (f : Value) (w : World) : Calls Try.prog 77 #[.slice none 0 0, .int .i64 0, .int .i64 0, f] w fun e w' => e = .returned (.tuple #[]) ∧ w' = w := by
  go_enter Try.func77, Try.ntmps77
  go_wp2_with fail
  refine wp_loop_rounds 1 ?_
  rw [rounds_succ]
  go_wp2_with fail
  go_end0
  exact ⟨rfl, rfl⟩
set_option maxRecDepth 100000 in
theorem pdq_none (f : Value) (w : World) : Calls Try.prog 59 #[.slice none 0 0, .int .i64 0, .int .i64 0, .int .i64 0, f] w fun e w' => e = .returned (.tuple #[]) ∧ w' = w := by
  have HI : Hid (∀ w, Calls Try.prog 77 #[.slice none 0 0, .int .i64 0, .int .i64 0, f] w fun e w' => e = .returned (.tuple #[]) ∧ w' = w) := fun w => ins_none f w
  go_enter Try.func59, Try.ntmps59
  go_wp2_with fail
  refine wp_loop_rounds 1 ?_
  rw [rounds_succ]
  go_wp2_with (go_at_call 77; refine (HI.out _).mono ?_; rintro e w2 ⟨rfl, rfl⟩)
  refine bodyPost_ret (v := .tuple #[]) (by simp [results, Try.results59, go_sem]) rfl ?_
  exact ⟨rfl, rfl⟩
set_option maxRecDepth 100000 in
theorem sort_none (f : Value) (w : World) : Calls Try.prog 30 #[.slice none 0 0, f] w fun e w' => e = .returned (.tuple #[]) ∧ w' = w := by
  have HP : Hid (∀ w, Calls Try.prog 59 #[.slice none 0 0, .int .i64 0, .int .i64 0, .int .i64 0, f] w fun e w' => e = .returned (.tuple #[]) ∧ w' = w) := fun w => pdq_none f w
  have HL : Hid (∀ w, Calls Try.prog 60 #[.int .u64 0] w fun e w' => e = .returned (.int .i64 0) ∧ w' = w) := fun w => len_zero w
  go_enter Try.func30, Try.ntmps30
  go_wp2_with (first | (go_at_call 60; refine (HL.out _).mono ?_; rintro e w2 ⟨rfl, rfl⟩) | (go_at_call 59; refine (HP.out _).mono ?_; rintro e w2 ⟨rfl, rfl⟩))
  go_end0
  exact ⟨rfl, rfl⟩
set_option maxRecDepth 100000 in
set_option maxHeartbeats 1000000 in
theorem sortRg_any (base : Nat) (v : Value) (L : List Rgn) (hl : L.length ≤ 140737488355328) (w : World) (h : w.ownsRow base 35 3 v L.length (flatR L)) (hB : base ≤ w.heap.size) :
    Calls Try.prog 30 #[v, .func (.func 31) #[] #[]] w fun e w' => e = .returned (.tuple #[]) ∧ ∃ M, SortedTo L M ∧ w'.ownsRow base 35 3 v L.length (flatR M) ∧ w.grownBy w' v.ownBlock := by
  rcases h.2 with ⟨rfl, h0⟩ | ⟨g, cap, cur, rfl, hbase, hb, h1, h2, h3, h4⟩
  · have hL : L = [] := List.length_eq_zero_iff.1 h0
    subst hL
    refine Calls.mono (sort_none (.func (.func 31) #[] #[]) w) ?_
    rintro e w' ⟨rfl, rfl⟩
    exact ⟨rfl, [], ⟨List.Perm.refl _, fun i j hi hj => absurd hj (by simp)⟩, World.ownsRow_nil _ _ _ _, ⟨rfl, rfl, rfl, Nat.le_refl _, fun _ _ _ => rfl⟩⟩
  · have eg : ∀ args w, (callFunc 31 args).run Try.prog w = .ok (.enter 31 args) w := enters_of Try.func31 (by kernel_rfl) rfl
    have hcon := Go.Proofs.AnyQ.slices_SortFunc Go.Proofs.Try.sortRg 3 Try.isAgg35 Try.sizeOf35 encR (fun _ => rfl) (fun x v hv => by simp [encR] at hv; rcases hv with rfl | rfl | rfl <;> rfl) cfS swoS 31 #[] g 0 cap L.toArray w eg (fun _ _ _ _ x y => closureS x y _) (holds_rg (n := 0) hb h4) (row_lt hb) (by simp; omega)
    have hsz : L.toArray.size = L.length := by simp
    rw [hsz] at hcon
    refine Calls.mono (by exact hcon) ?_
    rintro e w' ⟨rfl, d', n, os, hp, hs, rfl⟩
    refine ⟨rfl, d'.toList, ?_, ?_, grownBy_sortK d'⟩
    · have hsd : d'.size = L.length := by have := hp.1; simpa using this
      have hpp := hp.2.2
      rw [← hsd, Array.extract_size] at hpp
      rw [hsd, show L.toArray.extract 0 L.length = L.toArray by simp] at hpp
      refine ⟨by simpa using hpp, fun i j hi hj => ?_⟩
      have hj' : j < d'.size := by simpa using hj
      have := hs i j (Nat.zero_le _) hi (by simpa [hsd] using hj')
      rw [ltS] at this
      have := of_decide_eq_false this
      rw [getElem!_pos d' j hj', getElem!_pos d' i (by omega)] at this
      simp only [Array.getElem_toList]
      omega
    · exact owns_sortK d' (by have := hp.1; simpa using this) hbase hb h1 h2 h3
end Go.Proofs.Ytjnfnihhihncmaa
