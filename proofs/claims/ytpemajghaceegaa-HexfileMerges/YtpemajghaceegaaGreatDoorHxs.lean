/- What fitsMemory and the sorting of segments answer. -/
import Derived.Test.YtpemajghaceegaaGreatDoorHxr
import Derived.Test.YtpemajghaceegaaGreatDoorShelf
import Derived.Test.YtpemajghaceegaaGreatDoorShelg
import Derived.Sort.OwnSorted
namespace Go.Proofs.YtpemajghaceegaaGreatDoor
open Go.RowKit
set_option linter.unusedVariables false

/- a segment's two cells -/
abbrev Sgc := Int × Option Addr × Nat × Nat
def encS (x : Sgc) : List Value := [.int .i64 x.1, .slice x.2.1 x.2.2.1 x.2.2.2]
def slS (x : Sgc) : Value := .slice x.2.1 x.2.2.1 x.2.2.2
def flatV (L : List Sgc) : List Value := L.flatMap encS
theorem flatV_cons (x : Sgc) (L : List Sgc) : flatV (x :: L) = .int .i64 x.1 :: slS x :: flatV L := rfl
theorem flatV_len : ∀ L : List Sgc, (flatV L).length = 2 * L.length
  | [] => rfl
  | x :: L => by rw [flatV_cons]; simp only [List.length_cons, flatV_len L]; omega
theorem flatV_app (A B : List Sgc) : flatV (A ++ B) = flatV A ++ flatV B := by unfold flatV; rw [List.flatMap_append]
theorem flatV_get : ∀ (L : List Sgc) (j : Nat) (h : j < 2 * L.length), (flatV L)[j]? = some ((encS (L[j / 2]'(by omega)))[j % 2]'(by show _ < 2; omega))
  | [], j, h => absurd h (by simp)
  | x :: L, 0, h => rfl
  | x :: L, 1, h => rfl
  | x :: L, j + 2, h => by
    rw [flatV_cons, List.getElem?_cons_succ, List.getElem?_cons_succ, flatV_get L j (by simp only [List.length_cons] at h; omega)]
    have e1 : (j + 2) / 2 = j / 2 + 1 := by omega
    have e2 : (j + 2) % 2 = j % 2 := by omega
    simp only [e1, e2, List.getElem_cons_succ]
theorem flatK_list (d : Array Sgc) : (Go.Sort.flatK encS 2 d).toList = flatV d.toList := by
  apply List.ext_getElem?
  intro j
  by_cases hj : j < d.size * 2
  · rw [flatV_get _ _ (by simpa [Nat.mul_comm] using hj)]
    have h1 := Go.Sort.get_flatK encS 2 d j hj
    have hs : j < (Go.Sort.flatK encS 2 d).size := by rw [Go.Sort.size_flatK]; exact hj
    rw [Array.getElem?_toList, Array.getElem?_eq_getElem hs]
    rw [getElem!_pos _ j hs] at h1
    rw [h1]
    congr 1
    have hd : j / 2 < d.size := by omega
    rw [getElem!_pos d (j / 2) hd]
    have h2 : j % 2 < (encS d[j / 2]).length := by show _ < 2; omega
    rw [getElem!_pos (encS d[j / 2]) (j % 2) h2]
    simp
  · rw [List.getElem?_eq_none (by simp; omega), List.getElem?_eq_none (by rw [flatV_len]; simp; omega)]
theorem holds_seg {w : World} {g n : Nat} {cur : Array Value} {e : TypeId} {L : List Sgc} (hb : w.heap[g]? = some (.cells cur e (0, 0))) (ht : cur.toList.take (L.length * 2) = flatV L) : Go.Sort.HoldsK encS 2 w g 0 L.toArray := by
  intro j hj
  rw [Go.Sort.size_flatK] at hj
  have hj' : j < L.length * 2 := by simpa using hj
  refine ⟨?_, by simp [World.frozen?, hb]⟩
  have h1 : (cur.toList.take (L.length * 2))[j]? = (flatV L)[j]? := by rw [ht]
  rw [List.getElem?_take_of_lt hj'] at h1
  have h2 := flatK_list L.toArray
  have hs : j < (Go.Sort.flatK encS 2 L.toArray).size := by rw [Go.Sort.size_flatK]; exact hj
  have h3 : (flatV L)[j]? = some ((Go.Sort.flatK encS 2 L.toArray)[j]!) := by
    rw [getElem!_pos _ j hs, ← Array.getElem?_eq_getElem hs, ← Array.getElem?_toList, h2]
  rw [cell_of_row _ _ _ _ _ _ hb, Nat.zero_add, ← Array.getElem?_toList, h1, h3]
  rfl
theorem heap_sortK {w : World} {g n : Nat} {os : Array Obj} {cur : Array Value} {e : TypeId} {fr : Nat × Nat} (d : Array Sgc) (hb : w.heap[g]? = some (.cells cur e fr)) :
    (Go.Proofs.sortWorldK encS 2 w g 0 n d os).heap[g]? = some (.cells (Go.Sort.putCells id 0 (Go.Sort.flatK encS 2 d) cur) e fr) := by
  have hg : g < w.heap.size := row_lt hb
  unfold Go.Proofs.sortWorldK Go.Sort.putRowK
  rw [Go.Sort.heap_grow_old _ _ (by simpa using hg)]
  simp [Go.Sort.putRow, Go.Sort.mapBlock, Go.Sort.ahead, Array.getElem?_modify, hb, Go.Sort.onCells]
theorem grownBy_sortK {w : World} {g n : Nat} {os : Array Obj} (d : Array Sgc) : w.grownBy (Go.Proofs.sortWorldK encS 2 w g 0 n d os) (some g) := by
  unfold Go.Proofs.sortWorldK Go.Sort.putRowK
  refine ⟨rfl, rfl, rfl, by simp, fun k hk hne => ?_⟩
  rw [Go.Sort.heap_grow_old _ _ (by simpa using hk)]
  have : g ≠ k := fun e => hne (by rw [e])
  simp [Go.Sort.putRow, Go.Sort.mapBlock, Go.Sort.ahead, Array.getElem?_modify, this]
theorem take_putK (cur F : Array Value) (h : F.size ≤ cur.size) : (Go.Sort.putCells id 0 F cur).toList.take F.size = F.toList := by
  apply List.ext_getElem?
  intro j
  by_cases hj : j < F.size
  · rw [List.getElem?_take_of_lt hj, Array.getElem?_toList]
    simp [Go.Sort.putCells, hj, show j < cur.size by omega]
  · rw [List.getElem?_take_eq_none (by omega), List.getElem?_eq_none (by simp; omega)]
theorem owns_sortK {w : World} {base g cap n : Nat} {e : TypeId} {os : Array Obj} {cur : Array Value} {L : List Sgc} (d : Array Sgc) (hl : d.size = L.length) (hbase : base ≤ g) (hb : w.heap[g]? = some (.cells cur e (0, 0)))
    (h1 : L.length ≤ cap) (h2 : cap ≤ maxLen) (h3 : cur.size = cap * 2) :
    (Go.Proofs.sortWorldK encS 2 w g 0 n d os).ownsRow base e 2 (.slice (some ⟨g, 0, none⟩) L.length cap) L.length (flatV d.toList) :=
  ⟨by rw [flatV_len]; simp [hl]; omega, .inr ⟨g, cap, _, rfl, hbase, heap_sortK d hb, h1, h2, by simp [Go.Sort.putCells, h3], by
    have hs := Go.Sort.size_flatK encS 2 d
    rw [← flatK_list, ← hl, ← hs]
    exact take_putK cur _ (by rw [hs, h3, hl]; omega)⟩⟩
def cfS (x y : Sgc) : Int := Go.Lib.compareInt x.1 y.1
theorem ltS (x y : Sgc) : Go.Proofs.ltOf cfS x y = decide (x.1 < y.1) := by
  unfold Go.Proofs.ltOf cfS Go.Lib.compareInt
  by_cases h1 : x.1 < y.1
  · simp [h1]
  · by_cases h2 : y.1 < x.1 <;> simp [h1, h2]
theorem swoS : Go.Sort.SWO (Go.Proofs.ltOf cfS) where
  irrefl x := by rw [ltS]; simp
  trans x y z h1 h2 := by rw [ltS] at *; simp at *; omega
  ntrans x y z h1 h2 := by rw [ltS] at *; simp at *; omega
set_option maxRecDepth 100000 in
set_option maxHeartbeats 1000000 in
theorem closureS (x y : Sgc) (W : World) : Calls Tryz.prog 28 #[.agg (encS x).toArray, .agg (encS y).toArray] W fun e w' => e = .returned (.int .i64 (cfS x y)) ∧ ∃ q os', w' = Go.Sort.grow (W.drewN q) os' := by
  have hcon := fun W' => Go.Proofs.Tryz.cmp_Compare_int x.1 y.1 W'
  unfold cfS
  obtain ⟨r, hr⟩ : ∃ r, Go.Lib.compareInt x.1 y.1 = r := ⟨_, rfl⟩
  rw [hr] at hcon ⊢
  obtain ⟨xa, xp, xn, xc⟩ := x
  obtain ⟨ya, yp, yn, yc⟩ := y
  show Calls _ _ #[.agg #[.int .i64 xa, .slice xp xn xc], .agg #[.int .i64 ya, .slice yp yn yc]] _ _
  go_enter Tryz.func28, Tryz.ntmps28
  go_wp2_with (go_at_call 29; refine (hcon _).mono ?_; rintro e w' ⟨rfl, rfl⟩)
  go_ret
  exact ⟨rfl, 0, _, by rw [Go.Sort.alloc_eq_grow, Go.Sort.alloc_eq_grow, Go.Sort.grow_grow]; rfl⟩
/- a rising list, the same elements -/
def SortedTo (L M : List Sgc) : Prop := M.Perm L ∧ ∀ i j (hi : i < j) (hj : j < M.length), (M[i]'(by omega)).1 ≤ M[j].1
set_option maxRecDepth 100000 in
set_option maxHeartbeats 1000000 in
theorem sortSeg_any (base : Nat) (v : Value) (L : List Sgc) (hl : L.length ≤ 140737488355328) (w : World) (h : w.ownsRow base 36 2 v L.length (flatV L)) (hB : base ≤ w.heap.size) :
    Calls Tryz.prog 27 #[v, .func (.func 28) #[] #[]] w fun e w' => e = .returned (.tuple #[]) ∧ ∃ M, SortedTo L M ∧ w'.ownsRow base 36 2 v L.length (flatV M) ∧ w.grownBy w' v.ownBlock := by
  rcases h.2 with ⟨rfl, h0⟩ | ⟨g, cap, cur, rfl, hbase, hb, h1, h2, h3, h4⟩
  · have hL : L = [] := List.length_eq_zero_iff.1 h0
    subst hL
    refine Calls.mono (by exact Go.Proofs.AnyF.slices_SortFunc_none Go.Proofs.Tryz.sortSeg none 0 (.func (.func 28) #[] #[]) w) ?_
    rintro e w' ⟨rfl, rfl⟩
    exact ⟨rfl, [], ⟨List.Perm.refl _, fun i j hi hj => absurd hj (by simp)⟩, World.ownsRow_nil _ _ _ _, ⟨rfl, rfl, rfl, Nat.le_refl _, fun _ _ _ => rfl⟩⟩
  · have eg : ∀ args w, (callFunc 28 args).run Tryz.prog w = .ok (.enter 28 args) w := enters_of Tryz.func28 (by kernel_rfl) rfl
    have hcon := Go.Proofs.AnyQ.slices_SortFunc Go.Proofs.Tryz.sortSeg 2 Tryz.isAgg36 Tryz.sizeOf36 encS (fun _ => rfl) (fun x v hv => by simp [encS] at hv; rcases hv with rfl | rfl <;> rfl) cfS swoS 28 #[] g 0 cap L.toArray w eg (fun _ _ _ _ x y => closureS x y _) (holds_seg (n := 0) hb h4) (row_lt hb) (by simp; omega)
    have hsz : L.toArray.size = L.length := by simp
    rw [hsz] at hcon
    refine Calls.mono (by exact hcon) ?_
    rintro e w' ⟨rfl, d', n, os, hp, hs, rfl⟩
    refine ⟨rfl, d'.toList, ?_, ?_, grownBy_sortK d'⟩
    · have hsd : d'.size = L.length := by have := hp.1; simpa using this
      have hpp := hp.2.2
      rw [← hsd, Array.extract_size] at hpp
      rw [hsd, show L.toArray.extract 0 L.length = L.toArray by simp] at hpp
      refine ⟨by simpa using hpp, fun i j hi hj => ?_⟩
      have hj' : j < d'.size := by simpa using hj
      have := hs i j (Nat.zero_le _) hi (by simpa [hsd] using hj')
      rw [ltS] at this
      have := of_decide_eq_false this
      rw [getElem!_pos d' j hj', getElem!_pos d' i (by omega)] at this
      simp only [Array.getElem_toList]
      omega
    · exact owns_sortK d' (by have := hp.1; simpa using this) hbase hb h1 h2 h3
end Go.Proofs.YtpemajghaceegaaGreatDoor
