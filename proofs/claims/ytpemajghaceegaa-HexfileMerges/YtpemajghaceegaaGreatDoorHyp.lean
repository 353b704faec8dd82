/- Segments as they read in memory; what Like, Equal and the equality of bytes answer. -/
import Derived.Test.YtpemajghaceegaaGreatDoorRfj
import Derived.Test.YtpemajghaceegaaGreatDoorHyc
namespace Go.Proofs.YtpemajghaceegaaGreatDoor
open Go.RowKit
set_option linter.unusedVariables false

/- a slice of segments that reads as these places with their bytes -/
def PbAt (w : World) (v : Value) (P : List Pb) : Prop := ∃ a cap, v = .slice a P.length cap ∧ ∀ k (hk : k < P.length), ∃ g o b n c, a = some ⟨g, o, none⟩ ∧ g < w.heap.size ∧
  w.cell? ⟨g, o + k * 2, none⟩ = some (.int .i64 (P[k]).1) ∧ w.cell? ⟨g, o + k * 2 + 1, none⟩ = some (.slice b n c) ∧ ByAt w (.slice b n c) (P[k]).2
theorem PbAt.next {w w' : World} {v : Value} {P : List Pb} (h : PbAt w v P) (hb : Below w.heap.size w w') : PbAt w' v P := by
  obtain ⟨a, cap, hv, hc⟩ := h
  refine ⟨a, cap, hv, fun k hk => ?_⟩
  obtain ⟨g, o, b, n, c, h1, h2, h3, h4, h5⟩ := hc k hk
  exact ⟨g, o, b, n, c, h1, Nat.lt_of_lt_of_le h2 hb.size, (hb.cell (p := ⟨g, o + k * 2, none⟩) h2).trans h3, (hb.cell (p := ⟨g, o + k * 2 + 1, none⟩) h2).trans h4, h5.next hb⟩
theorem PbAt.len {w : World} {v : Value} {P : List Pb} (h : PbAt w v P) : ∃ a cap, v = .slice a P.length cap := by
  obtain ⟨a, cap, hv, _⟩ := h
  exact ⟨a, cap, hv⟩
theorem by_unique {w : World} {v : Value} {l m : List UInt8} (h : ByAt w v l) (h' : ByAt w v m) : l = m := by
  obtain ⟨a, cap, hv, h1, h2, h3, h4⟩ := h
  obtain ⟨a', cap', hv', h1', h2', h3', h4'⟩ := h'
  rw [hv] at hv'
  injection hv' with e1 e2 e3
  subst e1
  refine List.ext_getElem e2 fun k hk hk' => ?_
  obtain ⟨g, o, e, _, hc⟩ := h4 k hk
  obtain ⟨g', o', e', _, hc'⟩ := h4' k hk'
  rw [e] at e'
  cases e'
  rw [hc] at hc'
  injection hc' with hc'
  injection hc' with _ hx
  rw [List.getD_eq_getElem?_getD, List.getD_eq_getElem?_getD, List.getElem?_eq_getElem hk, List.getElem?_eq_getElem hk'] at hx
  exact UInt8.toNat_inj.1 (by exact_mod_cast hx)
/- the rows of one's own read so -/
theorem pb_of_segs {e : TypeId} {B : Nat} {w : World} {l : Value} {T : List Sgb} (h : SegsAt e B w l T) : PbAt w l (T.map pbT) := by
  rcases Nat.eq_zero_or_pos T.length with h0 | h0
  · obtain ⟨a, cap, rfl⟩ := row_shape h.1
    exact ⟨a, cap, by rw [List.length_map], fun k hk => by rw [List.length_map] at hk; omega⟩
  · obtain ⟨g, cap, cur, rfl, hb, hg, h1, h2, h3⟩ := row_cells h.1 h0
    refine ⟨_, cap, by rw [List.length_map], fun k hk => ?_⟩
    rw [List.length_map] at hk
    have hrow := h.2 T[k] (List.getElem_mem hk)
    have hfl : T = T.take k ++ [T[k]] ++ T.drop (k + 1) := by rw [List.append_assoc, List.singleton_append, List.getElem_cons_drop, List.take_append_drop]
    have hx : (flatB T)[k * 2]? = some (.int .i64 (T[k]).1) ∧ (flatB T)[k * 2 + 1]? = some (T[k]).2.1 := by
      have hl : (T.take k).length = k := by rw [List.length_take]; omega
      have hf := flat_get (T0 := T.take k) (t := T[k])
      rw [hl] at hf
      have hlen : (flatB (T.take k ++ [T[k]])).length = 2 * (k + 1) := by rw [flatB_len, List.length_append, hl]; rfl
      have e1 : flatB T = flatB (T.take k ++ [T[k]]) ++ flatB (T.drop (k + 1)) := by rw [← flatB_app, ← hfl]
      rw [e1, List.getElem?_append_left (by omega), List.getElem?_append_left (by omega)]
      exact hf
    obtain ⟨b, c, hv⟩ := row_shape hrow.1
    refine ⟨g, 0, b, (T[k]).2.2.length, c, rfl, row_lt hg, ?_, ?_, ?_⟩
    · rw [cell_of_row _ _ _ _ _ _ hg, Nat.zero_add, h3 _ (by omega), hx.1, List.getElem_map]; rfl
    · rw [cell_of_row _ _ _ _ _ _ hg, Nat.zero_add, h3 _ (by omega), hx.2, hv]
    · rw [List.getElem_map, ← hv]; exact by_of_own hrow.1
theorem PbAt.sg {w : World} {v : Value} {P : List Pb} (h : PbAt w v P) : ∃ (L : List Sgc) (Bf : Sgc → List UInt8), SgAt w v L ∧ (∀ x ∈ L, ByAt w (slS x) (Bf x)) ∧ L.map (pbS Bf) = P := by
  classical
  obtain ⟨a, cap, rfl, hc⟩ := h
  let sl : Nat → Option Addr × Nat × Nat := fun k => if hk : k < P.length then (⟨(hc k hk).choose_spec.choose_spec.choose, (hc k hk).choose_spec.choose_spec.choose_spec.choose, (hc k hk).choose_spec.choose_spec.choose_spec.choose_spec.choose⟩) else (none, 0, 0)
  have hsl : ∀ k (hk : k < P.length), ∃ g o, a = some ⟨g, o, none⟩ ∧ g < w.heap.size ∧ w.cell? ⟨g, o + k * 2, none⟩ = some (.int .i64 (P[k]).1) ∧ w.cell? ⟨g, o + k * 2 + 1, none⟩ = some (.slice (sl k).1 (sl k).2.1 (sl k).2.2) ∧ ByAt w (.slice (sl k).1 (sl k).2.1 (sl k).2.2) (P[k]).2 := fun k hk => by
    have e : sl k = ⟨(hc k hk).choose_spec.choose_spec.choose, (hc k hk).choose_spec.choose_spec.choose_spec.choose, (hc k hk).choose_spec.choose_spec.choose_spec.choose_spec.choose⟩ := dif_pos hk
    rw [e]
    exact ⟨_, _, (hc k hk).choose_spec.choose_spec.choose_spec.choose_spec.choose_spec⟩
  let L : List Sgc := (List.range P.length).map fun k => ((P.getD k (0, [])).1, sl k)
  have hLl : L.length = P.length := by simp [L]
  have hL : ∀ k (hk : k < L.length), L[k] = ((P[k]'(by omega)).1, sl k) := fun k hk => by
    simp only [L, List.getElem_map, List.getElem_range]
    rw [List.getD_eq_getElem?_getD, List.getElem?_eq_getElem (by omega : k < P.length)]; rfl
  let Bf : Sgc → List UInt8 := fun x => if h : ∃ l, ByAt w (slS x) l then h.choose else []
  have hBf : ∀ x l, ByAt w (slS x) l → Bf x = l := fun x l hx => by
    have hh : ∃ l, ByAt w (slS x) l := ⟨l, hx⟩
    have e : Bf x = hh.choose := dif_pos hh
    rw [e]
    exact by_unique hh.choose_spec hx
  refine ⟨L, Bf, ⟨a, cap, by rw [hLl], fun k hk => ?_⟩, fun x hx => ?_, ?_⟩
  · obtain ⟨g, o, h1, h2, h3, h4, h5⟩ := hsl k (by omega)
    rw [hL k hk]
    exact ⟨g, o, h1, h2, h3, h4⟩
  · obtain ⟨k, hk, rfl⟩ := List.getElem_of_mem hx
    obtain ⟨g, o, h1, h2, h3, h4, h5⟩ := hsl k (by omega)
    have hs : ByAt w (slS L[k]) (P[k]'(by omega)).2 := by rw [hL k hk]; exact h5
    rw [hBf _ _ hs]; exact hs
  · refine List.ext_getElem (by simp [hLl]) fun k hk hk' => ?_
    rw [List.getElem_map]
    obtain ⟨g, o, h1, h2, h3, h4, h5⟩ := hsl k hk'
    have hs : ByAt w (slS (L[k]'(by omega))) (P[k]).2 := by rw [hL k (by omega)]; exact h5
    unfold pbS
    rw [hBf _ _ hs, hL k (by omega)]
/- what Merge tells, by what is read -/
def MpIs (et : TypeId) (R : Except Int (List Pb)) (e : Ending) (w w' : World) : Prop :=
  Below w.heap.size w w' ∧ match R with
    | .error n => e = .returned (.tuple #[.slice none 0 0, .int .i64 n])
    | .ok M => ∃ l T, e = .returned (.tuple #[l, .int .i64 0]) ∧ T.map pbT = M ∧ SegsAt et w.heap.size w' l T
theorem Merge_pb (v : Value) (P : List Pb) (hl : P.length ≤ 4398046510976) (hn : ∀ x ∈ P, x.2.length ≤ 140737488355328) (w : World) (h : PbAt w v P) :
    Calls Tryz.prog 10 #[v] w fun e w' => MgIs 36 (mergeP P) e w w' := by
  obtain ⟨L, Bf, h1, h2, h3⟩ := h.sg
  rw [← h3]
  exact Merge_any v L Bf (by rw [← h3, List.length_map] at hl; exact hl) w h1 h2 (fun x hx => hn (pbS Bf x) (by rw [← h3]; exact List.mem_map_of_mem hx))
theorem refMerge_pb (v : Value) (P : List Pb) (hl : P.length ≤ 4398046510976) (hn : ∀ x ∈ P, x.2.length ≤ 140737488355328) (w : World) (h : PbAt w v P) :
    Calls Tryz.prog 31 #[v] w fun e w' => MgIs 60 (mergeP P) e w w' := by
  obtain ⟨L, Bf, h1, h2, h3⟩ := h.sg
  rw [← h3]
  exact refMerge_any v L Bf (by rw [← h3, List.length_map] at hl; exact hl) w h1 h2 (fun x hx => hn (pbS Bf x) (by rw [← h3]; exact List.mem_map_of_mem hx))
theorem by_nil {w w' : World} {a : Option Addr} {n c : Nat} (h : ByAt w (.slice a n c) []) : ByAt w' (.slice a n c) [] := by
  obtain ⟨a', c', e, h1, h2, h3, _⟩ := h
  cases e
  exact ⟨a, c, rfl, h1, h2, h3, fun k hk => absurd hk (by simp)⟩
/- the block of a slice -/
def blkS (a : Option Addr) : Nat := match a with | some p => p.block | none => 0
theorem kb_conv2 {w : World} {bs : List Nat} (i : KB w bs) {a : Option Addr} {n c : Nat} {l : List UInt8} (hg : blkS a ∈ bs) (h : ByAt w (.slice a n c) l) : (convert 34 9 (.slice a n c)).run Tryz.prog i.v = .ok (.string (bA l)) i.v := by
  cases l with
  | nil => exact conv_any (by_nil h)
  | cons x r =>
    have hq := h
    obtain ⟨a', c', e, _, _, _, h4⟩ := h
    obtain ⟨g, o, e1, hgl, _⟩ := h4 0 (by simp)
    cases e
    subst e1
    exact kb_conv i hg hgl hq
theorem ba_ne {l m : List UInt8} (h : l ≠ m) : bA l ≠ bA m := fun hh => h (ba_inj.1 hh)
end Go.Proofs.YtpemajghaceegaaGreatDoor
