/- How rows of texts among the arguments read, what the bulk of a reading bounds, and the way of a tied row with a bound. -/
import Derived.Test.YtgmbkelmgolkpaaDoorGn
import Derived.Test.YtgmbkelmgolkpaaDoorRows
import Derived.ProofKit
import Derived.LaidMore
import Derived.Lay
import Derived.OpenShut
import Derived.ShutString
import Derived.SizedLaws
import Derived.Stop.Joined
import Derived.SevenTiedAt
import Derived.JoinedCond
import Derived.SliceStrings
import Derived.Deep.Slices
import Derived.Deep.Grids
namespace Go.Proofs.YtgmbkelmgolkpaaDoor
open Go.ChangeShapes Go.WideShapes Go.ChangeAt Go.RowKit Go.Deep
set_option linter.unusedVariables false

theorem Tryd.cells9 : Tryd.prog.cellsOf 9 = 1 := by kernel_rfl
theorem Tryd.cells35 : Tryd.prog.cellsOf 35 = 1 := by kernel_rfl
theorem bulk_one {H : Type} (d : DataW H) : 1 ≤ Rows.uptoBulk d := by
  cases d with
  | lit l => cases l <;> simp [Rows.uptoBulk]
  | nil => simp [Rows.uptoBulk]
  | ptr d => simp [Rows.uptoBulk]
  | slice elems spare => simp [Rows.uptoBulk]
  | agg parts => simp [Rows.uptoBulk]
  | iface t d => simp [Rows.uptoBulk]
  | map entries => simp [Rows.uptoBulk]
  | held h => simp [Rows.uptoBulk]
theorem bulk_part {H : Type} {d : DataW H} {l : List (DataW H)} (h : d ∈ l) : Rows.uptoBulk d ≤ Rows.uptoBulkAll l := by
  induction l with
  | nil => cases h
  | cons x r ih =>
    simp only [Rows.uptoBulkAll]
    rcases List.mem_cons.1 h with e | e
    · subst e; omega
    · have := ih e; omega
theorem bulk_len {H : Type} (l : List (DataW H)) : l.length ≤ Rows.uptoBulkAll l := by
  induction l with
  | nil => simp [Rows.uptoBulkAll]
  | cons x r ih => have := bulk_one x; simp only [Rows.uptoBulkAll, List.length_cons]; omega
theorem bulk_elems {H : Type} (e s : List (DataW H)) : Rows.uptoBulkAll e ≤ Rows.uptoBulk (.slice e s) := by simp only [Rows.uptoBulk]; omega


/-- A row of texts. -/
theorem open_strsU {H : Type} {enc : TypeId × Value → H} {W : World} {base : Nat} {held : Bool} {m : Nat} {v : Value} {y : DataW H × List MemPlace}
    (h : DataW.trod enc Tryd.prog W base (fun _ => true) held m 35 [v] = some y) :
    ∃ ss : List Tx, StAt W 0 v ss ∧ ss.length ≤ Rows.uptoBulk y.1 ∧ ∀ x ∈ ss, x.length ≤ Rows.uptoBulk y.1 := by
  rcases open_strings Tryd.underlying35 Tryd.underlying9 Tryd.cells9 h with ⟨hcs, hx⟩ | ⟨a, len, cap, ss, hcs, _, hl, hm, hz, hx, hcell, hws⟩
  · simp only [List.cons.injEq, and_true] at hcs
    exact ⟨[], ⟨none, 0, hcs, by simp, ⟨by omega, fun _ => rfl⟩, fun k hk => absurd hk (by simp)⟩, by simp, by simp⟩
  · simp only [List.cons.injEq, and_true] at hcs
    simp only [if_true] at hz
    have hlen : ((ss.take len).map fun s : ByteArray => s.data.toList).length = len := by simp; omega
    subst hx
    refine ⟨(ss.take len).map fun s : ByteArray => s.data.toList, ⟨some a, cap, by rw [hlen]; exact hcs, by rw [hlen]; exact hl, ⟨by unfold maxLen at hm; omega, nofun⟩, fun k hk => ?_⟩, ?_, ?_⟩
    · rw [hlen] at hk
      have h00 := hcell k (by omega)
      have h01 := hcell 0 (by omega)
      obtain ⟨g, off, spot⟩ := a
      have hspot : spot = none := by simpa [Addr.add] using World.cell?_spot h01
      subst hspot
      refine ⟨g, off, rfl, ?_, ?_⟩
      · have h1 := World.block_lt_of_cell? W _ h01
        simpa [Addr.add] using h1
      · rw [show (⟨g, off, none⟩ : Addr).add k = ⟨g, off + k, none⟩ from Addr.add_lit ..] at h00
        rw [h00]
        have hj' : k < ss.length := by omega
        unfold encT bA
        simp [List.getD, hk, hj']
    · rw [hlen]
      dsimp only
      have h1 := bulk_elems (H := H) (strs (ss.take len)) (strs (ss.drop len))
      have h2 := bulk_len (H := H) (strs (ss.take len))
      have h3 : (strs (H := H) (ss.take len)).length = len := by simp [strs]; omega
      omega
    · intro x hx'
      obtain ⟨s, hs, rfl⟩ := List.mem_map.1 hx'
      have h1 := bulk_elems (H := H) (strs (ss.take len)) (strs (ss.drop len))
      have h2 := bulk_part (H := H) (d := .lit (.string s.data.toList)) (l := strs (ss.take len)) (by unfold strs; exact List.mem_map.2 ⟨s, hs, rfl⟩)
      simp only [Rows.uptoBulk] at h1 h2 ⊢
      omega
/-- A slice of rows of texts. -/
theorem open_rowsU {H : Type} {enc : TypeId × Value → H} {W : World} {base : Nat} {held : Bool} {m : Nat} {v : Value} {y : DataW H × List MemPlace}
    (h : DataW.trod enc Tryd.prog W base (fun _ => true) held m 36 [v] = some y) :
    ∃ L : List (List Tx), RqAt W v L ∧ L.length ≤ Rows.uptoBulk y.1 ∧ (∀ r ∈ L, r.length ≤ Rows.uptoBulk y.1) ∧ ∀ r ∈ L, ∀ x ∈ r, x.length ≤ Rows.uptoBulk y.1 := by
  rcases open_slice1 Tryd.underlying36 Tryd.cells35 h with ⟨hcs, hx⟩ | ⟨a, len, cap, m', n, V, D, Pl, hcs, hb, hl, hm, hmm, hx, hel⟩
  · simp only [List.cons.injEq, and_true] at hcs
    exact ⟨[], ⟨none, 0, hcs, by simp, by omega, fun k hk => absurd hk (by simp)⟩, by simp, by simp, by simp⟩
  · simp only [List.cons.injEq, and_true] at hcs
    simp only [if_true] at hmm
    have hmm' := hmm.symm
    subst hmm'
    have each : ∀ i, i < cap → ∃ r : List Tx, StAt W 0 (V i) r ∧ r.length ≤ Rows.uptoBulk (D i) ∧ ∀ x ∈ r, x.length ≤ Rows.uptoBulk (D i) := fun i hi => open_strsU (hel i hi).2
    obtain ⟨f, hf⟩ := choose_lt each
    subst hx
    have hlen : ((List.range len).map f).length = len := by simp
    have hat : ∀ i, i < len → ((List.range len).map f).getD i [] = f i := fun i hi => by
      rw [List.getD, List.getElem?_map, List.getElem?_range hi]; rfl
    have hD : ∀ i, i < len → Rows.uptoBulk (D i) ≤ Rows.uptoBulk (.slice ((List.range len).map D) ((List.range (cap - len)).map fun j => D (len + j))) := fun i hi => by
      refine Nat.le_trans (bulk_part (List.mem_map.2 ⟨i, List.mem_range.2 hi, rfl⟩)) (bulk_elems _ _)
    refine ⟨(List.range len).map f, ⟨some a, cap, by rw [hlen]; exact hcs, by rw [hlen]; exact hl, by unfold maxLen at hm; omega, fun k hk => ?_⟩, ?_, ?_, ?_⟩
    · rw [hlen] at hk
      have h00 := (hel k (by omega)).1
      have h01 := (hel 0 (by omega)).1
      obtain ⟨g, off, spot⟩ := a
      have hspot : spot = none := by simpa [Addr.add] using World.cell?_spot h01
      subst hspot
      refine ⟨g, off, V k, rfl, ?_, ?_, ?_⟩
      · have h1 := World.block_lt_of_cell? W _ h01
        simpa [Addr.add] using h1
      · rw [show (⟨g, off, none⟩ : Addr).add k = ⟨g, off + k, none⟩ from Addr.add_lit ..] at h00
        exact h00
      · rw [hat k hk]; exact (hf k (by omega)).1
    · rw [hlen]
      dsimp only
      have h1 := bulk_elems ((List.range len).map D) ((List.range (cap - len)).map fun j => D (len + j))
      have h2 := bulk_len ((List.range len).map D)
      rw [List.length_map, List.length_range] at h2
      omega
    · intro r hr
      obtain ⟨i, hi, rfl⟩ := List.mem_map.1 hr
      have hi' := List.mem_range.1 hi
      exact Nat.le_trans (hf i (by omega)).2.1 (hD i hi')
    · intro r hr x hx
      obtain ⟨i, hi, rfl⟩ := List.mem_map.1 hr
      have hi' := List.mem_range.1 hi
      exact Nat.le_trans ((hf i (by omega)).2.2 x hx) (hD i hi')
theorem bulk_of {H : Type} {l : List (DataW H)} (hk : Rows.uptoSmall H l = true) : Rows.uptoBulkAll l ≤ 1048576 := of_decide_eq_true hk
/-- What lies in a cell of type int is some number. -/
theorem int_of_ok {P : Program} {w : World} {r : Reach} {b : Nat} {t : TypeId} {v : Value} (hu : P.underlying t = some (.int .i64)) (h : Cell.ok P w r b t v) : ∃ x : Int, v = .int .i64 x := by
  unfold Cell.ok at h
  rw [hu] at h
  cases v <;> first | exact h.elim | (obtain ⟨h1, _⟩ := h; subst h1; exact ⟨_, rfl⟩)
set_option maxRecDepth 100000 in
theorem row_zero : (((begin Tryd.prog (fun _ _ => 0) default).world.heap[0]?).bind Obj.row?).map (fun x => (x.1.size, x.2)) = some (1, 3) := by kernel_rfl
set_option maxRecDepth 100000 in
theorem globals_some : decide (0 < Tryd.prog.globals.size) = true := by kernel_rfl
set_option maxRecDepth 100000 in
theorem build_int : Tryd.prog.buildable 3 = true := by kernel_rfl
set_option maxRecDepth 100000 in
theorem types_int : Tryd.prog.cellTypes Tryd.prog.depth 3 = some [3] := by kernel_rfl
set_option maxRecDepth 100000 in
/-- The first variable holds some number, whatever was done to it. -/
theorem int_of_shape {w : World} (h : w.ShapedOpen Tryd.prog) : ∃ x : Int, w.cell? ⟨0, 0, none⟩ = some (.int .i64 x) ∧ 0 < w.heap.size := by
  have hz := row_zero
  obtain ⟨zt, hzt⟩ : ∃ zt, ((begin Tryd.prog (fun _ _ => 0) default).world.heap[0]?).bind Obj.row? = some zt := by
    cases hq : ((begin Tryd.prog (fun _ _ => 0) default).world.heap[0]?).bind Obj.row? with
    | none => rw [hq] at hz; cases hz
    | some zt => exact ⟨zt, rfl⟩
  obtain ⟨zero, t⟩ := zt
  rw [hzt] at hz
  have hz1 : zero.size = 1 := congrArg Prod.fst (Option.some.inj hz)
  have hz2 : t = 3 := congrArg Prod.snd (Option.some.inj hz)
  subst hz2
  obtain ⟨cs, hh, hs, hr⟩ := h.1 0 zero 3 (of_decide_eq_true globals_some) hzt
  obtain ⟨ts, hts, _, hall⟩ := hr build_int
  rw [types_int] at hts
  cases hts
  have h1 : 0 < cs.size := by omega
  obtain ⟨u, hu', hok⟩ := hall 0 cs[0] (Array.getElem?_eq_getElem h1)
  have hu : u = 3 := (Option.some.inj (show some 3 = some u from hu')).symm
  subst hu
  obtain ⟨x, hx⟩ := int_of_ok Tryd.underlying3 hok
  have hcell : w.cell? ⟨0, 0, none⟩ = some cs[0] := (cell_of_row _ _ _ _ _ _ hh).trans (Array.getElem?_eq_getElem h1)
  exact ⟨x, hcell.trans (congrArg some hx), row_lt hh⟩
/-- The way of the rows with a condition of their own, what the variables' shape says being kept. -/
theorem handed_cond {H : Type} {enc : TypeId × Value → H} {a : Assume} {C : Checked} {os : Os} {f : FuncId} {fn : Func} {s : OpenSpec} {k : (H : Type) → List (DataW H) → Bool} (hk : s.cond = some k) {F : Stop.Interp} {conds : List PathCond} {apart fresh handsOn again : Bool} {X : World → Array Value → Prop}
    (hX : ∀ (w w' : World) (args : Array Value), w.heap = w'.heap → X w args → X w' args)
    (own : ownKnob C.prog.godebug = none) (started : os.Started) (noInit : C.prog.inits.idxOf? f = none) (hfn : C.prog.funcs[f]? = some fn)
    (witness : ∃ (w : World) (tape : Tape) (i : Input), w.os = os ∧ (w.forCall tape i).Shaped C.prog ∧ i.vars = [] ∧ Input.okWide C.prog (w.forCall tape i) .any w.heap.size f i ∧
      ((s.pre enc C.prog fn conds apart (w.forCall tape i).memory i.args ∧ X (w.forCall tape i).memory i.args) ∧ sizedMet enc C.prog fn s apart (w.forCall tape i).memory i.args) ∧ a.holds C.prog (lone (Frame.enter C.prog f i.args .normal) [] (w.forCall tape i)))
    (contract : ∀ (W : World) (base : Nat) (args : Array Value) (ds gs : List (DataW H)) (before : List MemPlace), W.ShapedOpen C.prog →
      (∀ (j : Nat) t v, fn.params[j]? = some t → args[j]? = some v → Value.okWide C.prog W .any base t v) →
      DataW.Whole enc C.prog fn.params.toList s.vars apart W args.toList ds gs before → k H (ds ++ gs) = true → X W args →
      Calls C.prog f args W fun e W' => ∃ v, e = .returned v ∧ (s.at F).post enc C.prog fn apart fresh handsOn again W args v W') :
    ReturnsInHanded a C os f .any (fun w args => (s.pre enc C.prog fn conds apart w args ∧ X w args) ∧ sizedMet enc C.prog fn s apart w args) ((s.at F).post enc C.prog fn apart fresh handsOn again) := by
  refine returnsInHanded_of_calls own started noInit witness ?_
  intro w tape i _ hsh _ hok hpre _
  obtain ⟨_, _, _, fn', hfn', _, _, _, _, hval⟩ := hok
  have e : fn' = fn := Option.some.inj (hfn'.symm.trans hfn)
  subst e
  obtain ⟨⟨hp, hx⟩, _⟩ := hpre
  obtain ⟨ds, gs, before, hw, _, hkk⟩ := (OpenSpec.pre_some hk conds apart _ _).1 hp
  refine (contract (w.forCall tape i) w.heap.size i.args ds gs before hsh hval (DataW.Whole.of_heap (w' := w.forCall tape i) (by rfl) hw) hkk (hX _ _ _ (by rfl) hx)).mono fun e W' ⟨v, he, hp⟩ => ?_
  subst he
  exact ChangeSpec.post_blind hp
/-- There is an input that fits, in a world that holds what the row lists. -/
theorem witness_cond {H : Type} {enc : TypeId × Value → H} {C : Checked} {os : Os} {f : FuncId} {fn : Func} {s : OpenSpec} {k : (H : Type) → List (DataW H) → Bool} (hk : s.cond = some k) {conds : List PathCond} {apart : Bool} {X : World → Array Value → Prop} (modest : Bool) (w0 : World) (args : Array Value) (fuel : Nat) (hos : w0.os = os)
    (hsh : (w0.forCall (fun _ _ => 0) ⟨#[], args, []⟩).Shaped C.prog)
    (hok : Input.okWideB C.prog (w0.forCall (fun _ _ => 0) ⟨#[], args, []⟩) f ⟨#[], args, []⟩ = true)
    {x : List (DataW H) × List (DataW H) × List MemPlace} (hx : DataW.whole enc C.prog (w0.forCall (fun _ _ => 0) ⟨#[], args, []⟩).memory fn.params.toList s.vars apart args.toList fuel = some x)
    (hconds : conds.all (PathCond.test C.prog ⟨fn.params.toList, x.1, s.bare.plain.varTypes C.prog, x.2.1⟩) = true) (hkk : k H (x.1 ++ x.2.1) = true)
    (hsz : s.bare.sizedB enc C.prog fn apart (w0.forCall (fun _ _ => 0) ⟨#[], args, []⟩).memory args fuel = true)
    (hX : X (w0.forCall (fun _ _ => 0) ⟨#[], args, []⟩).memory args) :
    ∃ (w : World) (tape : Tape) (i : Input), w.os = os ∧ (w.forCall tape i).Shaped C.prog ∧ i.vars = [] ∧ Input.okWide C.prog (w.forCall tape i) .any w.heap.size f i ∧
      ((s.pre enc C.prog fn conds apart (w.forCall tape i).memory i.args ∧ X (w.forCall tape i).memory i.args) ∧ sizedMet enc C.prog fn s apart (w.forCall tape i).memory i.args) ∧ ({ modest := modest } : Assume).holds C.prog (lone (Frame.enter C.prog f i.args .normal) [] (w.forCall tape i)) :=
  ⟨w0, fun _ _ => 0, ⟨#[], args, []⟩, hos, hsh, (Input.okWide_of_okWideB (base := 0) hok).1, (Input.okWide_of_okWideB hok).2, ⟨⟨(OpenSpec.pre_some hk conds apart _ _).2 ⟨x.1, x.2.1, x.2.2, DataW.Whole_of_whole hx, hconds, hkk⟩, hX⟩, sizedMet_of_sizedB hsz⟩, by
    simp only [Assume.holds]
    exact ⟨by simp, by simp, fun _ => Modest.zero, by simp, by simp⟩⟩
end Go.Proofs.YtgmbkelmgolkpaaDoor
