/- GrammarBack: for every text the law returns true; the library's laid tables are tied to the program's text; no condition. -/
import Derived.Test.YtgmbkelmgolkpabDoorBkf
import Derived.Test.YtgmbkelmgolkpabDoorRows
import Derived.Test.YtgmbkelmgolkpabDoorCards
import Derived.Test.YtgmbkelmgolkpabDoorTie
import Derived.ProofKit
import Derived.LaidMore
import Derived.Lay
import Derived.OpenShut
import Derived.ShutString
import Derived.SizedLaws
import Derived.Stop.Joined
import Derived.SevenTiedAt
namespace Go.Proofs.YtgmbkelmgolkpabDoor
open Go.ChangeShapes Go.WideShapes Go.ChangeAt Go.RowKit
set_option linter.unusedVariables false

/-- What lies in a cell of type int is some number. -/
theorem int_of_ok {P : Program} {w : World} {r : Reach} {b : Nat} {t : TypeId} {v : Value} (hu : P.underlying t = some (.int .i64)) (h : Cell.ok P w r b t v) : ∃ x : Int, v = .int .i64 x := by
  unfold Cell.ok at h
  rw [hu] at h
  cases v <;> first | exact h.elim | (obtain ⟨h1, _⟩ := h; subst h1; exact ⟨_, rfl⟩)
set_option maxRecDepth 100000 in
theorem row_zero : (((begin Tryd.prog (fun _ _ => 0) default).world.heap[0]?).bind Obj.row?).map (fun x => (x.1.size, x.2)) = some (1, 3) := by kernel_rfl
set_option maxRecDepth 100000 in
theorem globals_some : decide (0 < Tryd.prog.globals.size) = true := by kernel_rfl
set_option maxRecDepth 100000 in
theorem build_int : Tryd.prog.buildable 3 = true := by kernel_rfl
set_option maxRecDepth 100000 in
theorem types_int : Tryd.prog.cellTypes Tryd.prog.depth 3 = some [3] := by kernel_rfl
set_option maxRecDepth 100000 in
/-- The first variable holds some number, whatever was done to it. -/
theorem int_of_shape {w : World} (h : w.ShapedOpen Tryd.prog) : ∃ x : Int, w.cell? ⟨0, 0, none⟩ = some (.int .i64 x) ∧ 0 < w.heap.size := by
  have hz := row_zero
  obtain ⟨zt, hzt⟩ : ∃ zt, ((begin Tryd.prog (fun _ _ => 0) default).world.heap[0]?).bind Obj.row? = some zt := by
    cases hq : ((begin Tryd.prog (fun _ _ => 0) default).world.heap[0]?).bind Obj.row? with
    | none => rw [hq] at hz; cases hz
    | some zt => exact ⟨zt, rfl⟩
  obtain ⟨zero, t⟩ := zt
  rw [hzt] at hz
  have hz1 : zero.size = 1 := congrArg Prod.fst (Option.some.inj hz)
  have hz2 : t = 3 := congrArg Prod.snd (Option.some.inj hz)
  subst hz2
  obtain ⟨cs, hh, hs, hr⟩ := h.1 0 zero 3 (of_decide_eq_true globals_some) hzt
  obtain ⟨ts, hts, _, hall⟩ := hr build_int
  rw [types_int] at hts
  cases hts
  have h1 : 0 < cs.size := by omega
  obtain ⟨u, hu', hok⟩ := hall 0 cs[0] (Array.getElem?_eq_getElem h1)
  have hu : u = 3 := (Option.some.inj (show some 3 = some u from hu')).symm
  subst hu
  obtain ⟨x, hx⟩ := int_of_ok Tryd.underlying3 hok
  have hcell : w.cell? ⟨0, 0, none⟩ = some cs[0] := (cell_of_row _ _ _ _ _ _ hh).trans (Array.getElem?_eq_getElem h1)
  exact ⟨x, hcell.trans (congrArg some hx), row_lt hh⟩
/-- The way of the rows, what the variables' shape says being kept. -/
theorem handed_open {H : Type} {enc : TypeId × Value → H} {a : Assume} {C : Checked} {os : Os} {f : FuncId} {fn : Func} {s : ChangeSpec} {conds : List PathCond} {apart fresh handsOn again : Bool} {X : World → Array Value → Prop}
    (hX : ∀ (w w' : World) (args : Array Value), w.heap = w'.heap → X w args → X w' args)
    (own : ownKnob C.prog.godebug = none) (started : os.Started) (noInit : C.prog.inits.idxOf? f = none) (hfn : C.prog.funcs[f]? = some fn)
    (witness : ∃ (w : World) (tape : Tape) (i : Input), w.os = os ∧ (w.forCall tape i).Shaped C.prog ∧ i.vars = [] ∧ Input.okWide C.prog (w.forCall tape i) .any w.heap.size f i ∧
      ((s.pre enc C.prog fn conds apart (w.forCall tape i).memory i.args ∧ X (w.forCall tape i).memory i.args) ∧ sizedMet enc C.prog fn (OpenSpec.ofChange s) apart (w.forCall tape i).memory i.args) ∧ a.holds C.prog (lone (Frame.enter C.prog f i.args .normal) [] (w.forCall tape i)))
    (contract : ∀ (W : World) (base : Nat) (args : Array Value) (ds gs : List (DataW H)) (before : List MemPlace), W.ShapedOpen C.prog →
      (∀ (j : Nat) t v, fn.params[j]? = some t → args[j]? = some v → Value.okWide C.prog W .any base t v) →
      DataW.Whole enc C.prog fn.params.toList s.vars apart W args.toList ds gs before → X W args →
      Calls C.prog f args W fun e W' => ∃ v, e = .returned v ∧ s.post enc C.prog fn apart fresh handsOn again W args v W') :
    ReturnsInHanded a C os f .any (fun w args => (s.pre enc C.prog fn conds apart w args ∧ X w args) ∧ sizedMet enc C.prog fn (OpenSpec.ofChange s) apart w args) (s.post enc C.prog fn apart fresh handsOn again) := by
  refine returnsInHanded_of_calls own started noInit witness ?_
  intro w tape i _ hsh _ hok hpre _
  obtain ⟨_, _, _, fn', hfn', _, _, _, _, hval⟩ := hok
  have e : fn' = fn := Option.some.inj (hfn'.symm.trans hfn)
  subst e
  obtain ⟨⟨⟨ds, gs, before, hw, _⟩, hx⟩, _⟩ := hpre
  refine (contract (w.forCall tape i) w.heap.size i.args ds gs before hsh hval (DataW.Whole.of_heap (w' := w.forCall tape i) (by rfl) hw) (hX _ _ _ (by rfl) hx)).mono fun e W' ⟨v, he, hp⟩ => ?_
  subst he
  exact ChangeSpec.post_blind hp
set_option maxRecDepth 100000 in
theorem grammarBack_lifted (os : Os) (started : os.Started) (H : Type) (enc : TypeId × Value → H) :
    ReturnsInHanded {} Tryd.checked os 4 .any (fun w args => (Rows.grammarBackSpec.pre enc Tryd.prog Tryd.f4 [] false w args ∧ laidMetH Tryd.prog Rows.grammarBackRow.laid w) ∧ sizedMet enc Tryd.prog Tryd.f4 (OpenSpec.ofChange Rows.grammarBackSpec) false w args)
      (Rows.grammarBackSpec.post enc Tryd.prog Tryd.f4 false true false false) := by
  refine handed_open (C := Tryd.checked) (X := fun w _ => laidMetH Tryd.prog Rows.grammarBackRow.laid w) (fun _ _ _ hh h => h.of_heap hh) Tryd.own0 started (by kernel_rfl) Tryd.func4
    (ChangeSpec.witness_shaped (enc := enc) (C := Tryd.checked) (os := os) (X := fun w _ => laidMetH Tryd.prog Rows.grammarBackRow.laid w) false (World.laidAll Tryd.prog os Rows.grammarBackRow.laid) #[.string ⟨#[]⟩] 8 (World.laidAll_os _ _ _)
      (World.shaped_of_ZipB (by kernel_rfl) (by kernel_rfl)) (by kernel_rfl) (by kernel_rfl) (by kernel_rfl)
      (by rw [MakeChecks.laidMetH_plain _ _ _ (by kernel_rfl)]; exact laidMet_laidAll _ (by kernel_rfl) (by kernel_rfl))) ?_
  intro W base args ds gs before hsh hval0 hW _
  have hval : ∀ (j : Nat) t v, Tryd.f4.params[j]? = some t → args[j]? = some v → Value.okWide Tryd.prog W .any base t v := hval0
  have hW' := hW
  obtain ⟨p, q, hA0, hV, rfl, hfz, hnd⟩ := hW
  have hA : DataW.TrodAll enc Tryd.prog W 0 (fun _ => true) true Tryd.f4.params.toList args.toList ds p := hA0
  rw [Tryd.params4] at hA hval
  obtain ⟨v0, vs0, d0, ds0, p0, q0, hargs, rfl, rfl, h0, r0⟩ := trodAll_cons hA
  obtain ⟨rfl, rfl, rfl⟩ := trodAll_nil r0
  obtain rfl : args = #[v0] := by cases args; simp_all
  obtain ⟨rfl, rfl⟩ := trodVars_none hV
  obtain ⟨a0, rfl, rfl, rfl, w0⟩ := Go.ChangeMaps.open_string Tryd.underlying9 (hval 0 9 v0 rfl rfl) h0
  clear hA0 hval0
  obtain ⟨mx, hmx, h00⟩ := int_of_shape hsh
  have hcall := back_any a0.data.toList (by rw [Array.length_toList]; exact w0) mx W h00 hmx
  have hse : bA a0.data.toList = a0 := by unfold bA; cases a0; simp
  unfold encT at hcall
  rw [hse] at hcall
  refine hcall.mono fun e W' ⟨he, bel⟩ => ?_
  subst he
  exact ⟨_, rfl, _, _, _, [], _, [], hW', trodAll_mk1 (shut_bool Tryd.underlying4 _), (trodAll_cons_mk (Go.ChangeMaps.shut_string Tryd.underlying9 w0) trodAll_mk0), rfl, bel.frame _, fun h => by cases h⟩

theorem grammarBack_row : Rows.GrammarBackSaid :=
  OpenClaim.holds_of_wide 4 Tryd.f4 rfl rfl rfl rfl rfl rfl rfl ⟨rfl, rfl, rfl, rfl, rfl⟩ rfl rfl rfl rfl rfl (by kernel_rfl) Tryd.func4 (by kernel_rfl)
    (of_decide_eq_true (by kernel_rfl)) (by unfold Func.isWrapper; first | (rw [if_pos (by decide +kernel)]; kernel_rfl) | (rw [if_neg (by decide +kernel)]; exact ⟨rfl, rfl⟩))
    (fun os started H enc _ => grammarBack_lifted os started H enc)

theorem grammarBack_card : Rows.GrammarBackCardSaid :=
  Claim7.holds_tied_plain_at .later [] [.data, .pinned] true (true, "0fbebccc7784ec174393bdad283b9631b65bcacde1c9b10c9497d2fb89d29872") false
    grammarBack_row (fun _ h => by cases h) (by kernel_rfl) (fun _ h => by cases h) grammarBack_row_tie rfl ⟨rfl, rfl⟩ (by kernel_rfl) rfl
    (fun f fn hf hfn => by
      obtain rfl : f = 4 := Option.some.inj ((show Tryd.prog.funcNamed "orrery/orrerylaw13.GrammarBack" = some 4 by kernel_rfl).symm.trans hf) |>.symm
      obtain rfl : fn = Tryd.f4 := (Option.some.inj (Tryd.func4.symm.trans hfn)).symm
      exact ⟨by kernel_rfl, fun j t ht => by
        rw [Tryd.params4] at ht
        have hm : t ∈ [9] := by simpa using Array.mem_of_getElem? ht
        have hall : ([9].all fun u => !Tryd.prog.wantsStandIn u) = true := by kernel_rfl
        exact (show Tryd.prog.wantsStandIn t = false by simpa using List.all_eq_true.1 hall t hm)⟩)
    (by kernel_rfl)
#print axioms grammarBack_card
end Go.Proofs.YtgmbkelmgolkpabDoor
