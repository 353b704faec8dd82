/- GrammarMakes: for all names, every start and all rules the law returns true and each argument reads behind the call as it read before; where what it reads is of bulk at most 1048576; the library's laid tables are tied to the program's text. -/
import Derived.Test.YtgmbkelmgolkpaaDoorGk
import Derived.Test.YtgmbkelmgolkpaaDoorUpd
import Derived.Test.YtgmbkelmgolkpaaDoorCards
import Derived.Test.YtgmbkelmgolkpaaDoorTie
namespace Go.Proofs.YtgmbkelmgolkpaaDoor
open Go.ChangeShapes Go.WideShapes Go.ChangeAt Go.RowKit
set_option linter.unusedVariables false

set_option maxRecDepth 100000 in
theorem grammarMakes_contract (H : Type) (enc : TypeId × Value → H) (W : World) (base : Nat) (args : Array Value) (ds gs : List (DataW H)) (before : List MemPlace) (hsh : W.ShapedOpen Tryd.prog)
    (hval0 : ∀ (j : Nat) t v, Tryd.f4.params[j]? = some t → args[j]? = some v → Value.okWide Tryd.prog W .any base t v)
    (hW : DataW.Whole enc Tryd.prog Tryd.f4.params.toList Rows.grammarMakesSpec.vars false W args.toList ds gs before) (hk : Rows.uptoSmall H (ds ++ gs) = true) :
    Calls Tryd.prog 4 args W fun e W' => ∃ v, e = .returned v ∧ Rows.grammarMakesSpec.post enc Tryd.prog Tryd.f4 false true false false W args v W' := by
  have hval : ∀ (j : Nat) t v, Tryd.f4.params[j]? = some t → args[j]? = some v → Value.okWide Tryd.prog W .any base t v := hval0
  have hW' := hW
  obtain ⟨p, q, hA0, hV, rfl, hfz, hnd⟩ := hW
  have hA : DataW.TrodAll enc Tryd.prog W 0 (fun _ => true) true Tryd.f4.params.toList args.toList ds p := hA0
  rw [Tryd.params4] at hA hval
  obtain ⟨v0, vs0, d0, ds0, p0, q0, hargs, rfl, rfl, h0, r0⟩ := trodAll_cons hA
  obtain ⟨v1, vs1, d1, ds1, p1, q1, hargs1, rfl, rfl, h1, r1⟩ := trodAll_cons r0
  obtain ⟨v2, vs2, d2, ds2, p2, q2, hargs2, rfl, rfl, h2, r2⟩ := trodAll_cons r1
  obtain ⟨v3, vs3, d3, ds3, p3, q3, hargs3, rfl, rfl, h3, r3⟩ := trodAll_cons r2
  obtain ⟨rfl, rfl, rfl⟩ := trodAll_nil r3
  obtain rfl : args = #[v0, v1, v2, v3] := by cases args; simp_all
  obtain ⟨rfl, rfl⟩ := trodVars_none hV
  have hb := bulk_of hk
  simp only [List.append_nil, Rows.uptoBulkAll] at hb
  have k0 := h0
  have k1 := h1
  have k3 := h3
  have lt0 : ∀ x ∈ p0, x.block < W.heap.size := by obtain ⟨m, hm⟩ := k0; exact DataW.trod_lt m _ _ _ hm
  have lt1 : ∀ x ∈ p1, x.block < W.heap.size := by obtain ⟨m, hm⟩ := k1; exact DataW.trod_lt m _ _ _ hm
  have lt3 : ∀ x ∈ p3, x.block < W.heap.size := by obtain ⟨m, hm⟩ := k3; exact DataW.trod_lt m _ _ _ hm
  obtain ⟨a0, len0, cap0, rfl⟩ := okWide_slice Tryd.underlying35 (hval 0 35 v0 rfl rfl)
  obtain ⟨a1, len1, cap1, rfl⟩ := okWide_slice Tryd.underlying35 (hval 1 35 v1 rfl rfl)
  obtain ⟨a3, len3, cap3, rfl⟩ := okWide_slice Tryd.underlying36 (hval 3 36 v3 rfl rfl)
  obtain ⟨T, hT, hT1, hT2⟩ : ∃ ss : List Tx, StAt W 0 (.slice a0 len0 cap0) ss ∧ ss.length ≤ Rows.uptoBulk d0 ∧ ∀ x ∈ ss, x.length ≤ Rows.uptoBulk d0 := by
    obtain ⟨fuel, hf⟩ := h0
    have hf' : DataW.trod enc Tryd.prog W 0 (fun _ => true) true fuel 35 [.slice a0 len0 cap0] = some (d0, p0) := by simpa [Value.cells] using hf
    exact open_strsU hf'
  obtain ⟨O, hO, hO1, hO2⟩ : ∃ ss : List Tx, StAt W 0 (.slice a1 len1 cap1) ss ∧ ss.length ≤ Rows.uptoBulk d1 ∧ ∀ x ∈ ss, x.length ≤ Rows.uptoBulk d1 := by
    obtain ⟨fuel, hf⟩ := h1
    have hf' : DataW.trod enc Tryd.prog W 0 (fun _ => true) true fuel 35 [.slice a1 len1 cap1] = some (d1, p1) := by simpa [Value.cells] using hf
    exact open_strsU hf'
  obtain ⟨L, hL, hL1, hL2, hL3⟩ : ∃ L : List (List Tx), RqAt W (.slice a3 len3 cap3) L ∧ L.length ≤ Rows.uptoBulk d3 ∧ (∀ r ∈ L, r.length ≤ Rows.uptoBulk d3) ∧ ∀ r ∈ L, ∀ x ∈ r, x.length ≤ Rows.uptoBulk d3 := by
    obtain ⟨fuel, hf⟩ := h3
    have hf' : DataW.trod enc Tryd.prog W 0 (fun _ => true) true fuel 36 [.slice a3 len3 cap3] = some (d3, p3) := by simpa [Value.cells] using hf
    exact open_rowsU hf'
  obtain ⟨s, rfl, rfl, rfl, hs⟩ := Go.ChangeMaps.open_string Tryd.underlying9 (hval 2 9 v2 rfl rfl) h2
  clear hA0 hval0
  obtain ⟨mx, hmx, h00⟩ := int_of_shape hsh
  have hsm : ∀ n, n ≤ 1048576 → n ≤ maxLen := fun n h => by unfold maxLen; omega
  have hcall := makes_any T O (fun x hx => hsm _ (by have := hT2 x hx; omega)) (fun x hx => hsm _ (by have := hO2 x hx; omega)) (by omega) (by omega) s.data.toList (by rw [Array.length_toList]; exact hs) L (fun r hr x hx => hsm _ (by have := hL3 r hr x hx; omega)) (by omega) (fun r hr => by have := hL2 r hr; omega) (.slice a0 len0 cap0) (.slice a1 len1 cap1) (.slice a3 len3 cap3) mx W h00 hmx hT hO hL
  have hse : bA s.data.toList = s := by unfold bA; cases s; simp
  unfold encT at hcall
  rw [hse] at hcall
  refine hcall.mono fun e W' ⟨he, bel⟩ => ?_
  subst he
  exact ⟨_, rfl, _, _, _, [], _, [], hW', trodAll_mk1 (shut_bool Tryd.underlying4 _), (trodAll_cons_mk (Below.trod Tryd.laid0 (by kernel_rfl) (of_decide_eq_true (by kernel_rfl)) k0 bel lt0) (trodAll_cons_mk (Below.trod Tryd.laid0 (by kernel_rfl) (of_decide_eq_true (by kernel_rfl)) k1 bel lt1) (trodAll_cons_mk (Go.ChangeMaps.shut_string Tryd.underlying9 hs) (trodAll_cons_mk (Below.trod Tryd.laid0 (by kernel_rfl) (of_decide_eq_true (by kernel_rfl)) k3 bel lt3) trodAll_mk0)))), rfl, bel.frame _, fun h => by cases h⟩

set_option maxRecDepth 100000 in
theorem grammarMakes_lifted (os : Os) (started : os.Started) (H : Type) (enc : TypeId × Value → H) (F : Stop.Interp) :
    ReturnsInHanded {} Tryd.checked os 4 .any (fun w args => ((Rows.OpenSpec.upto Rows.grammarMakesSpec).pre enc Tryd.prog Tryd.f4 [] false w args ∧ laidMetH Tryd.prog Rows.grammarMakesUptoRow.laid w) ∧ sizedMet enc Tryd.prog Tryd.f4 (Rows.OpenSpec.upto Rows.grammarMakesSpec) false w args)
      (((Rows.OpenSpec.upto Rows.grammarMakesSpec).at F).post enc Tryd.prog Tryd.f4 false true false false) := by
  refine handed_cond (C := Tryd.checked) (s := Rows.OpenSpec.upto Rows.grammarMakesSpec) (k := Rows.uptoSmall) rfl (X := fun w _ => laidMetH Tryd.prog Rows.grammarMakesUptoRow.laid w) (fun _ _ _ hh h => h.of_heap hh) Tryd.own0 started (by kernel_rfl) Tryd.func4
    (witness_cond (enc := enc) (C := Tryd.checked) (os := os) (s := Rows.OpenSpec.upto Rows.grammarMakesSpec) (k := Rows.uptoSmall) rfl (X := fun w _ => laidMetH Tryd.prog Rows.grammarMakesUptoRow.laid w) false (World.laidAll Tryd.prog os Rows.grammarMakesUptoRow.laid) #[.slice none 0 0, .slice none 0 0, .string ByteArray.empty, .slice none 0 0] 8 (World.laidAll_os _ _ _)
      (World.shaped_of_ZipB (by kernel_rfl) (by kernel_rfl)) (by kernel_rfl) (x := ([.nil, .nil, .lit (.string []), .nil], [], [])) (by kernel_rfl) rfl (by kernel_rfl) (by kernel_rfl)
      (by rw [MakeChecks.laidMetH_plain _ _ _ (by kernel_rfl)]; exact laidMet_laidAll _ (by kernel_rfl) (by kernel_rfl))) ?_
  intro W base args ds gs before hsh hval hW hk _
  exact grammarMakes_contract H enc W base args ds gs before hsh hval hW hk

theorem grammarMakes_row : Rows.GrammarMakesUptoSaid :=
  OpenClaim.holds_of_cond 4 Tryd.f4 rfl rfl rfl rfl rfl rfl rfl ⟨rfl, rfl, rfl, rfl, rfl⟩ rfl rfl rfl rfl rfl (by kernel_rfl) Tryd.func4 (by kernel_rfl)
    (of_decide_eq_true (by kernel_rfl)) (by unfold Func.isWrapper; first | (rw [if_pos (by decide +kernel)]; kernel_rfl) | (rw [if_neg (by decide +kernel)]; exact ⟨rfl, rfl⟩))
    (fun os started H enc _ F => grammarMakes_lifted os started H enc F)

theorem grammarMakes_card : Rows.GrammarMakesUptoCardSaid :=
  Claim7.holds_tied_plain_at .later [] [.data, .pinned] true (true, "85390b10770536576f31c28bba47bb44016c9dfa4371f2a273d2192678b64ed6") false
    grammarMakes_row (fun _ h => by cases h) (by kernel_rfl) (fun _ h => by cases h) grammarMakesUpto_row_tie rfl ⟨rfl, rfl⟩ (by kernel_rfl) rfl
    (fun f fn hf hfn => by
      obtain rfl : f = 4 := Option.some.inj ((show Tryd.prog.funcNamed "orrery/orrerylaw13.GrammarMakes" = some 4 by kernel_rfl).symm.trans hf) |>.symm
      obtain rfl : fn = Tryd.f4 := (Option.some.inj (Tryd.func4.symm.trans hfn)).symm
      exact ⟨by kernel_rfl, fun j t ht => by
        rw [Tryd.params4] at ht
        have hm : t ∈ [35, 35, 9, 36] := by simpa using Array.mem_of_getElem? ht
        have hall : ([35, 35, 9, 36].all fun u => !Tryd.prog.wantsStandIn u) = true := by kernel_rfl
        exact (show Tryd.prog.wantsStandIn t = false by simpa using List.all_eq_true.1 hall t hm)⟩)
    (by kernel_rfl)
#print axioms grammarMakes_card
end Go.Proofs.YtgmbkelmgolkpaaDoor
