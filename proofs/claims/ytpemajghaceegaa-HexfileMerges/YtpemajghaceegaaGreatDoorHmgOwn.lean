/- HexfileMerges: for all segments the law returns true, and each argument reads behind the call as it read before; the library's laid tables are tied to the program's text; no condition. -/
import Derived.Test.YtpemajghaceegaaGreatDoorHyu
import Derived.Test.YtpemajghaceegaaGreatDoorRows
import Derived.Test.YtpemajghaceegaaGreatDoorCards
import Derived.Test.YtpemajghaceegaaGreatDoorTie
import Derived.ProofKit
import Derived.Lib.SmallJoins
import Derived.Deep.Slices
import Derived.LaidMore
import Derived.Lay
import Derived.OpenShut
import Derived.ShutString
import Derived.SizedLaws
import Derived.Stop.Joined
import Derived.SevenTiedAt
import Derived.Deep.SlicePairs
namespace Go.Proofs.YtpemajghaceegaaGreatDoor
open Go.ChangeShapes Go.WideShapes Go.ChangeAt Go.RowKit
set_option linter.unusedVariables false

/-- What lies in a cell of type int is some number. -/
theorem int_of_ok {P : Program} {w : World} {r : Reach} {b : Nat} {t : TypeId} {v : Value} (hu : P.underlying t = some (.int .i64)) (h : Cell.ok P w r b t v) : ∃ x : Int, v = .int .i64 x := by
  unfold Cell.ok at h
  rw [hu] at h
  cases v <;> first | exact h.elim | (obtain ⟨h1, _⟩ := h; subst h1; exact ⟨_, rfl⟩)
set_option maxRecDepth 100000 in
theorem row_zero : (((begin Tryz.prog (fun _ _ => 0) default).world.heap[0]?).bind Obj.row?).map (fun x => (x.1.size, x.2)) = some (1, 3) := by kernel_rfl
set_option maxRecDepth 100000 in
theorem globals_some : decide (0 < Tryz.prog.globals.size) = true := by kernel_rfl
set_option maxRecDepth 100000 in
theorem build_int : Tryz.prog.buildable 3 = true := by kernel_rfl
set_option maxRecDepth 100000 in
theorem types_int : Tryz.prog.cellTypes Tryz.prog.depth 3 = some [3] := by kernel_rfl
set_option maxRecDepth 100000 in
/-- The first variable holds some number, whatever was done to it. -/
theorem int_of_shape {w : World} (h : w.ShapedOpen Tryz.prog) : ∃ x : Int, w.cell? ⟨0, 0, none⟩ = some (.int .i64 x) ∧ 0 < w.heap.size := by
  have hz := row_zero
  obtain ⟨zt, hzt⟩ : ∃ zt, ((begin Tryz.prog (fun _ _ => 0) default).world.heap[0]?).bind Obj.row? = some zt := by
    cases hq : ((begin Tryz.prog (fun _ _ => 0) default).world.heap[0]?).bind Obj.row? with
    | none => rw [hq] at hz; cases hz
    | some zt => exact ⟨zt, rfl⟩
  obtain ⟨zero, t⟩ := zt
  rw [hzt] at hz
  have hz1 : zero.size = 1 := congrArg Prod.fst (Option.some.inj hz)
  have hz2 : t = 3 := congrArg Prod.snd (Option.some.inj hz)
  subst hz2
  obtain ⟨cs, hh, hs, hr⟩ := h.1 0 zero 3 (of_decide_eq_true globals_some) hzt
  obtain ⟨ts, hts, _, hall⟩ := hr build_int
  rw [types_int] at hts
  cases hts
  have h1 : 0 < cs.size := by omega
  obtain ⟨u, hu', hok⟩ := hall 0 cs[0] (Array.getElem?_eq_getElem h1)
  have hu : u = 3 := (Option.some.inj (show some 3 = some u from hu')).symm
  subst hu
  obtain ⟨x, hx⟩ := int_of_ok Tryz.underlying3 hok
  have hcell : w.cell? ⟨0, 0, none⟩ = some cs[0] := (cell_of_row _ _ _ _ _ _ hh).trans (Array.getElem?_eq_getElem h1)
  exact ⟨x, hcell.trans (congrArg some hx), row_lt hh⟩
/-- The way of the rows, what the variables' shape and the sizes say being kept. -/
theorem handed_sized {H : Type} {enc : TypeId × Value → H} {a : Assume} {C : Checked} {os : Os} {f : FuncId} {fn : Func} {s : ChangeSpec} {conds : List PathCond} {apart fresh handsOn again : Bool} {X : World → Array Value → Prop}
    (hX : ∀ (w w' : World) (args : Array Value), w.heap = w'.heap → X w args → X w' args)
    (own : ownKnob C.prog.godebug = none) (started : os.Started) (noInit : C.prog.inits.idxOf? f = none) (hfn : C.prog.funcs[f]? = some fn)
    (witness : ∃ (w : World) (tape : Tape) (i : Input), w.os = os ∧ (w.forCall tape i).Shaped C.prog ∧ i.vars = [] ∧ Input.okWide C.prog (w.forCall tape i) .any w.heap.size f i ∧
      ((s.pre enc C.prog fn conds apart (w.forCall tape i).memory i.args ∧ X (w.forCall tape i).memory i.args) ∧ sizedMet enc C.prog fn (OpenSpec.ofChange s) apart (w.forCall tape i).memory i.args) ∧ a.holds C.prog (lone (Frame.enter C.prog f i.args .normal) [] (w.forCall tape i)))
    (contract : ∀ (W : World) (base : Nat) (args : Array Value) (ds gs : List (DataW H)) (before : List MemPlace), W.ShapedOpen C.prog →
      (∀ (j : Nat) t v, fn.params[j]? = some t → args[j]? = some v → Value.okWide C.prog W .any base t v) →
      DataW.Whole enc C.prog fn.params.toList (OpenSpec.ofChange s).vars apart W args.toList ds gs before → (DataW.weightsEach C.prog (fn.params.toList ++ (OpenSpec.ofChange s).bare.plain.varTypes C.prog) (ds ++ gs)).all (· ≤ reachBytes) = true → X W args →
      Calls C.prog f args W fun e W' => ∃ v, e = .returned v ∧ s.post enc C.prog fn apart fresh handsOn again W args v W') :
    ReturnsInHanded a C os f .any (fun w args => (s.pre enc C.prog fn conds apart w args ∧ X w args) ∧ sizedMet enc C.prog fn (OpenSpec.ofChange s) apart w args) (s.post enc C.prog fn apart fresh handsOn again) := by
  refine returnsInHanded_of_calls own started noInit witness ?_
  intro w tape i _ hsh _ hok hpre _
  obtain ⟨_, _, _, fn', hfn', _, _, _, _, hval⟩ := hok
  have e : fn' = fn := Option.some.inj (hfn'.symm.trans hfn)
  subst e
  obtain ⟨⟨_, hx⟩, _, ds, gs, before, hw, hsz⟩ := hpre
  refine (contract (w.forCall tape i) w.heap.size i.args ds gs before hsh hval (DataW.Whole.of_heap (w' := w.forCall tape i) (by rfl) hw) hsz (hX _ _ _ (by rfl) hx)).mono fun e W' ⟨v, he, hp⟩ => ?_
  subst he
  exact ChangeSpec.post_blind hp
theorem Tryz.cells5 : Tryz.prog.cellsOf 5 = 1 := by kernel_rfl
theorem Tryz.bytes5 : Tryz.prog.bytesOf 5 = 1 := by kernel_rfl
theorem weights_in {H : Type} {P : Program} {e : TypeId} : ∀ {l : List (DataW H)} {d : DataW H}, d ∈ l → ∀ n ∈ d.weights P e, n ∈ DataW.weightsAll P e l
  | d' :: r, d, hd, n, hn => by
    simp only [DataW.weightsAll, List.mem_append]
    rcases List.mem_cons.1 hd with rfl | h
    · exact Or.inl hn
    · exact Or.inr (weights_in h n hn)
set_option maxRecDepth 100000 in
/-- The bytes of a segment. -/
theorem bytes_trod {H : Type} {enc : TypeId × Value → H} {W : World} {base fuel : Nat} {held : Bool} {v : Value} {d : DataW H} {p : List MemPlace}
    (h3 : DataW.trod enc Tryz.prog W base (fun _ => true) held fuel 34 [v] = some (d, p)) (hr : ∀ x ∈ DataW.weights Tryz.prog 34 d, x ≤ reachBytes) : ∃ (bs : List UInt8) (a : Option Addr) (n c : Nat), v = .slice a n c ∧ ByAt W (.slice a n c) bs ∧ bs.length ≤ 140737488351232 := by
  rcases open_ints Tryz.underlying34 Tryz.underlying5 Tryz.cells5 h3 with ⟨hcs, hx⟩ | ⟨a, len, cap, zs, hcs, _, hl, hm, hz, hx, hcell, hws⟩
  · simp only [List.cons.injEq, and_true] at hcs
    exact ⟨[], none, 0, 0, hcs, ByAt.nil W, by simp⟩
  · simp only [List.cons.injEq, and_true] at hcs
    simp only [if_true] at hz
    have hd : d = .slice (lits .u8 (zs.take len)) (lits .u8 (zs.drop len)) := congrArg Prod.fst hx
    have hcp : cap ≤ 140737488351232 := by
      have := hr (((lits (H := H) .u8 (zs.take len)).length + (lits (H := H) .u8 (zs.drop len)).length) * Tryz.prog.bytesOf 5) (by rw [hd]; simp [DataW.weights, Tryz.underlying34])
      rw [Tryz.bytes5] at this
      have hrb : reachBytes = 140737488351232 := by decide
      simp [lits] at this
      omega
    have hlen : ((zs.take len).map fun z : Int => UInt8.ofNat z.toNat).length = len := by simp; omega
    refine ⟨(zs.take len).map fun z : Int => UInt8.ofNat z.toNat, some a, len, cap, hcs, ⟨some a, cap, by rw [hlen], by rw [hlen]; exact hl, hm, nofun, fun k hk => ?_⟩, by rw [hlen]; omega⟩
    rw [hlen] at hk
    have h00 := hcell 0 (by omega)
    obtain ⟨g, off, spot⟩ := a
    have hspot : spot = none := by simpa [Addr.add] using World.cell?_spot h00
    subst hspot
    refine ⟨g, off, rfl, ?_, ?_⟩
    · have h1 := World.block_lt_of_cell? W _ h00
      simpa [Addr.add] using h1
    · have := hcell k (by omega)
      rw [show (⟨g, off, none⟩ : Addr).add k = ⟨g, off + k, none⟩ from Addr.add_lit ..] at this
      rw [this]
      have hj' : k < zs.length := by omega
      have hb := bounds_u8 (hws zs[k] (List.getElem_mem hj'))
      have e1 : zs.getD k 0 = zs[k] := by simp [List.getD, hj']
      have e2 : ((zs.take len).map fun z : Int => UInt8.ofNat z.toNat).getD k 0 = UInt8.ofNat zs[k].toNat := by simp [List.getD, hk, hj']
      rw [e1, e2]
      rw [UInt8.toNat_ofNat', Nat.mod_eq_of_lt (by omega), Int.toNat_of_nonneg hb.1]
theorem Tryz.cellsSd : Tryz.prog.cellsOf 60 = 2 := by kernel_rfl
theorem Tryz.bytesSd : Tryz.prog.bytesOf 60 = 32 := by kernel_rfl
theorem Tryz.cellsI : Tryz.prog.cellsOf 3 = 1 := by kernel_rfl
theorem Tryz.cellsBy : Tryz.prog.cellsOf 34 = 1 := by kernel_rfl
set_option maxRecDepth 100000 in
/-- A slice of segments. -/
theorem open_pb {H : Type} {enc : TypeId × Value → H} {W : World} {r : Reach} {b0 base : Nat} {held : Bool} {v : Value} {d : DataW H} {p : List MemPlace}
    (hv : Value.okWide Tryz.prog W r b0 22 v) (h : DataW.Trod enc Tryz.prog W base (fun _ => true) held 22 v d p) (hr : ∀ x ∈ DataW.weights Tryz.prog 22 d, x ≤ reachBytes) :
    ∃ P : List Pb, PbAt W v P ∧ P.length ≤ 4398046510976 ∧ ∀ x ∈ P, x.2.length ≤ 140737488351232 := by
  obtain ⟨a', l', c', rfl⟩ := okWide_slice Tryz.underlying22 hv
  obtain ⟨m, h3⟩ := h
  rcases Go.Deep.open_slice_pairs Tryz.underlying22 Tryz.underlying60 Tryz.cellsSd rfl rfl Tryz.cellsI Tryz.cellsBy h3 with ⟨hcs, hx⟩ | ⟨a, len, cap, m', n, V0, V1, D0, D1, P0, P1, hcs, _, hl, hm, hmm, hx, hcell⟩
  · simp only [Value.cells, List.cons.injEq, and_true] at hcs
    rw [hcs]
    exact ⟨[], ⟨none, 0, rfl, fun k hk => absurd hk (by simp)⟩, by simp, fun x hx => absurd hx (by simp)⟩
  · simp only [Value.cells, List.cons.injEq, and_true] at hcs
    simp only [if_true] at hmm
    subst hmm
    have hd : d = .slice ((List.range len).map fun i => .agg [D0 i, D1 i]) ((List.range (m' - len)).map fun j => .agg [D0 (len + j), D1 (len + j)]) := congrArg Prod.fst hx
    have hcp : m' ≤ 4398046510976 := by
      have := hr ((((List.range len).map fun i => (DataW.agg [D0 i, D1 i] : DataW H)).length + ((List.range (m' - len)).map fun j => (DataW.agg [D0 (len + j), D1 (len + j)] : DataW H)).length) * Tryz.prog.bytesOf 60) (by rw [hd]; simp [DataW.weights, Tryz.underlying22])
      rw [Tryz.bytesSd] at this
      have hrb : reachBytes = 140737488351232 := by decide
      simp only [List.length_map, List.length_range] at this
      omega
    have each : ∀ i, i < len → ∃ q : Pb, W.cell? (a.add (i * 2)) = some (.int .i64 q.1) ∧ (∃ b n c, W.cell? (a.add (i * 2 + 1)) = some (.slice b n c) ∧ ByAt W (.slice b n c) q.2) ∧ q.2.length ≤ 140737488351232 := fun i hi => by
      obtain ⟨h1, h2, h4, h5⟩ := hcell i (by omega)
      obtain ⟨z, hz, _⟩ := DataW.trod_int Tryz.underlying3 h4
      simp only [List.cons.injEq, and_true] at hz
      obtain ⟨bs, b, n', c, hb1, hb2, hb3⟩ := bytes_trod h5 (fun x hxx => hr x (by
        rw [hd]
        simp only [DataW.weights, Tryz.underlying22, List.mem_cons, List.mem_append]
        refine .inr (.inl (weights_in (List.mem_map.2 ⟨i, List.mem_range.2 hi, rfl⟩) x ?_))
        simp only [DataW.weights, Tryz.underlying60, List.map_cons, List.map_nil, DataW.weightsEach, List.mem_append, List.append_nil]
        exact .inr hxx))
      exact ⟨(z, bs), by rw [h1, hz], ⟨b, n', c, by rw [h2, hb1], hb2⟩, hb3⟩
    obtain ⟨q, hq⟩ := Go.Deep.choose_lt each
    rw [hcs]
    have hPl : ((List.range len).map q).length = len := by simp
    refine ⟨(List.range len).map q, ⟨some a, m', by rw [hPl], fun k hk => ?_⟩, by rw [hPl]; omega, fun x hx => ?_⟩
    · rw [hPl] at hk
      obtain ⟨h1, ⟨b, n', c, h2, h4⟩, _⟩ := hq k hk
      have hqk : ((List.range len).map q)[k]'(by rw [hPl]; exact hk) = q k := by simp
      rw [hqk]
      obtain ⟨h00, _⟩ := hq 0 (by omega)
      obtain ⟨g, off, spot⟩ := a
      have hspot : spot = none := by simpa [Addr.add] using World.cell?_spot h00
      subst hspot
      refine ⟨g, off, b, n', c, rfl, ?_, ?_, ?_, h4⟩
      · have h1 := World.block_lt_of_cell? W _ h00
        simpa [Addr.add] using h1
      · rw [← h1, show (⟨g, off, none⟩ : Addr).add (k * 2) = ⟨g, off + k * 2, none⟩ from Addr.add_lit ..]
      · rw [← h2, show (⟨g, off, none⟩ : Addr).add (k * 2 + 1) = ⟨g, off + (k * 2 + 1), none⟩ from Addr.add_lit ..]; rfl
    · obtain ⟨i, hi, rfl⟩ := List.mem_map.1 hx
      exact (hq i (List.mem_range.1 hi)).2.2
set_option maxRecDepth 100000 in
theorem hexfileMerges_lifted (os : Os) (started : os.Started) (H : Type) (enc : TypeId × Value → H) :
    ReturnsInHanded {} Tryz.checked os 3 .any (fun w args => (Rows.hexfileMergesSpec.pre enc Tryz.prog Tryz.f3 [] false w args ∧ laidMetH Tryz.prog Rows.hexfileMergesRow.laid w) ∧ sizedMet enc Tryz.prog Tryz.f3 (OpenSpec.ofChange Rows.hexfileMergesSpec) false w args)
      (Rows.hexfileMergesSpec.post enc Tryz.prog Tryz.f3 false true false false) := by
  refine handed_sized (C := Tryz.checked) (X := fun w _ => laidMetH Tryz.prog Rows.hexfileMergesRow.laid w) (fun _ _ _ hh h => h.of_heap hh) Tryz.own0 started (by kernel_rfl) Tryz.func3
    (ChangeSpec.witness_shaped (enc := enc) (C := Tryz.checked) (os := os) (X := fun w _ => laidMetH Tryz.prog Rows.hexfileMergesRow.laid w) false (World.laidAll Tryz.prog os Rows.hexfileMergesRow.laid) #[.slice none 0 0, .slice none 0 0] 8 (World.laidAll_os _ _ _)
      (World.shaped_of_ZipB (by kernel_rfl) (by kernel_rfl)) (by kernel_rfl) (by kernel_rfl) (by kernel_rfl)
      (by rw [MakeChecks.laidMetH_plain _ _ _ (by kernel_rfl)]; exact laidMet_laidAll _ (by kernel_rfl) (by kernel_rfl))) ?_
  intro W base args ds gs before hsh hval0 hW hsz0 _
  have hsz : (DataW.weightsEach Tryz.prog (Tryz.f3.params.toList ++ (OpenSpec.ofChange Rows.hexfileMergesSpec).bare.plain.varTypes Tryz.prog) (ds ++ gs)).all (· ≤ reachBytes) = true := hsz0
  clear hsz0
  have hval : ∀ (j : Nat) t v, Tryz.f3.params[j]? = some t → args[j]? = some v → Value.okWide Tryz.prog W .any base t v := hval0
  have hW' := hW
  obtain ⟨p, q, hA0, hV, rfl, hfz, hnd⟩ := hW
  have hA : DataW.TrodAll enc Tryz.prog W 0 (fun _ => true) true Tryz.f3.params.toList args.toList ds p := hA0
  rw [Tryz.params3] at hA hval hsz
  obtain ⟨v0, vs0, d0, ds0, p0, q0, hargs, rfl, rfl, h0, r0⟩ := trodAll_cons hA
  obtain ⟨v1, vs1, d1, ds1, p1, q1, rfl, rfl, rfl, h1, r1⟩ := trodAll_cons r0
  obtain ⟨rfl, rfl, rfl⟩ := trodAll_nil r1
  obtain rfl : args = #[v0, v1] := by cases args; simp_all
  obtain ⟨rfl, rfl⟩ := trodVars_none hV
  have k0 := h0
  have k1 := h1
  have lt0 : ∀ x ∈ p0, x.block < W.heap.size := by obtain ⟨m, hm⟩ := k0; exact DataW.trod_lt m _ _ _ hm
  have lt1 : ∀ x ∈ p1, x.block < W.heap.size := by obtain ⟨m, hm⟩ := k1; exact DataW.trod_lt m _ _ _ hm
  obtain ⟨P, hP, hpl, hpb⟩ := open_pb (hval 0 22 v0 rfl rfl) h0 (fun x hx => by simpa using List.all_eq_true.1 hsz x (DataW.weights_mem_each (j := 0) (t := 22) rfl rfl x hx))
  obtain ⟨Q, hQ, hql, hqb⟩ := open_pb (hval 1 22 v1 rfl rfl) h1 (fun x hx => by simpa using List.all_eq_true.1 hsz x (DataW.weights_mem_each (j := 1) (t := 22) rfl rfl x hx))
  clear hA0 hval0
  obtain ⟨mx, hmx, h00⟩ := int_of_shape hsh
  have hcall := merges_any v0 v1 P Q hpl hql (fun x hx => Nat.le_trans (hpb x hx) (by omega)) (fun x hx => Nat.le_trans (hqb x hx) (by omega)) mx W hP hQ hmx
  refine hcall.mono fun e W' ⟨he, bel⟩ => ?_
  subst he
  exact ⟨_, rfl, _, _, _, [], _, [], hW', trodAll_mk1 (shut_bool Tryz.underlying4 _),
    (trodAll_cons_mk (Below.trod Tryz.laid0 (by kernel_rfl) (of_decide_eq_true (by kernel_rfl)) k0 bel lt0)
    (trodAll_cons_mk (Below.trod Tryz.laid0 (by kernel_rfl) (of_decide_eq_true (by kernel_rfl)) k1 bel lt1) trodAll_mk0)), rfl, bel.frame _, fun h => by cases h⟩

theorem hexfileMerges_row : Rows.HexfileMergesSaid :=
  OpenClaim.holds_of_wide 3 Tryz.f3 rfl rfl rfl rfl rfl rfl rfl ⟨rfl, rfl, rfl, rfl, rfl⟩ rfl rfl rfl rfl rfl (by kernel_rfl) Tryz.func3 (by kernel_rfl)
    (of_decide_eq_true (by kernel_rfl)) (by unfold Func.isWrapper; first | (rw [if_pos (by decide +kernel)]; kernel_rfl) | (rw [if_neg (by decide +kernel)]; exact ⟨rfl, rfl⟩))
    (fun os started H enc _ => hexfileMerges_lifted os started H enc)

theorem hexfileMerges_card : Rows.HexfileMergesCardSaid :=
  Claim7.holds_tied_plain_at .later [] [.data, .pinned] true (true, "80062f28a41dc03c1c3a7bc45f8e842d193fdb55af1f04e59b48087c3b0bf848") false
    hexfileMerges_row (fun _ h => by cases h) (by kernel_rfl) (fun _ h => by cases h) hexfileMerges_row_tie rfl ⟨rfl, rfl⟩ (by kernel_rfl) rfl
    (fun f fn hf hfn => by
      obtain rfl : f = 3 := Option.some.inj ((show Tryz.prog.funcNamed "orrery/orrerylaw21.HexfileMerges" = some 3 by kernel_rfl).symm.trans hf) |>.symm
      obtain rfl : fn = Tryz.f3 := (Option.some.inj (Tryz.func3.symm.trans hfn)).symm
      exact ⟨by kernel_rfl, fun j t ht => by
        rw [Tryz.params3] at ht
        have hm : t ∈ [22, 22] := by simpa using Array.mem_of_getElem? ht
        have hall : ([22, 22].all fun u => !Tryz.prog.wantsStandIn u) = true := by kernel_rfl
        exact (show Tryz.prog.wantsStandIn t = false by simpa using List.all_eq_true.1 hall t hm)⟩)
    (by kernel_rfl)
#print axioms hexfileMerges_card
end Go.Proofs.YtpemajghaceegaaGreatDoor
