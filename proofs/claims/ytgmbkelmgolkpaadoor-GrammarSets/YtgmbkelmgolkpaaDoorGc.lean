/- Texts of one proof, one behind the other. -/
import Derived.Test.YtgmbkelmgolkpaaDoorGp
import Derived.Lib.AppendZeros
/- What slices.Grow and slices.Concat answer at texts. -/
namespace Go.Proofs.YtgmbkelmgolkpaaDoor
open Go.RowKit Go.Maps
set_option linter.unusedVariables false

set_option maxRecDepth 100000 in
set_option maxHeartbeats 1600000 in
theorem growT_any (n : Nat) (h1 : 1 ≤ n) (hn : n ≤ 4398046511104) (w : World) : Calls Tryd.prog 91 #[.slice none 0 0, .int .i64 n] w fun e w' => ∃ u, e = .returned u ∧ w'.ownsRow w.heap.size 9 1 u 0 [] ∧ Below w.heap.size w w' := by
  obtain ⟨i0, hi, hz0, hz1, hz2⟩ := info_parts Tryd.info9
  have hr := fun ty => Lib.run_append_nil_zeros (P := Tryd.prog) w 35 3 ty 9 i0 _ .i64 .i64 Tryd.under48 Tryd.under3 hi hz0 n (by omega) (by rw [hz1]; decide) (by omega) (by rw [hz2]; omega)
  have HR := hidD hr
  have hge := grownCap_ge w n 0 9
  have hcm : grownCap w n 0 9 ≤ maxLen := grownCap_le_maxLen w n 0 9 (by unfold maxLen; omega)
  have HOW : Hid ((w.drew.alloc (.cells (Builtin.zeroCells (Value.string ByteArray.empty).cells n ++ Builtin.zeroCells (Value.string ByteArray.empty).cells (grownCap w n 0 9 - n)) 9)).ownsRow w.heap.size 9 1 (.slice (some ⟨w.heap.size, 0, none⟩) 0 (grownCap w n 0 9)) 0 []) := by
    refine World.ownsRow_made (base := w.heap.size) (e := 9) (size := 1) w.drew _ (grownCap w n 0 9) (Nat.le_refl _) hcm ?_
    rw [Array.size_append, size_zeroCells, size_zeroCells]
    show n * 1 + (grownCap w n 0 9 - n) * 1 = _
    omega
  have HBL : Hid (∀ o, Below w.heap.size w (w.drew.alloc o)) := fun o => ((Below.refl _ _).drew).alloc (Nat.le_refl _) o
  unfold maxLen at hcm
  generalize hC : grownCap w n 0 9 = C at *
  clear hC hr
  have hC0 : ¬ C = 0 := by omega
  have hni : (1 : Int) ≤ n := by omega
  go_enter Tryd.func91, Tryd.ntmps91
  go_wp2_with (at_builtin; refine Lib.wpList_append_run w rfl _ _ 35 3 rfl (.slice none 0 0) (.int .i64 n) rfl rfl _ _ (HR.out _) ?_)
  go_ret
  exact ⟨_, rfl, HOW.out, HBL.out _⟩
theorem wpList_append_st {ops : Array Oper} {rest : List Oper} {o : Oper} {a : Act} {Q : Exit → Act → World → Prop} {w : World} (hgd : o.guard = none) (s x : Operand)
    (ho : o.op = .call { callee := .builtin .append, args := #[s, x], argTypes := #[35, 35] }) (base : Nat) (v : Value) (n : Nat) (c : List Tx)
    (hs : a.eval s = v) (hown : w.ownsRow base 9 1 v n (c.map encT)) (B : Nat) (u : Value) (y : List Tx) (hx : a.eval x = u) (hsr : StAt w B u y) (hl : n + y.length ≤ 4398046511104) (hbase : base ≤ w.heap.size)
    (h : ∀ v' w', w'.ownsRow base 9 1 v' (n + y.length) ((c ++ y).map encT) → Below base w w' → Kept 9 w w' → wpList Tryd.prog ops Q rest (a.put o.dst v') w') : wpList Tryd.prog ops Q (o :: rest) a w := by
  obtain ⟨i0, hi, hz0, hz1, hz2⟩ := info_parts Tryd.info9
  have hsr' := hsr
  obtain ⟨a', cap', rfl, hcc, ⟨hc2, hc3⟩, hcl⟩ := hsr'
  cases a' with
  | none =>
    obtain rfl := hc3 rfl
    have h0 : y.length = 0 := by omega
    obtain rfl := List.eq_nil_of_length_eq_zero h0
    refine wpList_append_own_none hgd s x 35 ho base 9 i0 1 Tryd.under48 hi v n (c.map encT) hs hown hx ?_
    exact h v w (by simpa using hown) (Below.refl _ _) fun _ _ _ => rfl
  | some ad =>
    refine wpList_append_own w hgd s x 35 ho base 9 i0 _ 1 16 Tryd.under48 hi hz0 hz1 hz2 rfl (by decide) v n (c.map encT) hs hown ad y.length cap' (y.map encT) hx (by rw [List.length_map]; omega) (fun j u hu => ?_) (by intro u hu; obtain ⟨t, _, rfl⟩ := List.mem_map.1 hu; rfl) (by unfold maxLen; omega) (by omega) hbase ?_
    · have hj : j < y.length := by
        rcases Nat.lt_or_ge j y.length with h1 | h1
        · exact h1
        · rw [List.getElem?_eq_none (by rw [List.length_map]; exact h1)] at hu; cases hu
      obtain ⟨g', o', e, _, _, e4⟩ := hsr.cell (k := j) hj
      cases e
      rw [show (⟨g', o', none⟩ : Addr).add j = ⟨g', o' + j, none⟩ from Addr.add_lit .., e4, ← hu, List.getElem?_map, List.getElem?_eq_getElem hj, List.getD_eq_getElem?_getD, List.getElem?_eq_getElem hj]
      rfl
    · intro v' w' h1 h2 _
      exact h v' w' (by rw [List.map_append]; exact h1) (row_grown hown (Below.refl _ _) h2 hbase) (kept_of_grown hown h2)
theorem wpList_append_txt {ops : Array Oper} {rest : List Oper} {o : Oper} {a : Act} {Q : Exit → Act → World → Prop} {w : World} (hgd : o.guard = none) (s x : Operand)
    (ho : o.op = .call { callee := .builtin .append, args := #[s, x], argTypes := #[35, 35] }) (base : Nat) (v : Value) (n : Nat) (c : List Tx)
    (hs : a.eval s = v) (hown : w.ownsRow base 9 1 v n (c.map encT)) (B : Nat) (u : Value) (y : List Tx) (hx : a.eval x = u) (hsr : SrAt w B u y) (hl : n + y.length ≤ 4398046511104) (hbase : base ≤ w.heap.size)
    (h : ∀ v' w', w'.ownsRow base 9 1 v' (n + y.length) ((c ++ y).map encT) → Below base w w' → Kept 9 w w' → wpList Tryd.prog ops Q rest (a.put o.dst v') w') : wpList Tryd.prog ops Q (o :: rest) a w := wpList_append_st hgd s x ho base v n c hs hown B u y hx hsr.st hl hbase h
set_option maxRecDepth 100000 in
set_option maxHeartbeats 800000 in
theorem concatT_any (L : List (List Tx)) (hll : L.length ≤ 4398046511103) (hf1 : 1 ≤ L.flatten.length) (hfl : L.flatten.length ≤ 4398046511103) (v : Value) (w : World) (h : RlAt w v L) : Calls Tryd.prog 59 #[v] w fun e w' => ∃ u, e = .returned u ∧ w'.ownsRow w.heap.size 9 1 u L.flatten.length (L.flatten.map encT) ∧ Below w.heap.size w w' := by
  have HRL := hidD h
  obtain ⟨a, cap, rfl, hc1, hc2, _⟩ := h
  have HPN := hidD (fun r hr => pos_next (L := L) (r := r) hr)
  have HPM := hidD (fun r hr => pos_mono L (r := r) hr)
  have HPA := hidD (pos_all L)
  have HP0 := hidD (pos_zero L)
  have HTK := hidD (fun r hr => take_one (L := L) (r := r) hr)
  have HTL : Hid (∀ r, (L.take r).flatten.length = posS L r) := fun _ => rfl
  have HTA : Hid (L.take L.length = L) := List.take_length
  have HFB := hidD hfl
  have HF1 := hidD hf1
  have HGR := hidD (fun w' => growT_any L.flatten.length hf1 (by omega) w')
  clear hf1 hfl
  generalize hFL : L.flatten.length = FL at *
  have HFL := hidD hFL
  clear hFL
  generalize hn : L.length = n at *
  have HN := hidD hn
  clear hn
  go_enter Tryd.func59, Tryd.ntmps59
  go_wp2
  go_loop [3, 11] (fun s i => ∃ k : Nat, k ≤ n ∧ i = .int .i64 k ∧ s = .int .i64 (posS L k)) (fun _ i => n - (intOf i).toNat)
  case atStart => exact ⟨0, Nat.zero_le _, rfl, by rw [HP0.out]; rfl⟩
  case round =>
    obtain ⟨k, hk, rfl, rfl⟩ := hrel
    by_cases hlt : k < n
    · have hlti : (k : Int) < n := by omega
      obtain ⟨g, o, a2, c2, rfl, hg, f0, hsr⟩ := HRL.out.row (k := k) (by rw [HN.out]; exact hlt)
      have HMK := hidD (HPM.out k hlt)
      have HNX := hidD (HPN.out k hlt)
      clear hsr
      generalize (L.getD k []).length = ln at *
      generalize posS L k = P at *
      have hsum : (P : Int) + (ln : Int) ≤ 4398046511103 := by have := HMK.out; have := HFB.out; omega
      go_wp2
      go_round
      case rel => exact ⟨k + 1, by omega, by go_num, by rw [HNX.out]; go_num⟩
      case measure => simp [intOf]; omega
    · obtain rfl : n = k := by omega
      rw [HPA.out]
      go_wp2_with (go_at_call 91; refine (HGR.out _).mono ?_; rintro e w2 ⟨u2, rfl, ho2, hb2⟩; have HO2 := hidD ho2; have HB2 := hidD hb2; clear ho2 hb2)
      obtain ⟨a6, c6, h6⟩ := row_shape HO2.out
      subst h6
      go_loopw [6, 27] (fun r i wr => ∃ k : Nat, k ≤ n ∧ i = .int .i64 k ∧ wr.ownsRow w.heap.size 9 1 r (posS L k) ((L.take k).flatten.map encT) ∧ Below w.heap.size w wr) (fun _ i _ => n - (intOf i).toNat)
      case atStart => exact ⟨0, Nat.zero_le _, rfl, by rw [HP0.out]; exact HO2.out, HB2.out⟩
      case round =>
        obtain ⟨k, hk, rfl, hown, hbel⟩ := hrel
        have HOW := hidD hown
        have HBW := hidD hbel
        obtain ⟨a7, c7, h7⟩ := row_shape hown
        subst h7
        by_cases hlt : k < n
        · have hlti : (k : Int) < n := by omega
          obtain ⟨g, o, a2, c2, rfl, hg, f0, hsr⟩ := HRL.out.row (k := k) (by rw [HN.out]; exact hlt)
          have f2 : wr.cell? ⟨g, o + k, none⟩ = _ := (hbel.cell (p := ⟨g, o + k, none⟩) hg).trans f0
          have HSR := hidD (hsr.below hbel (Nat.le_refl _))
          have HMK := hidD (HPM.out k hlt)
          have HNX := hidD (HPN.out k hlt)
          have HTN := hidD (HTK.out k hlt)
          clear f0 hsr hown hbel
          generalize L.getD k [] = RW at *
          generalize hDN : (L.take k).flatten = DN at *
          have HDN := hidD hDN
          clear hDN
          generalize hln : RW.length = ln at *
          have HLN := hidD hln
          clear hln
          generalize posS L k = P at *
          have hsum : P + ln ≤ 4398046511103 := by have := HMK.out; have := HFB.out; omega
          go_wp2_with (at_builtin; refine wpList_append_txt rfl _ _ rfl w.heap.size (.slice a7 P c7) P DN rfl HOW.out w.heap.size (.slice a2 ln c2) RW rfl HSR.out (by rw [HLN.out]; omega) HBW.out.size ?_; intro v8 w8 h81 h82 h83; have HX1 := hidD h81; have HX2 := hidD (Below.trans HBW.out h82); clear h81 h82 h83)
          go_roundw
          case rel => exact ⟨k + 1, by omega, by go_num, by rw [HNX.out, HTN.out, List.flatten_append, List.flatten_singleton, HDN.out]; rw [HLN.out] at HX1; exact HX1.out, HX2.out⟩
          case measure => simp [intOf]; omega
        · obtain rfl : n = k := by omega
          rw [HTA.out, HPA.out] at HOW
          clear hown hbel
          rw [HPA.out]
          go_wp2
          go_ret
          exact ⟨_, rfl, HOW.out, HBW.out⟩
end Go.Proofs.YtgmbkelmgolkpaaDoor
/- What numbered answers. -/
namespace Go.Proofs.YtgmbkelmgolkpaaDoor
open Go.RowKit Go.Maps
set_option linter.unusedVariables false

theorem makeMap_some (n : Int) (w : World) : (Instr.makeMap 83 (some (.int .i64 n))).run Tryd.prog w = .ok (.map (some w.heap.size)) (w.alloc (.map #[] 0)) := by
  simp [Instr.makeMap, asInt, asIntOf, run_underlying Tryd.under64]
/-- The numbers of the first k names, the one at t left out. -/
def nuTo (A : List Tx) (t : Nat) : Nat → Tx → Option Int
  | 0 => fun _ => none
  | k + 1 => if k = t then nuTo A t k else fun z => if z = A.getD k [] then some (k : Int) else nuTo A t k z
/-- Are the first k names, the one at t left out, right? -/
def gdTo (A : List Tx) (t : Nat) : Nat → Bool
  | 0 => true
  | k + 1 => gdTo A t k && (decide (k = t) || (nmS (A.getD k []) && (nuTo A t k (A.getD k [])).isNone))
theorem gd_mono (A : List Tx) (t : Nat) {k : Nat} : ∀ m, k ≤ m → gdTo A t k = false → gdTo A t m = false
  | 0, h, e => by obtain rfl : k = 0 := by omega
                  exact e
  | m + 1, h, e => by
    by_cases hk : k = m + 1
    · rw [← hk]; exact e
    · rw [gdTo, gd_mono A t m (by omega) e]; rfl
/-- Terminals, the end, others. -/
def allN (T O : List Tx) : List Tx := [T, [tEnd], O].flatten
theorem allN_len (T O : List Tx) : (allN T O).length = T.length + 1 + O.length := by simp [allN]; omega
def nuF (T O : List Tx) : Tx → Option Int := nuTo (allN T O) T.length (allN T O).length
def gdF (T O : List Tx) : Bool := gdTo (allN T O) T.length (allN T O).length
theorem alloc_size (w : World) (o : Obj) : (w.alloc o).heap.size = w.heap.size + 1 := by simp
/-- Three rows of texts in a new one. -/
theorem rl_three {w : World} {Bt Bo : Nat} {t o : Value} {T O : List Tx} (ht : SrAt w Bt t T) (ho : SrAt w Bo o O) : RlAt ((w.alloc (.cells #[.string ⟨#[36]⟩] (9 : TypeId))).alloc (.cells #[t, .slice (some ⟨w.heap.size, 0, none⟩) 1 1, o] (35 : TypeId))) (.slice (some ⟨w.heap.size + 1, 0, none⟩) 3 3) [T, [tEnd], O] := by
  have hb1 : Below w.heap.size w (w.alloc (.cells #[.string ⟨#[36]⟩] (9 : TypeId))) := (Below.refl _ _).alloc (Nat.le_refl _) _
  have hb2 : Below w.heap.size w ((w.alloc (.cells #[.string ⟨#[36]⟩] (9 : TypeId))).alloc (.cells #[t, .slice (some ⟨w.heap.size, 0, none⟩) 1 1, o] (35 : TypeId))) := hb1.alloc (by simp) _
  have hc1 : ((w.alloc (.cells #[.string ⟨#[36]⟩] (9 : TypeId))).alloc (.cells #[t, .slice (some ⟨w.heap.size, 0, none⟩) 1 1, o] (35 : TypeId))).heap[w.heap.size]? = some (.cells #[.string ⟨#[36]⟩] (9 : TypeId) (0, 0)) := by
    rw [(show Below (w.heap.size + 1) (w.alloc (.cells #[.string ⟨#[36]⟩] (9 : TypeId))) _ from (Below.refl _ _).alloc (by simp) _).block w.heap.size (by omega)]
    exact heap_alloc_new _ _
  have hc2 : ((w.alloc (.cells #[.string ⟨#[36]⟩] (9 : TypeId))).alloc (.cells #[t, .slice (some ⟨w.heap.size, 0, none⟩) 1 1, o] (35 : TypeId))).heap[w.heap.size + 1]? = some (.cells #[t, .slice (some ⟨w.heap.size, 0, none⟩) 1 1, o] (35 : TypeId) (0, 0)) := by
    have := heap_alloc_new (w.alloc (.cells #[.string ⟨#[36]⟩] (9 : TypeId))) (.cells #[t, .slice (some ⟨w.heap.size, 0, none⟩) 1 1, o] (35 : TypeId))
    rw [alloc_size] at this
    exact this
  generalize ((w.alloc (.cells #[.string ⟨#[36]⟩] (9 : TypeId))).alloc (.cells #[t, .slice (some ⟨w.heap.size, 0, none⟩) 1 1, o] (35 : TypeId))) = w2 at *
  refine ⟨_, 3, rfl, Nat.le_refl _, by omega, fun k hk => ?_⟩
  have hk3 : k < 3 := hk
  have hlt := row_lt hc2
  rcases (show k = 0 ∨ k = 1 ∨ k = 2 by omega) with rfl | rfl | rfl
  · exact ⟨_, 0, t, rfl, hlt, (cell_of_row _ _ _ _ _ _ hc2).trans rfl, (ht.next hb2).all⟩
  · refine ⟨_, 0, _, rfl, hlt, (cell_of_row _ _ _ _ _ _ hc2).trans rfl, _, 1, rfl, Nat.le_refl _, ⟨by omega, nofun⟩, fun k hk => ?_⟩
    have hk1 : k < 1 := hk
    obtain rfl : k = 0 := by omega
    exact ⟨_, 0, _, rfl, row_lt hc1, hc1, rfl⟩
  · exact ⟨_, 0, o, rfl, hlt, (cell_of_row _ _ _ _ _ _ hc2).trans rfl, (ho.next hb2).all⟩
set_option maxRecDepth 100000 in
set_option maxHeartbeats 1600000 in
theorem numbered_any (T O : List Tx) (hT : TxOk T) (hO : TxOk O) (hl : T.length + O.length ≤ 4398046511000) (Bt Bo : Nat) (t o : Value) (w : World) (ht : SrAt w Bt t T) (ho : SrAt w Bo o O) : Calls Tryd.prog 57 #[t, o] w fun e w' =>
    (gdF T O = true → ∃ b n, e = .returned (.tuple #[.map (some b), .bool true]) ∧ n ≤ 4398046511104 ∧ MpAt w' b n (nuF T O) ∧ w.heap.size ≤ b) ∧ (gdF T O = false → e = .returned (.tuple #[.map none, .bool false])) ∧ Below w.heap.size w w' := by
  have hmm := makeMap_some
  obtain ⟨at1, ct1, rfl⟩ := ht.shape
  obtain ⟨ao1, co1, rfl⟩ := ho.shape
  have HAO : Hid (TxOk (allN T O)) := fun x hx => by
    simp only [allN, List.flatten_cons, List.flatten_nil, List.append_nil, List.mem_append, List.mem_singleton] at hx
    rcases hx with hx | rfl | hx
    · exact hT x hx
    · decide
    · exact hO x hx
  have hlen := allN_len T O
  have HFL : Hid ([T, [tEnd], O].flatten = allN T O) := rfl
  have HB0 : Hid (Below w.heap.size w (w.alloc (.map #[] 0))) := (Below.refl _ _).alloc (Nat.le_refl _) _
  have HM0 := hidD (MpAt.made w)
  have hrl := rl_three (ht.next HB0.out) (ho.next HB0.out)
  simp only [alloc_size] at hrl
  have HBA : Hid (∀ (w' : World) o1 o2, Below w'.heap.size w' ((w'.alloc o1).alloc o2)) := fun w' o1 o2 => ((Below.refl _ _).alloc (Nat.le_refl _) o1).alloc (by simp) o2
  have HCC := hidD (concatT_any [T, [tEnd], O] (by simp) (by rw [HFL.out]; omega) (by rw [HFL.out]; omega) _ _ hrl)
  rw [HFL.out] at HCC
  have HBQ : Hid (Below w.heap.size w (((w.alloc (.map #[] 0)).alloc (.cells #[.string ⟨#[36]⟩] (9 : TypeId))).alloc (.cells #[.slice at1 T.length ct1, .slice (some ⟨w.heap.size + 1, 0, none⟩) 1 1, .slice ao1 O.length co1] (35 : TypeId)))) := Below.next HB0.out (HBA.out _ _ _)
  have HMQ : Hid (MpAt (((w.alloc (.map #[] 0)).alloc (.cells #[.string ⟨#[36]⟩] (9 : TypeId))).alloc (.cells #[.slice at1 T.length ct1, .slice (some ⟨w.heap.size + 1, 0, none⟩) 1 1, .slice ao1 O.length co1] (35 : TypeId))) w.heap.size 0 fun _ => none) := HM0.out.next (HBA.out _ _ _)
  have HNF : Hid (nuF T O = nuTo (allN T O) T.length (allN T O).length ∧ gdF T O = gdTo (allN T O) T.length (allN T O).length) := ⟨rfl, rfl⟩
  have HN0 : Hid (∀ A t, nuTo A t 0 = fun _ => none) := fun _ _ => rfl
  have HNN : Hid (∀ A t k, nuTo A t (k + 1) = if k = t then nuTo A t k else fun z => if z = A.getD k [] then some (k : Int) else nuTo A t k z) := fun _ _ _ => rfl
  have HGN : Hid (∀ A t k, gdTo A t (k + 1) = (gdTo A t k && (decide (k = t) || (nmS (A.getD k []) && (nuTo A t k (A.getD k [])).isNone)))) := fun _ _ _ => rfl
  have HGM := hidD (fun k => gd_mono (allN T O) T.length (k := k))
  have HG0 : Hid (gdTo (allN T O) T.length 0 = true) := rfl
  clear hT hO ht ho hrl
  generalize allN T O = A at *
  generalize hAn : A.length = n at *
  have HAN := hidD hAn
  clear hAn
  generalize hTn : T.length = tl at *
  generalize hOn : O.length = ol at *
  clear hTn hOn
  have hnb : n ≤ 4398046511001 := by omega
  clear hlen
  have hwr : ((tl : Int) + 1) ≤ 4398046511001 := by omega
  go_enter Tryd.func57, Tryd.ntmps57
  go_wp2_with (go_at_call 59; refine HCC.out.mono ?_; rintro e w2 ⟨u2, rfl, ho2, hb2⟩; obtain ⟨a3, c3, h3⟩ := row_shape ho2; subst h3; have HS2 := hidD (sr_of_own ho2 HAN.out.symm); have HO2 := hidD ho2; have HB2 := hidD (Below.next HBQ.out hb2); have HM2 := hidD (HMQ.out.next hb2); clear ho2 hb2)
  clear HO2 HCC HBQ HMQ
  go_loopw [24] (fun i wr => ∃ k B : Nat, k ≤ n ∧ i = .int .i64 k ∧ MpAt wr w.heap.size k (nuTo A tl k) ∧ SrAt wr B (.slice a3 n c3) A ∧ gdTo A tl k = true ∧ Below w.heap.size w wr) (fun i _ => n - (intOf i).toNat)
  case atStart => exact ⟨0, _, Nat.zero_le _, rfl, by rw [HN0.out]; exact HM2.out, HS2.out, HG0.out, HB2.out⟩
  case round =>
    obtain ⟨k, B, hk, rfl, hmp, hsr, hgd, hbel⟩ := hrel
    have HMP := hidD hmp
    have HSR := hidD hsr
    have HGD := hidD hgd
    have HBW := hidD hbel
    have HNK := hidD (HNN.out A tl k)
    have HGK := hidD (HGN.out A tl k)
    rw [HGD.out, Bool.true_and] at HGK
    by_cases hlt : k < n
    · have hlti : (k : Int) < n := by omega
      obtain ⟨g, o, rfl, hg, _, f0⟩ := hsr.cell (k := k) (by rw [HAN.out]; exact hlt)
      have hxl := HAO.out.get (k := k) (by rw [HAN.out]; exact hlt)
      have hlk := hmp.lookOk hxl
      have HIM := hidD hmp.is
      have HNM := hidD (isName_any (A.getD k []) wr hxl)
      unfold encT at f0 HNM
      have HGF := hidD (fun h => HGM.out (k + 1) n (by omega) h)
      clear hmp hsr hgd hbel
      by_cases hkt : k = tl
      · have hkti : ((k : Int) == (tl : Int)) = true := by rw [hkt]; exact beq_self_eq_true _
        rw [if_pos hkt] at HNK
        rw [decide_eq_true hkt, Bool.true_or] at HGK
        subst hkt
        generalize A.getD k [] = x at *
        go_wp2
        go_roundw
        case rel => exact ⟨k + 1, B, by omega, by go_num, by rw [HNK.out]; exact HMP.out.bound (by omega), HSR.out, HGK.out, HBW.out⟩
        case measure => simp [intOf]; omega
      · have hkti : ((k : Int) == (tl : Int)) = false := beq_eq_false_iff_ne.2 (by omega)
        have hktd : decide ((k : Int) = (tl : Int)) = false := decide_eq_false (by omega)
        have hktn : ¬ ((k : Int) = (tl : Int)) := by omega
        rw [if_neg hkt] at HNK
        rw [decide_eq_false hkt, Bool.false_or] at HGK
        clear hkt
        generalize hx : A.getD k [] = x at *
        clear hx
        cases hf : nuTo A tl k x with
        | some c =>
          rw [hf] at hlk HGK
          simp only [Option.getD_some, Option.isSome_some] at hlk
          have HF : Hid (gdF T O = false) := by show _ = _; rw [HNF.out.2]; exact HGF.out (by rw [HGK.out]; exact Bool.and_false _)
          clear hf
          go_wp2
          refine bodyPost_ret (v := .tuple #[.map none, .bool false]) (by simp [results, Tryd.results57, go_sem]) rfl ?_
          exact ⟨fun h => (by rw [HF.out] at h; cases h), fun _ => rfl, HBW.out⟩
        | none =>
          rw [hf] at hlk HGK
          simp only [Option.getD_none, Option.isSome_none] at hlk
          rw [Option.isNone_none, Bool.and_true] at HGK
          clear hf
          cases hn : nmS x with
          | false =>
            rw [hn] at HNM HGK
            have HF : Hid (gdF T O = false) := by show _ = _; rw [HNF.out.2]; exact HGF.out HGK.out
            clear hn
            go_wp2_with (go_at_call 88; refine HNM.out.mono ?_; rintro e w5 ⟨rfl, hw⟩; subst w5)
            refine bodyPost_ret (v := .tuple #[.map none, .bool false]) (by simp [results, Tryd.results57, go_sem]) rfl ?_
            exact ⟨fun h => (by rw [HF.out] at h; cases h), fun _ => rfl, HBW.out⟩
          | true =>
            rw [hn] at HNM HGK
            clear hn
            go_wp2_with (first
              | (go_at_call 88; refine HNM.out.mono ?_; rintro e w5 ⟨rfl, hw⟩; subst w5)
              | (at_mapUpdate; refine wpList_map_put rfl _ _ _ rfl w.heap.size k (nuTo A tl k) rfl HMP.out (by omega) x (k : Int) hxl (by omega) (by omega) rfl rfl ?_; intro w6 hm6 hg6; have HM6 := hidD hm6; have HS6 := hidD (HSR.out.mapped HIM.out hg6); have HB6 := hidD (below_map HBW.out hg6 (Nat.le_refl _) HBW.out.size); clear hm6 hg6))
            go_roundw
            case rel => exact ⟨k + 1, B, by omega, by go_num, by rw [HNK.out]; exact HM6.out, HS6.out, HGK.out, HB6.out⟩
            case measure => simp [intOf]; omega
    · obtain rfl : n = k := by omega
      have HF : Hid (gdF T O = true) := by show _ = _; rw [HNF.out.2]; exact HGD.out
      have HL := hidD HMP.out
      clear hmp hsr hgd hbel
      go_wp2
      refine bodyPost_ret (v := .tuple #[.map (some w.heap.size), .bool true]) (by simp [results, Tryd.results57, go_sem]) rfl ?_
      exact ⟨fun _ => ⟨_, n, rfl, by omega, by rw [HNF.out.1]; exact HL.out, Nat.le_refl _⟩, fun h => (by rw [HF.out] at h; cases h), HBW.out⟩
end Go.Proofs.YtgmbkelmgolkpaaDoor
