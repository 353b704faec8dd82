/- What splitIntel answers: the record that a line's bytes are. -/
import Derived.Test.YtpemajghaceegaaGreatDoorHxe
import Derived.Test.YtpemajghaceegaaGreatDoorHxk
namespace Go.Proofs.YtpemajghaceegaaGreatDoor
open Go.RowKit
set_option linter.unusedVariables false

abbrev Raw := Except Nat (Nat × Nat × List UInt8)
def intR (b : List UInt8) : Raw :=
  if b.length < 5 ∨ b.length ≠ (b.getD 0 0).toNat + 5 then .error 210
  else if totS b % 256 ≠ 0 then .error 211
  else .ok ((b.getD 3 0).toNat, n2 b 1, (b.drop 4).take (b.length - 5))
def motR (k : Nat) (b : List UInt8) : Raw :=
  if b.length < 4 ∨ b.length ≠ (b.getD 0 0).toNat + 1 then .error 210
  else if totS b % 256 ≠ 255 then .error 211
  else .ok (k, n2 b 1, (b.drop 3).take (b.length - 4))
def mosR (b : List UInt8) : Raw :=
  if b.length < 5 ∨ b.length ≠ (b.getD 0 0).toNat + 5 then .error 210
  else if totS (b.take (b.length - 2)) % 65536 ≠ n2 b (b.length - 2) then .error 211
  else .ok ((if (b.getD 0 0).toNat = 0 then 1 else 0), n2 b 1, (b.drop 3).take (b.length - 5))
/- a slice whose block is new -/
def NewV (B : Nat) (v : Value) : Prop := ∀ g o n c, v = .slice (some ⟨g, o, none⟩) n c → B ≤ g
/- what is told of a line, ahead of what its format has -/
def SpIs (r : Raw) (e : Ending) (w w' : World) : Prop :=
  Below w.heap.size w w' ∧ match r with
    | .error n => e = .returned (.tuple #[.agg #[.int .i64 0, .int .i64 0, .slice none 0 0], .int .i64 (n : Int)])
    | .ok (k, a, d) => ∃ v, e = .returned (.tuple #[.agg #[.int .i64 (k : Int), .int .i64 (a : Int), v], .int .i64 0]) ∧ ByAt w' v d ∧ NewV w.heap.size v
theorem ba_tail (c : UInt8) (t : List UInt8) : (bA (c :: t)).extract 1 (bA (c :: t)).size = bA t := by
  apply ByteArray.ext
  rw [ByteArray.data_extract, ba_size]
  apply Array.toList_inj.1
  simp [bA, List.extract_eq_take_drop]
theorem by_sub {w : World} {g o N cap : Nat} {b : List UInt8} (h : ByAt w (.slice (some ⟨g, o, none⟩) N cap) b) (hN : b.length = N) (i n : Nat) (hin : i + n ≤ N) (hc : N ≤ cap) (hg : g < w.heap.size) : ByAt w (.slice (some ⟨g, o + i, none⟩) n (cap - i)) ((b.drop i).take n) := by
  obtain ⟨a, cap', e, h1, h2, h3, h4⟩ := h
  cases e
  have hl : ((b.drop i).take n).length = n := by rw [List.length_take, List.length_drop]; omega
  refine ⟨_, cap - i, by rw [hl], by rw [hl]; omega, by omega, fun h => by simp at h, fun k hk => ?_⟩
  rw [hl] at hk
  obtain ⟨g', o', e, _, hcc⟩ := h4 (i + k) (by omega)
  cases e
  refine ⟨g, o + i, rfl, hg, ?_⟩
  rw [show o + i + k = o + (i + k) by omega, hcc, List.getD_eq_getElem?_getD, List.getD_eq_getElem?_getD, List.getElem?_take, if_pos hk, List.getElem?_drop]
theorem by_addr {w : World} {a : Option Addr} {n cap : Nat} {b : List UInt8} (h : ByAt w (.slice a n cap) b) : n = b.length ∧ n ≤ cap ∧ cap ≤ 9223372036854775807 ∧ (0 < n → ∃ g o, a = some ⟨g, o, none⟩ ∧ g < w.heap.size ∧ ∀ k, k < n → w.cell? ⟨g, o + k, none⟩ = some (.int .u8 ((b.getD k 0).toNat : Int))) := by
  obtain ⟨a', cap', e, h1, h2, h3, h4⟩ := h
  cases e
  refine ⟨rfl, h1, h2, fun h0 => ?_⟩
  obtain ⟨g, o, e, hg, _⟩ := h4 0 h0
  refine ⟨g, o, e, hg, fun k hk => ?_⟩
  obtain ⟨g', o', e', _, hc⟩ := h4 k hk
  rw [e] at e'
  cases e'
  exact hc
theorem n2_sub (b : List UInt8) (i j : Nat) (h : i + 2 ≤ b.length) : n2 ((b.drop i).take 2) 0 = n2 b i := by
  unfold n2
  rw [List.getD_eq_getElem?_getD, List.getD_eq_getElem?_getD, List.getD_eq_getElem?_getD, List.getD_eq_getElem?_getD, List.getElem?_take, List.getElem?_take, if_pos (by omega), if_pos (by omega), List.getElem?_drop, List.getElem?_drop]
  rfl
theorem Tryz.zeroRec : (Tryz.prog.info? 80).map (fun i => (i.zero, i.size)) = some (some (.agg #[.int .i64 0, .int .i64 0, .slice none 0 0]), 3) := by kernel_rfl
theorem int_neq (n m : Int) : (n != m) = decide (n ≠ m) := by
  by_cases h : n = m
  · rw [decide_eq_false (by simpa using h), h]; exact bne_self_eq_false m
  · rw [decide_eq_true h]; exact bne_iff_ne.2 h
theorem Tryz.underRec : Tryz.prog.underlying 80 = some (.struct (Tryz.prog.fieldsOf 80)) := by kernel_rfl
theorem Tryz.sizeRec : (Tryz.prog.info? 80).map (·.size) = some 3 := by kernel_rfl
theorem res_cell_tmp {fn : Func} {p q : Tmp} (h : fn.results = #[.cell p 80, .tmp q]) (tmps : Array Value) (w : World) (g : Nat) (a b c : Value) (fr : Nat × Nat)
    (hp : tmps.getD p undef = .pointer (some ⟨g, 0, none⟩)) (hg : w.heap[g]? = some (.cells #[a, b, c] 80 fr)) :
    (results fn tmps).run Tryz.prog w = .ok (.tuple #[.agg #[a, b, c], tmps.getD q undef]) w := by
  have hp' : tmps[p]?.getD undef = .pointer (some ⟨g, 0, none⟩) := by simpa using hp
  simp [results, h, hp', asAddr, run_loadVar_row w g _ _ _ _ _ hg Tryz.underRec rfl Tryz.sizeRec]
theorem res_tmp_cell_tmp {fn : Func} {o p q : Tmp} (h : fn.results = #[.tmp o, .cell p 80, .tmp q]) (tmps : Array Value) (w : World) (g : Nat) (a b c : Value) (fr : Nat × Nat)
    (hp : tmps.getD p undef = .pointer (some ⟨g, 0, none⟩)) (hg : w.heap[g]? = some (.cells #[a, b, c] 80 fr)) :
    (results fn tmps).run Tryz.prog w = .ok (.tuple #[tmps.getD o undef, .agg #[a, b, c], tmps.getD q undef]) w := by
  have hp' : tmps[p]?.getD undef = .pointer (some ⟨g, 0, none⟩) := by simpa using hp
  simp [results, h, hp', asAddr, run_loadVar_row w g _ _ _ _ _ hg Tryz.underRec rfl Tryz.sizeRec]
/- a block of three cells that is written anew -/
theorem set3 {w : World} {r : Nat} {a b c : Value} {t : TypeId} (x y z : Value) (h : w.heap[r]? = some (.cells #[a, b, c] t (0, 0))) : (((w.setCell ⟨r, 0, none⟩ x).setCell ⟨r, 1, none⟩ y).setCell ⟨r, 2, none⟩ z).heap[r]? = some (.cells #[x, y, z] t (0, 0)) :=
  heap_setCell_same _ r 2 _ _ _ (heap_setCell_same _ r 1 _ _ _ (heap_setCell_same w r 0 _ _ _ h))
theorem below3 {w0 w : World} {B r : Nat} (hb : Below B w0 w) (hr : B ≤ r) (x y z : Value) : Below B w0 (((w.setCell ⟨r, 0, none⟩ x).setCell ⟨r, 1, none⟩ y).setCell ⟨r, 2, none⟩ z) :=
  ((hb.setCell (p := ⟨r, 0, none⟩) hr x).setCell (p := ⟨r, 1, none⟩) hr y).setCell (p := ⟨r, 2, none⟩) hr z
theorem cells3 {w : World} {r : Nat} {a b c : Value} {t : TypeId} (h : w.heap[r]? = some (.cells #[a, b, c] t (0, 0))) : (w.cell? ⟨r, 0, none⟩ = some a ∧ w.cell? ⟨r, 1, none⟩ = some b ∧ w.cell? ⟨r, 2, none⟩ = some c) ∧ w.frozen? ⟨r, 0, none⟩ = false ∧ w.frozen? ⟨r, 1, none⟩ = false ∧ w.frozen? ⟨r, 2, none⟩ = false :=
  ⟨⟨by rw [cell_of_row _ _ _ _ _ _ h]; rfl, by rw [cell_of_row _ _ _ _ _ _ h]; rfl, by rw [cell_of_row _ _ _ _ _ _ h]; rfl⟩, frozen_of_row _ _ _ _ _ h, frozen_of_row _ _ _ _ _ h, frozen_of_row _ _ _ _ _ h⟩
theorem own_ge {w : World} {base g o n c m k : Nat} {e : TypeId} {xs : List Value} (h : w.ownsRow base e k (.slice (some ⟨g, o, none⟩) n c) m xs) : base ≤ g := by
  rcases h.2 with ⟨h0, _⟩ | ⟨g', c', cur, h0, hb, _⟩
  · cases h0
  · cases h0; exact hb
theorem by_put3 {w : World} {g o n c r : Nat} {l : List UInt8} {x y z : Value} (h : ByAt w (.slice (some ⟨g, o, none⟩) n c) l) (hne : g ≠ r) : ByAt (((w.setCell ⟨r, 0, none⟩ x).setCell ⟨r, 1, none⟩ y).setCell ⟨r, 2, none⟩ z) (.slice (some ⟨g, o, none⟩) n c) l := by
  obtain ⟨a', cap', e, h1, h2, h3, h4⟩ := h
  cases e
  refine ⟨_, c, rfl, h1, h2, h3, fun k hk => ?_⟩
  obtain ⟨g', o', e, hg, hc⟩ := h4 k hk
  cases e
  refine ⟨g, o, rfl, by simpa using hg, ?_⟩
  simp only [World.cell?, heap_setCell_other _ ⟨r, 2, none⟩ g _ hne, heap_setCell_other _ ⟨r, 1, none⟩ g _ hne, heap_setCell_other _ ⟨r, 0, none⟩ g _ hne]
  exact hc
set_option maxRecDepth 100000 in
set_option maxHeartbeats 1600000 in
theorem splitIntel_any (c : UInt8) (t : List UInt8) (ht : t.length ≤ 140737488355000) (w : World) :
    Calls Tryz.prog 64 #[.string (bA (c :: t))] w fun e w' => SpIs (match unS t with | none => .error 210 | some b => intR b) e w w' := by
  have hex := ba_tail c t
  have hsz : (1 : Int) ≤ (bA (c :: t)).size := by rw [ba_size, List.length_cons]; omega
  have HBO := hidD (fun w => bytesOf_any t ht w)
  have HTT := hidD (fun (v : Value) (l : List UInt8) (hl : l.length ≤ 140737488355000) (w : World) (h : ByAt w v l) => total_any v l hl w h)
  have HNO := hidD (fun (v : Value) (l : List UInt8) (hl : 2 ≤ l.length) (w : World) (h : ByAt w v l) => numberOf_any v l hl w h)
  have HUL := hidD (fun b (h : unS t = some b) => un_len t b h)
  generalize bA (c :: t) = s at *
  obtain ⟨hz, hsz3⟩ := zero_of_info Tryz.zeroRec
  have HBX := hidD (heap_alloc_last w (.cells #[.int .i64 0, .int .i64 0, .slice none 0 0] (80 : TypeId)))
  have HB1 := hidD ((Below.refl w.heap.size w).alloc (Nat.le_refl _) (.cells #[.int .i64 0, .int .i64 0, .slice none 0 0] (80 : TypeId)))
  go_enter Tryz.func64, Tryz.ntmps64
  cases hu : unS t with
  | none =>
    go_wp2_with fail
    go_at_call 109
    refine (HBO.out _).mono ?_
    rintro e w2 ⟨a2, n2, c2, ok, rfl, h1, h2, hb⟩
    obtain rfl := h2 hu
    have HB2 := hidD (Below.next HB1.out hb)
    have HR2 := hidD ((hb.block _ (row_lt HBX.out)).trans HBX.out)
    obtain ⟨⟨d0, d1, d2⟩, f0, f1, f2⟩ := cells3 HR2.out
    clear h1 h2 hb HBO
    go_wp2_with fail
    refine bodyPost_ret (res_cell_tmp rfl _ _ w.heap.size _ _ _ (0, 0) rfl (set3 _ _ _ HR2.out)) rfl ?_
    exact ⟨below3 HB2.out (Nat.le_refl _) _ _ _, rfl⟩
  | some b =>
    obtain ⟨N, HN⟩ : ∃ N, Hid (b.length = N) := ⟨_, rfl⟩
    have HNT : Hid (N ≤ 140737488355000) := by have := HUL.out b hu; have := HN.out; show _ ≤ _; omega
    have hNT := HNT.out
    have HR := hidD (show intR b = if b.length < 5 ∨ b.length ≠ (b.getD 0 0).toNat + 5 then .error 210 else if totS b % 256 ≠ 0 then .error 211 else .ok ((b.getD 3 0).toNat, n2 b 1, (b.drop 4).take (b.length - 5)) from rfl)
    obtain ⟨x0, HX0⟩ : ∃ x0, Hid ((b.getD 0 0).toNat = x0) := ⟨_, rfl⟩
    have hx0 : x0 < 256 := by rw [← HX0.out]; exact (b.getD 0 0).toNat_lt
    obtain ⟨x3, HX3⟩ : ∃ x3, Hid ((b.getD 3 0).toNat = x3) := ⟨_, rfl⟩
    have hx3 : x3 < 256 := by rw [← HX3.out]; exact (b.getD 3 0).toNat_lt
    obtain ⟨T, HTE⟩ : ∃ T, Hid (totS b = T) := ⟨_, rfl⟩
    have HTL : Hid (T ≤ 72057594037927936) := by have := tot_le b; rw [HTE.out, HN.out] at this; show _ ≤ _; omega
    have hTL := HTL.out
    have HT1 := hidD (fun v w h => HTT.out v b (by rw [HN.out]; exact HNT.out) w h)
    rw [HTE.out] at HT1 HR
    rw [HN.out, HX0.out, HX3.out] at HR
    clear HTT HUL
    by_cases c5 : N < 5
    · rw [if_pos (.inl c5)] at HR
      have c5i : (N : Int) < 5 := by omega
      have HC5 := hidD c5
      clear c5 HT1
      go_wp2_with fail
      go_at_call 109
      refine (HBO.out _).mono ?_
      rintro e w2 ⟨a2, n2, c2, ok, rfl, h1, h2, hb⟩
      obtain ⟨rfl, hown⟩ := h1 b hu
      have HB2 := hidD (Below.next HB1.out hb)
      have HR2 := hidD ((hb.block _ (row_lt HBX.out)).trans HBX.out)
      obtain ⟨⟨d0, d1, d2⟩, f0, f1, f2⟩ := cells3 HR2.out
      have HOG := hidD (fun g o (he : a2 = some ⟨g, o, none⟩) => own_ge (g := g) (o := o) (by rw [← he]; exact hown))
      obtain ⟨hn2, hnc, hc2, hcell⟩ := by_addr (by_of_own hown)
      rw [HN.out] at hn2
      subst hn2
      have HY2 : Hid (ByAt w2 (.slice a2 n2 c2) b) := by_of_own hown
      clear h1 h2 hb HBO hown hcell
      go_wp2_with fail
      refine bodyPost_ret (res_cell_tmp rfl _ _ w.heap.size _ _ _ (0, 0) rfl (set3 _ _ _ HR2.out)) rfl ?_
      rw [HR.out]
      exact ⟨below3 HB2.out (Nat.le_refl _) _ _ _, rfl⟩
    · have c5i : ¬ (N : Int) < 5 := by omega
      have c5d : decide ((N : Int) < 5) = false := decide_eq_false c5i
      have hn5 : (0 : Int) < N := by omega
      by_cases cn : N = x0 + 5
      · rw [if_neg (by omega)] at HR
        have cni : ((N : Int) != (x0 : Int) + 5) = false := by rw [int_neq, decide_eq_false]; omega
        have HCN := hidD cn
        clear cn
        by_cases ct : T % 256 = 0
        · rw [if_neg (by omega)] at HR
          have cti : ((T : Int) % 256 != 0) = false := by rw [int_neq, decide_eq_false]; omega
          clear ct
          go_wp2_with fail
          go_at_call 109
          refine (HBO.out _).mono ?_
          rintro e w2 ⟨a2, n2, c2, ok, rfl, h1, h2, hb⟩
          obtain ⟨rfl, hown⟩ := h1 b hu
          have HB2 := hidD (Below.next HB1.out hb)
          have HR2 := hidD ((hb.block _ (row_lt HBX.out)).trans HBX.out)
          obtain ⟨⟨d0, d1, d2⟩, f0, f1, f2⟩ := cells3 HR2.out
          have HOG := hidD (fun g o (he : a2 = some ⟨g, o, none⟩) => own_ge (g := g) (o := o) (by rw [← he]; exact hown))
          obtain ⟨hn2, hnc, hc2, hcell⟩ := by_addr (by_of_own hown)
          rw [HN.out] at hn2
          subst hn2
          have HY2 : Hid (ByAt w2 (.slice a2 n2 c2) b) := by_of_own hown
          obtain ⟨g, o, rfl, hg, hcc⟩ := hcell (by omega)
          have HGR : Hid (w.heap.size < g) := by have := HOG.out g o rfl; simp at this; show _ < _; omega
          have q0 := hcc 0 (by omega)
          rw [Nat.add_zero, HX0.out] at q0
          have q3 := hcc 3 (by omega)
          rw [HX3.out] at q3
          clear hcc
          clear h1 h2 hb HBO hown hcell
          go_wp2_with fail
          go_at_call 108
          refine (HT1.out _ _ HY2.out).mono ?_
          rintro e w3 ⟨rfl, hw3⟩
          subst w3
          clear HT1
          go_wp2_with fail
          clear cni cti
          have hkn : n2 ≤ c2 := hnc
          have HKK : Hid (∀ w', Below w2.heap.size w2 w' → ∃ i : KB w2 [g, w.heap.size], w' = i.v) := fun w' hb => ⟨⟨w', fun y hy => by
            simp only [List.mem_cons, List.not_mem_nil, or_false] at hy
            rcases hy with rfl | rfl
            · exact hb.block _ hg
            · exact hb.block _ (row_lt HR2.out)⟩, rfl⟩
          have k3 : ∀ i : KB w2 [g, w.heap.size], i.v.cell? ⟨g, o + 3, none⟩ = some (.int .u8 (x3 : Int)) := fun i => (i.cell (b := g) (by simp) _).trans q3
          have HS1 := hidD (by_sub HY2.out HN.out 1 2 (by omega) hnc hg)
          have HS4 := hidD (by_sub HY2.out HN.out 4 (n2 - 5) (by omega) hnc hg)
          have HN2 := hidD (n2_sub b 1 1 (by rw [HN.out]; omega))
          have HD0 : Hid (Below w2.heap.size w2 w2.drew) := below_drewN (Below.refl _ _) 1
          have HNO1 := hidD (fun w3 (hb : Below w2.heap.size w2 w3) => HNO.out _ _ (by rw [List.length_take, List.length_drop, HN.out]; omega) w3 (HS1.out.next hb))
          rw [HN2.out] at HNO1
          generalize Go.Proofs.YtpemajghaceegaaGreatDoor.n2 b 1 = at1 at *
          clear q0 q3 d0 d1 d2 f0 f1 f2 HNO
          refine wp_region_seg [0, 0, 0, 0, 0, 0, 1, 0, 0, 0, 0, 0, 2, 99, 99] 1 13 [g, w.heap.size] (by kernel_rfl) (by kernel_rfl) (by kernel_rfl) (by kernel_rfl) (by kernel_rfl) (by kernel_rfl) (by kernel_rfl) (by kernel_rfl) (fun _ _ _ _ _ h => h) ?_
          simp only [SegW, pk, Nat.reduceMul, Nat.reduceAdd, Nat.reduceBEq, cond_true, cond_false]
          repeat (go_big_quiet_step (fail))
          refine wpQuiet_nil ?_
          go_wp2_with fail
          go_at_call 110
          refine (HNO1.out _ HD0.out).mono ?_
          rintro e w4 ⟨rfl, hb⟩
          have HB24 := hidD (Below.next HD0.out hb)
          clear hb
          go_wp2_with fail
          refine ⟨HKK.out _ HB24.out, ?_⟩
          have HR4 := hidD ((HB24.out.block _ (row_lt HR2.out)).trans HR2.out)
          obtain ⟨⟨d0, d1, d2⟩, f0, f1, f2⟩ := cells3 HR4.out
          repeat (go_big_quiet_step (fail))
          refine wpQuiet_nil ?_
          go_wp2_with fail
          refine bodyPost_ret (res_cell_tmp rfl _ _ w.heap.size _ _ _ (0, 0) rfl (set3 _ _ _ HR4.out)) rfl ?_
          rw [HR.out]
          have HB4 := Below.next HB2.out HB24.out
          exact ⟨below3 HB4 (Nat.le_refl _) _ _ _, _, congrArg (fun z => Ending.returned (Value.tuple #[Value.agg #[.int .i64 (x3 : Int), .int .i64 (at1 : Int), z], .int .i64 0])) (show Value.slice (some ⟨g, o + 4, none⟩) (n2 - 1 - 4) (c2 - 4) = .slice (some ⟨g, o + 4, none⟩) (n2 - 5) (c2 - 4) by rw [Nat.sub_sub]), by_put3 (HS4.out.next HB24.out) (Nat.ne_of_gt HGR.out), fun g' o' n' c' he => by cases he; exact Nat.le_of_lt HGR.out⟩
        · rw [if_pos ct] at HR
          have cti : ((T : Int) % 256 != 0) = true := by rw [int_neq, decide_eq_true]; omega
          clear ct
          go_wp2_with fail
          go_at_call 109
          refine (HBO.out _).mono ?_
          rintro e w2 ⟨a2, n2, c2, ok, rfl, h1, h2, hb⟩
          obtain ⟨rfl, hown⟩ := h1 b hu
          have HB2 := hidD (Below.next HB1.out hb)
          have HR2 := hidD ((hb.block _ (row_lt HBX.out)).trans HBX.out)
          obtain ⟨⟨d0, d1, d2⟩, f0, f1, f2⟩ := cells3 HR2.out
          have HOG := hidD (fun g o (he : a2 = some ⟨g, o, none⟩) => own_ge (g := g) (o := o) (by rw [← he]; exact hown))
          obtain ⟨hn2, hnc, hc2, hcell⟩ := by_addr (by_of_own hown)
          rw [HN.out] at hn2
          subst hn2
          have HY2 : Hid (ByAt w2 (.slice a2 n2 c2) b) := by_of_own hown
          obtain ⟨g, o, rfl, hg, hcc⟩ := hcell (by omega)
          have HGR : Hid (w.heap.size < g) := by have := HOG.out g o rfl; simp at this; show _ < _; omega
          have q0 := hcc 0 (by omega)
          rw [Nat.add_zero, HX0.out] at q0
          clear hcc
          clear h1 h2 hb HBO hown hcell
          go_wp2_with fail
          go_at_call 108
          refine (HT1.out _ _ HY2.out).mono ?_
          rintro e w3 ⟨rfl, hw3⟩
          subst w3
          clear HT1
          go_wp2_with fail
          refine bodyPost_ret (res_cell_tmp rfl _ _ w.heap.size _ _ _ (0, 0) rfl (set3 _ _ _ HR2.out)) rfl ?_
          rw [HR.out]
          exact ⟨below3 HB2.out (Nat.le_refl _) _ _ _, rfl⟩
      · rw [if_pos (by omega)] at HR
        have cni : ((N : Int) != (x0 : Int) + 5) = true := by rw [int_neq, decide_eq_true]; omega
        have HCN := hidD cn
        clear cn HT1
        go_wp2_with fail
        go_at_call 109
        refine (HBO.out _).mono ?_
        rintro e w2 ⟨a2, n2, c2, ok, rfl, h1, h2, hb⟩
        obtain ⟨rfl, hown⟩ := h1 b hu
        have HB2 := hidD (Below.next HB1.out hb)
        have HR2 := hidD ((hb.block _ (row_lt HBX.out)).trans HBX.out)
        obtain ⟨⟨d0, d1, d2⟩, f0, f1, f2⟩ := cells3 HR2.out
        have HOG := hidD (fun g o (he : a2 = some ⟨g, o, none⟩) => own_ge (g := g) (o := o) (by rw [← he]; exact hown))
        obtain ⟨hn2, hnc, hc2, hcell⟩ := by_addr (by_of_own hown)
        rw [HN.out] at hn2
        subst hn2
        have HY2 : Hid (ByAt w2 (.slice a2 n2 c2) b) := by_of_own hown
        obtain ⟨g, o, rfl, hg, hcc⟩ := hcell (by omega)
        have HGR : Hid (w.heap.size < g) := by have := HOG.out g o rfl; simp at this; show _ < _; omega
        have q0 := hcc 0 (by omega)
        rw [Nat.add_zero, HX0.out] at q0
        clear hcc
        clear h1 h2 hb HBO hown hcell
        go_wp2_with fail
        refine bodyPost_ret (res_cell_tmp rfl _ _ w.heap.size _ _ _ (0, 0) rfl (set3 _ _ _ HR2.out)) rfl ?_
        rw [HR.out]
        exact ⟨below3 HB2.out (Nat.le_refl _) _ _ _, rfl⟩
end Go.Proofs.YtpemajghaceegaaGreatDoor
