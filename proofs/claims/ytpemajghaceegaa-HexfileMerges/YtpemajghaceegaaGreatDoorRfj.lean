/- What the document's Merge answers: its two arrays. -/
import Derived.Test.YtpemajghaceegaaGreatDoorHyn
import Derived.Test.YtpemajghaceegaaGreatDoorHyo
import Derived.Test.YtpemajghaceegaaGreatDoorZer
namespace Go.Proofs.YtpemajghaceegaaGreatDoor
open Go.RowKit
set_option linter.unusedVariables false

/- what is said of each place, in two arrays -/
def HvAt (B : Nat) (f : Int → Option UInt8) (w : World) : Prop :=
  (∃ cs : Array Value, w.heap[B]? = some (.cells cs (111 : TypeId) (0, 0)) ∧ cs.size = 65536 ∧ ∀ p : Nat, p < 65536 → cs[p]? = some (.bool (f p).isSome)) ∧
  ∃ cs : Array Value, w.heap[B + 1]? = some (.cells cs (118 : TypeId) (0, 0)) ∧ cs.size = 65536 ∧ ∀ p : Nat, p < 65536 → cs[p]? = some (.int .u8 (((f p).getD 0).toNat : Int))
theorem HvAt.have {B : Nat} {f : Int → Option UInt8} {w : World} (h : HvAt B f w) (p : Nat) (hp : p < 65536) : w.cell? ⟨B, p, none⟩ = some (.bool (f p).isSome) ∧ w.frozen? ⟨B, p, none⟩ = false := by
  obtain ⟨⟨cs, h1, h2, h3⟩, _⟩ := h
  exact ⟨by rw [cell_of_row _ _ _ _ _ _ h1]; exact h3 p hp, frozen_of_row _ _ _ _ _ h1⟩
theorem HvAt.all {B : Nat} {f : Int → Option UInt8} {w : World} (h : HvAt B f w) (p : Nat) (hp : p < 65536) : w.cell? ⟨B + 1, p, none⟩ = some (.int .u8 (((f p).getD 0).toNat : Int)) ∧ w.frozen? ⟨B + 1, p, none⟩ = false := by
  obtain ⟨_, cs, h1, h2, h3⟩ := h
  exact ⟨by rw [cell_of_row _ _ _ _ _ _ h1]; exact h3 p hp, frozen_of_row _ _ _ _ _ h1⟩
theorem HvAt.lt {B : Nat} {f : Int → Option UInt8} {w : World} (h : HvAt B f w) : B < w.heap.size ∧ B + 1 < w.heap.size := by
  obtain ⟨⟨cs, h1, _⟩, cs2, h2, _⟩ := h
  exact ⟨row_lt h1, row_lt h2⟩
theorem HvAt.keep {B : Nat} {f : Int → Option UInt8} {w w' : World} (h : HvAt B f w) (h1 : w'.heap[B]? = w.heap[B]?) (h2 : w'.heap[B + 1]? = w.heap[B + 1]?) : HvAt B f w' := by
  obtain ⟨⟨cs, a1, a2⟩, cs2, b1, b2⟩ := h
  exact ⟨⟨cs, h1.trans a1, a2⟩, cs2, h2.trans b1, b2⟩
theorem HvAt.congr {B : Nat} {f g : Int → Option UInt8} {w : World} (h : HvAt B f w) (he : ∀ q, f q = g q) : HvAt B g w := by
  have : f = g := funext he
  rwa [← this]
theorem HvAt.put {B : Nat} {f : Int → Option UInt8} {w : World} (h : HvAt B f w) (p : Nat) (b : UInt8) :
    HvAt B (updP f p b) ((w.setCell ⟨B, p, none⟩ (.bool true)).setCell ⟨B + 1, p, none⟩ (.int .u8 (b.toNat : Int))) := by
  obtain ⟨⟨cs, a1, a2, a3⟩, cs2, b1, b2, b3⟩ := h
  refine ⟨⟨cs.setIfInBounds p (.bool true), ?_, by rw [Array.size_setIfInBounds]; exact a2, fun q hq => ?_⟩, cs2.setIfInBounds p (.int .u8 (b.toNat : Int)), ?_, by rw [Array.size_setIfInBounds]; exact b2, fun q hq => ?_⟩
  · rw [heap_setCell_other _ ⟨B + 1, p, none⟩ B _ (by show B ≠ B + 1; omega)]
    exact heap_setCell_same w B p _ _ _ a1
  · rw [Array.getElem?_setIfInBounds]
    unfold updP
    by_cases hqp : p = q
    · subst hqp; rw [if_pos rfl, if_pos (by omega), if_pos rfl]; rfl
    · rw [if_neg hqp, if_neg (by omega)]; exact a3 q hq
  · exact heap_setCell_same _ (B + 1) p _ _ _ ((heap_setCell_other w ⟨B, p, none⟩ (B + 1) _ (by show B + 1 ≠ B; omega)).trans b1)
  · rw [Array.getElem?_setIfInBounds]
    unfold updP
    by_cases hqp : p = q
    · subst hqp; rw [if_pos rfl, if_pos (by omega), if_pos rfl]; rfl
    · rw [if_neg hqp, if_neg (by omega)]; exact b3 q hq
theorem hv_new (w : World) : HvAt w.heap.size (fun _ => none) ((w.alloc (.cells (Array.replicate 65536 (.bool false)) (111 : TypeId))).alloc (.cells (Array.replicate 65536 (.int .u8 0)) (118 : TypeId))) :=
  ⟨⟨_, last0 w _ _, by simp, fun p hp => by rw [Array.getElem?_replicate, if_pos hp]; rfl⟩, _, last1 w _ _, by simp, fun p hp => by rw [Array.getElem?_replicate, if_pos hp]; rfl⟩
theorem fitG_iff {x : Sgc} : fitG x = true ↔ 0 ≤ x.1 ∧ x.1 ≤ 65536 - x.2.2.1 := by unfold fitG; simp
/- how much was laid -/
def LdInv (B : Nat) (D : List Pb) (wr : World) : Prop := D.Pairwise apartP ∧ HvAt B (mpP D) wr
theorem cell_set_other {W : World} {g o g' o' : Nat} {x y : Value} (h : W.cell? ⟨g', o', none⟩ = some y) (hne : g' ≠ g) : (W.setCell ⟨g, o, none⟩ x).cell? ⟨g', o', none⟩ = some y := by
  rw [← h]; simp only [World.cell?, heap_setCell_other W ⟨g, o, none⟩ g' x hne]
theorem frozen_set_other {W : World} {g o g' o' : Nat} {x : Value} {b : Bool} (h : W.frozen? ⟨g', o', none⟩ = b) (hne : g' ≠ g) : (W.setCell ⟨g, o, none⟩ x).frozen? ⟨g', o', none⟩ = b := by
  rw [← h]; simp only [World.frozen?, heap_setCell_other W ⟨g, o, none⟩ g' x hne]
theorem Tryz.infoSd : (Tryz.prog.info? 60).map (fun i => (i.zero, i.size, i.bytes)) = some (some (.agg #[.int .i64 0, .slice none 0 0]), 2, 32) := by kernel_rfl
theorem Tryz.underSd : Tryz.prog.underlying 22 = some (.slice 60) := by kernel_rfl
theorem wpList_append_sd {ops : Array Oper} {rest : List Oper} {o : Oper} {a : Act} {Q : Exit → Act → World → Prop} {w : World} (hgd : o.guard = none) (s x : Operand)
    (ho : o.op = .call { callee := .builtin .append, args := #[s, x], argTypes := #[22, 22] }) (base : Nat) (v : Value) (n : Nat) (xs : List Value)
    (hs : a.eval s = v) (hown : w.ownsRow base 60 2 v n xs) (g : Nat) (u1 u2 : Value) (hx : a.eval x = .slice (some ⟨g, 0, none⟩) 1 1) (hg : w.heap[g]? = some (.cells #[u1, u2] 60 (0, 0))) (h1 : u1.oneCell' = true) (h2 : u2.oneCell' = true)
    (hl : n + 1 ≤ 4398046511104) (hbase : base ≤ w.heap.size)
    (h : ∀ v' w', w'.ownsRow base 60 2 v' (n + 1) (xs ++ [u1, u2]) → w.grownBy w' v.ownBlock → wpList Tryz.prog ops Q rest (a.put o.dst v') w') : wpList Tryz.prog ops Q (o :: rest) a w := by
  obtain ⟨i0, hi, hz0, hz1, hz2⟩ := info_parts Tryz.infoSd
  refine wpList_append_own w hgd s x 22 ho base 60 i0 _ 2 32 Tryz.underSd hi hz0 hz1 hz2 rfl (by decide) v n xs hs hown ⟨g, 0, none⟩ 1 1 [u1, u2] hx rfl (fun j u hu => ?_) (fun u hu => ?_) (by unfold maxLen; omega) (by omega) hbase fun v' w' h1 h2 _ => h v' w' h1 h2
  · rw [Go.WideShapes.add_plain, cell_of_row _ _ _ _ _ _ hg]
    match j, hu with
    | 0, hu => simpa using hu
    | 1, hu => simpa using hu
    | j + 2, hu => simp at hu
  · simp only [List.mem_cons, List.not_mem_nil, or_false] at hu
    rcases hu with rfl | rfl
    · exact h1
    · exact h2
/- how far the runs were told -/
def RnInv (B : Nat) (f : Int → Option UInt8) (wr : World) (l : Value) (p : Nat) : Prop :=
  HvAt B f wr ∧ ∃ T : List Sgb, SegsAt 60 (B + 2) wr l T ∧ LastAt wr T ∧ T.map pbT = runsTo f p ∧ T.length ≤ p ∧ ∀ t ∈ T, t.2.2.length ≤ p
theorem runs_ne {f : Int → Option UInt8} {p : Nat} (h0 : p ≠ 0) (h : f ((p : Int) - 1) ≠ none) : ∃ R m, runsTo f p = R ++ [m] := by
  obtain ⟨q, rfl⟩ : ∃ q, p = q + 1 := ⟨p - 1, by omega⟩
  rw [show ((q + 1 : Nat) : Int) - 1 = (q : Int) by omega] at h
  rw [runsTo]
  cases hq : f (q : Int) with
  | none => exact absurd hq h
  | some b =>
    dsimp only
    by_cases hc : q = 0 ∨ f ((q : Int) - 1) = none
    · rw [if_pos hc]; exact ⟨_, _, rfl⟩
    · rw [if_neg hc]
      obtain ⟨R, m, hm⟩ : ∃ R m, runsTo f q = R ++ [m] := runs_ne (fun h => hc (.inl h)) (fun h => hc (.inr h))
      rw [hm, addL_snoc]
      exact ⟨_, _, rfl⟩
theorem row_block_ne {w : World} {B b : Nat} {e : TypeId} {k n : Nat} {v : Value} {xs : List Value} (h : w.ownsRow B e k v n xs) (hb : b < B) : some b ≠ v.ownBlock := fun hh => by
  have := (row_block h hh.symm).1
  omega
set_option maxRecDepth 100000 in
set_option maxHeartbeats 12800000 in
theorem refMerge_any (v : Value) (L : List Sgc) (Bf : Sgc → List UInt8) (hl : L.length ≤ 4398046510976) (w : World) (h : SgAt w v L)
    (hb : ∀ x ∈ L, ByAt w (slS x) (Bf x)) (hn : ∀ x ∈ L, (Bf x).length ≤ 140737488355328) :
    Calls Tryz.prog 31 #[v] w fun e w' => MgIs 60 (mergeP (L.map (pbS Bf))) e w w' := by
  obtain ⟨a, cap, rfl, hc⟩ := h
  have HC := hidD hc
  have HBY := hidD hb
  have HN := hidD hn
  obtain ⟨P, HP⟩ : ∃ P, Hid (L.map (pbS Bf) = P) := ⟨_, rfl⟩
  obtain ⟨R, HR⟩ : ∃ R, Hid (mergeP P = R) := ⟨_, rfl⟩
  rw [HP.out, HR.out]
  have HPD : Hid (∀ k (hk : k < L.length), P = P.take k ++ pbS Bf L[k] :: P.drop (k + 1)) := fun k hk => by
    have h1 : k < P.length := by rw [← HP.out]; simpa using hk
    have h2 : P[k] = pbS Bf L[k] := by simp only [← HP.out]; simp
    rw [← h2, List.getElem_cons_drop, List.take_append_drop]
  have HPE : Hid (P.take L.length = P) := by show _ = _; rw [← HP.out]; exact List.take_of_length_le (by simp)
  have HPM : Hid (∀ k (hk : k < L.length), pbS Bf L[k] ∈ P) := fun k hk => by rw [← HP.out]; exact List.mem_map_of_mem (List.getElem_mem hk)
  have HLN : Hid (∀ x ∈ L, (Bf x).length = x.2.2.1) := fun x hx => by
    obtain ⟨ea, ec, ee⟩ := (hb x hx).len
    have e2 : Value.slice x.2.1 x.2.2.1 x.2.2.2 = .slice ea (Bf x).length ec := ee
    injection e2 with e3 e4 e5
    exact e4.symm
  have HFP : Hid (∀ x ∈ L, fitP (pbS Bf x) = fitG x) := fun x hx => by unfold fitP fitG pbS; rw [HLN.out x hx]
  have HHV := hidD (hv_new w)
  have HB0 : Hid (Below w.heap.size w ((w.alloc (.cells (Array.replicate 65536 (.bool false)) (111 : TypeId))).alloc (.cells (Array.replicate 65536 (.int .u8 0)) (118 : TypeId)))) := ((Below.refl _ _).alloc (Nat.le_refl _) _).alloc (by simp) _
  clear hc hb hn
  go_enter Tryz.func31, Tryz.ntmps31
  obtain ⟨hz1, hs1⟩ := zero_of_info Tryz.zeroHv
  obtain ⟨hz2, hs2⟩ := zero_of_info Tryz.zeroAl
  go_wp2_with fail
  clear hz1 hs1 hz2 hs2
  generalize ((w.alloc (.cells (Array.replicate 65536 (.bool false)) (111 : TypeId))).alloc (.cells (Array.replicate 65536 (.int .u8 0)) (118 : TypeId))) = W0 at *
  go_loopw [6] (fun i wr => ∃ k : Nat, k ≤ L.length ∧ i = .int .i64 k ∧ (∀ x ∈ L.take k, fitG x = true) ∧ ∃ n, wr = W0.drewN n) (fun i _ => L.length - (intOf i).toNat)
  case atStart => exact ⟨0, Nat.zero_le _, rfl, fun x hx => absurd hx (by simp), 0, rfl⟩
  case round =>
    obtain ⟨k, hk, rfl, hfit, n, rfl⟩ := hrel
    have HFI := hidD hfit
    clear hfit
    by_cases hlt : k < L.length
    · have hlti : (k : Int) < L.length := by omega
      obtain ⟨g, o, rfl, hg, hc0, hc1⟩ := HC.out k hlt
      have HTK : Hid (∀ z, z ∈ L.take (k + 1) → z ∈ L.take k ∨ z = L[k]) := fun z hz => by
        rw [List.take_add_one, List.getElem?_eq_getElem hlt] at hz
        exact (List.mem_append.1 hz).imp id (fun h => by simpa using h)
      have HBAD : Hid (fitG L[k] = false → R = .error 1) := fun hf => by rw [← HR.out]; exact merge_arg (HPM.out k hlt) ((HFP.out _ (List.getElem_mem hlt)).trans hf)
      have hsn : (L[k]).2.2.1 ≤ 140737488355328 := by have := HN.out L[k] (List.getElem_mem hlt); rwa [HLN.out L[k] (List.getElem_mem hlt)] at this
      have k0 := (HB0.out.cell (p := ⟨g, o + k * 2, none⟩) hg).trans hc0
      have k1 := (HB0.out.cell (p := ⟨g, o + k * 2 + 1, none⟩) hg).trans hc1
      obtain ⟨x, HX⟩ : ∃ x, Hid (L[k] = x) := ⟨L[k], hidD rfl⟩
      rw [HX.out] at k0 k1 HTK HBAD hsn
      obtain ⟨sa, sp, sn, sc⟩ := x
      change sn ≤ 140737488355328 at hsn
      have HIF := hidD (fitG_iff (x := (sa, sp, sn, sc)))
      have HFT : Hid (fitG (sa, sp, sn, sc) = true → ∀ z ∈ L.take (k + 1), fitG z = true) := fun hf z hz => (HTK.out z hz).elim (HFI.out z) (fun e => e ▸ hf)
      have e0 : ∀ i : KB (W0.drewN n) [g], i.v.cell? ⟨g, o + k * 2, none⟩ = some (.int .i64 sa) := fun i => (i.cell (b := g) (by simp) _).trans k0
      have e1 : ∀ i : KB (W0.drewN n) [g], i.v.cell? ⟨g, o + k * 2 + 1, none⟩ = some (.slice sp sn sc) := fun i => (i.cell (b := g) (by simp) _).trans k1
      clear hc0 hc1 k0 k1 HTK HFI HX
      have HDN := hidD (below_drewN HB0.out (n + 1))
      by_cases c0 : sa < 0
      · have HRN := hidD (HBAD.out (by rw [← Bool.not_eq_true]; intro h1; have := HIF.out.1 h1; dsimp only at this; omega))
        go_wp2_with fail
        refine wp_region_seg [0, 0, 0, 0, 0, 0, 0, 0, 0, 0, 0, 0, 0, 0, 0, 0, 0, 0, 0, 0, 0, 0, 0, 0, 0, 0, 0, 0, 99] 0 28 [g] (by kernel_rfl) (by kernel_rfl) (by kernel_rfl) (by kernel_rfl) (by kernel_rfl) (by kernel_rfl) (by kernel_rfl) (by kernel_rfl) (fun _ _ _ _ _ h => h) ?_
        simp only [SegW, pk, Nat.reduceMul, Nat.reduceBEq, cond_true, cond_false]
        repeat (go_big_quiet_step (fail))
        refine wpQuiet_nil ?_
        go_wp2_with fail
        go_ret2
        have hrn := HRN.out
        first
          | (rw [hrn]; exact ⟨HDN.out, rfl⟩)
          | exact ⟨HDN.out, rfl⟩
      have d0 : decide (sa < 0) = false := decide_eq_false c0
      by_cases c1 : sa > 65536
      · have HRN := hidD (HBAD.out (by rw [← Bool.not_eq_true]; intro h1; have := HIF.out.1 h1; dsimp only at this; omega))
        go_wp2_with fail
        refine wp_region_seg [0, 0, 0, 0, 0, 0, 0, 0, 0, 0, 0, 0, 0, 0, 0, 0, 0, 0, 0, 0, 0, 0, 0, 0, 0, 0, 0, 0, 99] 0 28 [g] (by kernel_rfl) (by kernel_rfl) (by kernel_rfl) (by kernel_rfl) (by kernel_rfl) (by kernel_rfl) (by kernel_rfl) (by kernel_rfl) (fun _ _ _ _ _ h => h) ?_
        simp only [SegW, pk, Nat.reduceMul, Nat.reduceBEq, cond_true, cond_false]
        repeat (go_big_quiet_step (fail))
        refine wpQuiet_nil ?_
        go_wp2_with fail
        go_ret2
        have hrn := HRN.out
        first
          | (rw [hrn]; exact ⟨HDN.out, rfl⟩)
          | exact ⟨HDN.out, rfl⟩
      have d1 : decide (sa > 65536) = false := decide_eq_false c1
      by_cases c2 : (sn : Int) > 65536 - sa
      · have HRN := hidD (HBAD.out (by rw [← Bool.not_eq_true]; intro h1; have := HIF.out.1 h1; dsimp only at this; omega))
        go_wp2_with fail
        refine wp_region_seg [0, 0, 0, 0, 0, 0, 0, 0, 0, 0, 0, 0, 0, 0, 0, 0, 0, 0, 0, 0, 0, 0, 0, 0, 0, 0, 0, 0, 99] 0 28 [g] (by kernel_rfl) (by kernel_rfl) (by kernel_rfl) (by kernel_rfl) (by kernel_rfl) (by kernel_rfl) (by kernel_rfl) (by kernel_rfl) (fun _ _ _ _ _ h => h) ?_
        simp only [SegW, pk, Nat.reduceMul, Nat.reduceBEq, cond_true, cond_false]
        repeat (go_big_quiet_step (fail))
        refine wpQuiet_nil ?_
        go_wp2_with fail
        go_ret2
        have hrn := HRN.out
        first
          | (rw [hrn]; exact ⟨HDN.out, rfl⟩)
          | exact ⟨HDN.out, rfl⟩
      · have d2 : decide ((sn : Int) > 65536 - sa) = false := decide_eq_false c2
        have HFF := hidD (HFT.out (HIF.out.2 ⟨by dsimp only; omega, by dsimp only; omega⟩))
        go_wp2_with fail
        refine wp_region_seg [0, 0, 0, 0, 0, 0, 0, 0, 0, 0, 0, 0, 0, 0, 0, 0, 0, 0, 0, 0, 0, 0, 0, 0, 0, 0, 0, 0, 99] 0 28 [g] (by kernel_rfl) (by kernel_rfl) (by kernel_rfl) (by kernel_rfl) (by kernel_rfl) (by kernel_rfl) (by kernel_rfl) (by kernel_rfl) (fun _ _ _ _ _ h => h) ?_
        simp only [SegW, pk, Nat.reduceMul, Nat.reduceBEq, cond_true, cond_false]
        repeat (go_big_quiet_step (fail))
        refine wpQuiet_nil ?_
        go_wp2_with fail
        go_roundw
        case rel => exact ⟨k + 1, by omega, by go_num, HFF.out, n + 1, rfl⟩
        case measure => simp [intOf]; omega
    · obtain rfl : k = L.length := by omega
      have HFL : Hid (∀ x ∈ L, fitG x = true) := fun x hx => HFI.out x (by rw [List.take_length]; exact hx)
      have HFQ : Hid (∀ y ∈ P, fitP y = true) := fun y hy => by
        rw [← HP.out] at hy
        obtain ⟨x, hx, rfl⟩ := List.mem_map.1 hy
        rw [HFP.out x hx]; exact HFL.out x hx
      have hlt' : ¬ (L.length : Int) < L.length := by omega
      clear hlt HFI HFP HPM
      go_wp2_with fail
      have HB1 := hidD (below_drewN HB0.out n)
      have HH1 : Hid (HvAt w.heap.size (mpP []) (W0.drewN n)) := HHV.out
      generalize W0.drewN n = W1 at *
      go_loopw [7] (fun i wr => ∃ k : Nat, k ≤ L.length ∧ i = .int .i64 k ∧ Below w.heap.size w wr ∧ LdInv w.heap.size (P.take k) wr) (fun i _ => L.length - (intOf i).toNat)
      case atStart => exact ⟨0, Nat.zero_le _, rfl, HB1.out, List.Pairwise.nil, HH1.out⟩
      case round =>
        obtain ⟨k, hk, rfl, hbel, hap, hhv⟩ := hrel
        have HBW := hidD hbel
        have HAP := hidD hap
        have HHW := hidD hhv
        clear hbel hap hhv
        by_cases hlt : k < L.length
        · have hlti : (k : Int) < L.length := by omega
          obtain ⟨g, o, rfl, hg, hc0, hc1⟩ := HC.out k hlt
          have hfx := fitG_iff.1 (HFL.out L[k] (List.getElem_mem hlt))
          have HPK := hidD (HPD.out k hlt)
          have HBX := hidD (HBY.out L[k] (List.getElem_mem hlt))
          have HLX := hidD (HLN.out L[k] (List.getElem_mem hlt))
          obtain ⟨x, HX⟩ : ∃ x, Hid (L[k] = x) := ⟨L[k], hidD rfl⟩
          rw [HX.out] at hc0 hc1 hfx HPK HBX HLX
          obtain ⟨sa, sp, sn, sc⟩ := x
          change 0 ≤ sa ∧ sa ≤ 65536 - (sn : Int) at hfx
          change Hid ((Bf (sa, sp, sn, sc)).length = sn) at HLX
          obtain ⟨A, rfl⟩ : ∃ A : Nat, sa = (A : Int) := ⟨sa.toNat, by omega⟩
          obtain ⟨bs, HBS⟩ : ∃ bs, Hid (Bf ((A : Int), sp, sn, sc) = bs) := ⟨_, rfl⟩
          have HPX : Hid (pbS Bf ((A : Int), sp, sn, sc) = ((A : Int), bs)) := by show _ = _; unfold pbS; rw [HBS.out]
          rw [HBS.out] at HBX HLX
          rw [HPX.out] at HPK
          have HC0 := hidD hc0
          have HC1 := hidD hc1
          have HGG := hidD hg
          have HTN : Hid (P.take (k + 1) = P.take k ++ [((A : Int), bs)]) := by
            have h1 := HPK.out
            have h2 : k < P.length := by rw [← HP.out]; simpa using hlt
            have h3 : P[k]? = some ((A : Int), bs) := by
              rw [h1, List.getElem?_append_right (by simp; omega)]
              simp [List.length_take, Nat.min_eq_left (Nat.le_of_lt h2)]
            show _ = _
            rw [List.take_add_one, h3]; rfl
          have hfa : A + sn ≤ 65536 := by omega
          have hba : g < w.heap.size := hg
          clear hc0 hc1 HX hg hfx
          have HST := hidD (part_begin (x := ((A : Int), bs)) HAP.out)
          go_wp2_with fail
          go_loopw [8] (fun j wr2 => ∃ m : Nat, m ≤ sn ∧ j = .int .i64 m ∧ Below w.heap.size w wr2 ∧ LdInv w.heap.size (P.take k ++ [partP ((A : Int), bs) m]) wr2) (fun j _ => sn - (intOf j).toNat)
          case atStart => exact ⟨0, Nat.zero_le _, rfl, HBW.out, HST.out.1, HHW.out.congr (fun q => (HST.out.2 q).symm)⟩
          case round =>
            obtain ⟨m, hm, rfl, hbel, hap, hhv⟩ := hrel
            have HBV := hidD hbel
            have HAV := hidD hap
            have HHX := hidD hhv
            have k0 := (HBV.out.cell (p := ⟨g, o + k * 2, none⟩) HGG.out).trans HC0.out
            have k1 := (HBV.out.cell (p := ⟨g, o + k * 2 + 1, none⟩) HGG.out).trans HC1.out
            clear hbel hap hhv
            by_cases hml : m < sn
            · have hmi : (m : Int) < sn := by omega
              obtain ⟨gb, ob, rfl, hgb, hcb⟩ : ∃ gb ob, sp = some ⟨gb, ob, none⟩ ∧ gb < w.heap.size ∧ w.cell? ⟨gb, ob + m, none⟩ = some (.int .u8 ((bs.getD m 0).toNat : Int)) := by
                obtain ⟨ea, ec, ee, _, _, _, h4⟩ := HBX.out
                obtain ⟨gb, ob, h1, h2, h3⟩ := h4 m (by rw [HLX.out]; exact hml)
                have e2 : Value.slice sp sn sc = .slice ea bs.length ec := ee
                injection e2 with e3 e4 e5
                exact ⟨gb, ob, e3.trans h1, h2, h3⟩
              obtain ⟨p, HPP⟩ : ∃ p : Nat, Hid (A + m = p) := ⟨_, rfl⟩
              have hp : p < 65536 := by have := HPP.out; omega
              have hpi : (A : Int) + m = (p : Int) := by have := HPP.out; omega
              have hpq : (p : Int) < 65536 := by omega
              obtain ⟨q0, q1⟩ := HHX.out.have p hp
              by_cases hfree : mpP (P.take k ++ [partP ((A : Int), bs) m]) (p : Int) = none
              · rw [hfree] at q0
                have HSP := hidD (part_step (D := P.take k) (x := ((A : Int), bs)) (j := m) (by show m < bs.length; rw [HLX.out]; exact hml) HAV.out (by show mpP _ ((A : Int) + m) = none; rw [hpi]; exact hfree))
                have q3 := frozen_set_other (g := w.heap.size) (o := p) (x := .bool true) (HHX.out.all p hp).2 (by omega)
                have q4 := (HHX.out.all p hp).1
                have r1 := cell_set_other (g := w.heap.size) (o := p) (x := .bool true) k1 (Nat.ne_of_lt hba)
                have r2 := cell_set_other (g := w.heap.size) (o := p) (x := .bool true) ((HBV.out.cell (p := ⟨gb, ob + m, none⟩) hgb).trans hcb) (Nat.ne_of_lt hgb)
                have HPU := hidD (HHX.out.put p (bs.getD m 0))
                have hby := (bs.getD m 0).toNat_lt
                have HSQ : Hid (∀ q, updP (mpP (P.take k ++ [partP ((A : Int), bs) m])) (p : Int) (bs.getD m 0) q = mpP (P.take k ++ [partP ((A : Int), bs) (m + 1)]) q) := fun q => by
                  have := HSP.out.2 q
                  dsimp only at this
                  rw [hpi] at this
                  exact this.symm
                have HAP2 := hidD HSP.out.1
                clear hcb hfree HSP HHX HAV
                generalize bs.getD m 0 = by0 at *
                go_wp2_with fail
                go_roundw
                case rel => exact ⟨m + 1, by omega, by go_num, (HBV.out.setCell (p := ⟨w.heap.size, p, none⟩) (Nat.le_refl _) (.bool true)).setCell (p := ⟨w.heap.size + 1, p, none⟩) (Nat.le_succ _) (.int .u8 (by0.toNat : Int)), HAP2.out, HPU.out.congr HSQ.out⟩
                case measure => simp [intOf]; omega
              · have HRN : Hid (R = .error 194) := by
                  show _ = _
                  rw [← HR.out]
                  refine merge_over HFQ.out ?_
                  rw [HPK.out]
                  exact part_bad (x := ((A : Int), bs)) (j := m) (by show m < bs.length; rw [HLX.out]; exact hml) (by show mpP _ ((A : Int) + m) ≠ none; rw [hpi]; exact hfree)
                have q2 : (mpP (P.take k ++ [partP ((A : Int), bs) m]) (p : Int)).isSome = true := by
                  cases hv : mpP (P.take k ++ [partP ((A : Int), bs) m]) (p : Int) with
                  | none => exact absurd hv hfree
                  | some b => rfl
                rw [q2] at q0
                clear q2 hfree HHX HAV
                go_wp2_with fail
                go_ret2
                have hrn := HRN.out
                first
                  | (rw [hrn]; exact ⟨HBV.out, rfl⟩)
                  | exact ⟨HBV.out, rfl⟩
            · obtain rfl : m = sn := by omega
              have hml' : ¬ (m : Int) < m := by omega
              have hfull : partP ((A : Int), bs) m = ((A : Int), bs) := by have := part_full ((A : Int), bs); rwa [show ((A : Int), bs).2.length = m from HLX.out] at this
              rw [hfull, ← HTN.out] at HAV HHX
              clear hfull
              go_wp2_with fail
              go_roundw
              case rel => exact ⟨k + 1, by omega, by go_num, HBV.out, HAV.out, HHX.out⟩
              case measure => simp [intOf]; omega
        · obtain rfl : k = L.length := by omega
          rw [HPE.out] at HAP HHW
          have HRS : Hid (R = .ok (runsTo (mpP P) 65536)) := by show _ = _; rw [← HR.out]; exact merge_ok HFQ.out HAP.out
          have hlt' : ¬ (L.length : Int) < L.length := by omega
          obtain ⟨f, HF⟩ : ∃ f, Hid (mpP P = f) := ⟨_, rfl⟩
          rw [HF.out] at HRS HHW
          clear hlt HAP HFQ HFL HC HBY HN HP HR HPD HPE HLN HB0 HHV HB1 HH1
          go_wp2_with fail
          go_loopw [10, 11] (fun l i wr2 => ∃ p : Nat, p ≤ 65536 ∧ i = .int .i64 p ∧ Below w.heap.size w wr2 ∧ RnInv w.heap.size f wr2 l p) (fun _ i _ => 65536 - (intOf i).toNat)
          case atStart => exact ⟨0, by omega, rfl, HBW.out, HHW.out, [], ⟨World.ownsRow_nil _ _ _ _, fun t ht => absurd ht (by simp)⟩, fun T0 t ht => absurd ht (by simp), rfl, Nat.le_refl _, fun t ht => absurd ht (by simp)⟩
          case round =>
            obtain ⟨p, hp, rfl, hbel, hhv, T, hsg, hla, hrt, htp, htl⟩ := hrel
            have HBV := hidD hbel
            have HHX := hidD hhv
            have HSG := hidD hsg
            have HLA := hidD hla
            have HRT := hidD hrt
            have HTL := hidD htl
            obtain ⟨la, lc, rfl⟩ := row_shape hsg.1
            clear hbel hhv hsg hla hrt htl
            by_cases hlt : p < 65536
            · have hlti : (p : Int) < 65536 := by omega
              obtain ⟨q0, -⟩ := HHX.out.have p hlt
              obtain ⟨q4, -⟩ := HHX.out.all p hlt
              obtain ⟨hvl, all⟩ := HHX.out.lt
              have hu : runsTo f (p + 1) = match f p with | none => runsTo f p | some b => if p = 0 ∨ f ((p : Int) - 1) = none then runsTo f p ++ [((p : Int), [b])] else addL (runsTo f p) [b] := rfl
              cases hfp : f (p : Int) with
              | none =>
                rw [hfp] at q0 hu
                have HU := hidD hu
                clear hu hfp q4
                go_wp2_with fail
                go_roundw
                case rel => exact ⟨p + 1, by omega, by go_num, HBV.out, HHX.out, T, HSG.out, HLA.out, by rw [HU.out]; exact HRT.out, by omega, fun t ht => Nat.le_succ_of_le (HTL.out t ht)⟩
                case measure => simp [intOf]; omega
              | some b =>
                rw [hfp] at q0 q4 hu
                have hb256 := b.toNat_lt
                have HU := hidD hu
                clear hu
                by_cases hnew : p = 0 ∨ f ((p : Int) - 1) = none
                · have HU2 : Hid (runsTo f (p + 1) = runsTo f p ++ [((p : Int), [b])]) := by show _ = _; rw [HU.out]; exact if_pos hnew
                  have hgo : ((p : Int) == 0) = true ∨ (((p : Int) == 0) = false ∧ ∃ p' : Nat, p = p' + 1 ∧ f (p' : Int) = none) := by
                    rcases Nat.eq_zero_or_pos p with h0 | h0
                    · left; rw [beq_iff_eq]; omega
                    · right
                      refine ⟨by rw [beq_eq_false_iff_ne]; omega, p - 1, by omega, ?_⟩
                      rcases hnew with h1 | h1
                      · omega
                      · rwa [show ((p - 1 : Nat) : Int) = (p : Int) - 1 by omega]
                  have HFP := hidD hfp
                  have HAL := hidD ((Below.refl wr.heap.size wr).alloc (Nat.le_refl _) (.cells #[.int .i64 (p : Int), .slice none 0 0] (60 : TypeId)))
                  have HL1 := hidD (heap_alloc_last wr (.cells #[.int .i64 (p : Int), .slice none 0 0] (60 : TypeId)))
                  have HLE : Hid (T.length + 1 ≤ 4398046511104) := by show _ ≤ _; omega
                  have HBS : Hid (w.heap.size + 2 ≤ (wr.alloc (.cells #[.int .i64 (p : Int), .slice none 0 0] (60 : TypeId))).heap.size) := by have := HAL.out.size; show _ ≤ _; omega
                  clear HU hfp hnew
                  rcases hgo with hz | ⟨hz, p', hpp, hfp'⟩
                  · skip
                    go_wp2_with (at_builtin; go_loud (refine wpList_append_sd rfl _ _ rfl (w.heap.size + 2) (.slice la T.length lc) T.length (flatB T) rfl (row_below HSG.out.1 HAL.out) wr.heap.size (.int .i64 (p : Int)) (.slice none 0 0) rfl HL1.out rfl rfl HLE.out HBS.out ?_; intro v4 w4 ho4 hg4; have HO4 := hidD ho4; have HG4 := hidD hg4; obtain ⟨g4, c4, rfl, hgb4, hgl4, hgc4⟩ := row_shapeC ho4 (by omega); clear ho4 hg4))
                    have HB4 : Hid (Below w.heap.size w w4) := row_grown (row_mono (row_below HSG.out.1 HAL.out) (Nat.le_add_right _ 2)) (HBV.out.trans (HAL.out.mono HBV.out.size)) HG4.out (Nat.le_trans HBV.out.size HAL.out.size)
                    have HR4 : Hid (∀ t ∈ T, RowB w4 (w.heap.size + 2) t) := fun t ht => rowB_keep (HSG.out.2 t ht) fun b hb => by
                      have h1 := row_block (HSG.out.2 t ht).1 hb
                      exact (HG4.out.block b (Nat.lt_of_lt_of_le h1.2.1 HAL.out.size) (fun hh => blocks_aparE (by decide) (HSG.out.2 t ht).1 HSG.out.1 hb hh.symm rfl)).trans (HAL.out.block b h1.2.1)
                    have HO4' : Hid (w4.ownsRow (w.heap.size + 2) 60 2 (.slice (some ⟨g4, 0, none⟩) (T.length + 1) c4) (T.length + 1) (flatB (T ++ [((p : Int), .slice none 0 0, [])]))) := by show World.ownsRow _ _ _ _ _ _ _; rw [flatB_app]; exact HO4.out
                    have HH4 : Hid (HvAt w.heap.size f w4) := HHX.out.keep ((HG4.out.block _ (Nat.lt_of_lt_of_le hvl HAL.out.size) (row_block_ne HSG.out.1 (by omega))).trans (HAL.out.block _ hvl)) ((HG4.out.block _ (Nat.lt_of_lt_of_le all HAL.out.size) (row_block_ne HSG.out.1 (by omega))).trans (HAL.out.block _ all))
                    obtain ⟨d1, -, hgl4, hgb4⟩ := segs_last HO4'.out rfl
                    have hal : w.heap.size + 1 < w4.heap.size := HH4.out.lt.2
                    have d2 : w4.cell? ⟨w.heap.size + 1, p, none⟩ = some (.int .u8 (b.toNat : Int)) := by have := (HH4.out.all p hlt).1; rwa [HFP.out] at this
                    clear HL1 HAL HO4 HG4 hgc4 q0 q4
                    have HKK : Hid (∀ w', Below w4.heap.size w4 w' → ∃ i : KB w4 [g4, w.heap.size + 1], w' = i.v) := fun w' hb => ⟨⟨w', fun y hy => by
                      simp only [List.mem_cons, List.not_mem_nil, or_false] at hy
                      rcases hy with rfl | rfl
                      · exact hb.block _ hgl4
                      · exact hb.block _ hal⟩, rfl⟩
                    have e1 : ∀ i : KB w4 [g4, w.heap.size + 1], i.v.cell? ⟨g4, T.length * 2 + 1, none⟩ = some (.slice none 0 0) := fun i => (i.cell (b := g4) (by simp) _).trans d1
                    have e2 : ∀ i : KB w4 [g4, w.heap.size + 1], i.v.cell? ⟨w.heap.size + 1, p, none⟩ = some (.int .u8 (b.toNat : Int)) := fun i => (i.cell (b := w.heap.size + 1) (by simp) _).trans d2
                    clear d1 d2
                    refine wp_region_seg [0, 0, 0, 0, 0, 0, 0, 0, 0, 0, 1, 3, 4, 4, 99] 2 14 [g4, w.heap.size + 1] (by kernel_rfl) (by kernel_rfl) (by kernel_rfl) (by kernel_rfl) (by kernel_rfl) (by kernel_rfl) (by kernel_rfl) (by kernel_rfl) (fun _ _ _ _ _ h => h) ?_
                    simp only [SegW, pk, Nat.reduceMul, Nat.reduceAdd, Nat.reduceBEq, cond_true, cond_false]
                    repeat (go_big_quiet_step (fail))
                    refine wpQuiet_nil ?_
                    go_wp2_with fail
                    change (∃ i : KB w4 [g4, w.heap.size + 1], (w4.alloc (.cells #[.int .u8 (b.toNat : Int)] (5 : TypeId))).drew = i.v) ∧ _
                    have HBT : Hid (Below w4.heap.size w4 (w4.alloc (.cells #[.int .u8 (b.toNat : Int)] (5 : TypeId))).drew) := below_drewN ((Below.refl _ _).alloc (Nat.le_refl _) _) 1
                    have HYT : Hid (ByAt (w4.alloc (.cells #[.int .u8 (b.toNat : Int)] (5 : TypeId))).drew (.slice (some ⟨w4.heap.size, 0, none⟩) 1 1) [b]) := (by_one w4 b).next (below_drewN (Below.refl _ _) 1)
                    generalize (w4.alloc (.cells #[.int .u8 (b.toNat : Int)] (5 : TypeId))).drew = wt at *
                    refine ⟨HKK.out _ HBT.out, ?_⟩
                    repeat (go_big_quiet_step (fail))
                    refine wpQuiet_nil ?_
                    refine wpList_append_by rfl _ _ rfl w4.heap.size (.slice none 0 0) 0 [] rfl (World.ownsRow_nil _ _ _ _) (.slice (some ⟨w4.heap.size, 0, none⟩) 1 1) [b] rfl HYT.out (by simp) HBT.out.size ?_
                    intro v5 w5 ho5 hg5
                    rw [Nat.zero_add, List.nil_append] at ho5
                    obtain ⟨gx, cx, rfl, hgx, _, _⟩ := row_shapeC ho5 (by simp)
                    have HO5 : Hid (w5.ownsRow w4.heap.size 5 1 (.slice (some ⟨gx, 0, none⟩) 1 cx) 1 ([b].map encB)) := ho5
                    have HG5 := hidD hg5
                    clear ho5 hg5
                    have HB5 : Hid (Below w4.heap.size w4 w5) := nil_below HBT.out HG5.out HBT.out.size
                    go_wp2_with fail
                    refine ⟨HKK.out _ HB5.out, ?_⟩
                    repeat (go_big_quiet_step (fail))
                    refine wpQuiet_nil ?_
                    have HL5 := hidD (row_keep HO4'.out (fun b hb => HB5.out.block b (row_block HO4'.out hb).2.1))
                    have HH5 : Hid (HvAt w.heap.size f w5) := HH4.out.keep (HB5.out.block _ HH4.out.lt.1) (HB5.out.block _ hal)
                    obtain ⟨d1, f1, -, -⟩ := segs_last HL5.out rfl
                    have HP := hidD (segs_put HL5.out rfl (.slice (some ⟨gx, 0, none⟩) 1 cx) [b])
                    have HHP : Hid (HvAt w.heap.size f (w5.setCell ⟨g4, T.length * 2 + 1, none⟩ (.slice (some ⟨gx, 0, none⟩) 1 cx))) := HH5.out.keep (heap_setCell_other w5 ⟨g4, T.length * 2 + 1, none⟩ _ _ (by show w.heap.size ≠ g4; omega)) (heap_setCell_other w5 ⟨g4, T.length * 2 + 1, none⟩ _ _ (by show w.heap.size + 1 ≠ g4; omega))
                    have HX5 := hidD (row_set (g := g4) (o := T.length * 2 + 1) HO5.out (fun b hb => by have h1 := (row_block HO5.out hb).1; omega) (.slice (some ⟨gx, 0, none⟩) 1 cx))
                    have HR5 : Hid (∀ t ∈ T, RowB (w5.setCell ⟨g4, T.length * 2 + 1, none⟩ (.slice (some ⟨gx, 0, none⟩) 1 cx)) (w.heap.size + 2) t) := fun t ht => rowB_keep (HR4.out t ht) fun b hb => by
                      have h1 := row_block (HR4.out t ht).1 hb
                      exact (heap_setCell_other w5 ⟨g4, T.length * 2 + 1, none⟩ b _ (blocks_aparE (by decide) (HR4.out t ht).1 HO4'.out hb rfl)).trans (HB5.out.block b h1.2.1)
                    have HBL : Hid (∀ t ∈ T, ∀ b, t.2.1.ownBlock = some b → b < w4.heap.size) := fun t ht b hb => (row_block (HR4.out t ht).1 hb).2.1
                    have HB6 := hidD (HB4.out.trans (HB5.out.mono HB4.out.size))
                    have hw4 : w.heap.size + 2 ≤ w4.heap.size := by omega
                    go_wp2_with fail
                    go_roundw
                    case rel =>
                      refine ⟨p + 1, by omega, by go_num, HB6.out.setCell (p := ⟨g4, T.length * 2 + 1, none⟩) (Nat.le_trans (Nat.le_add_right _ 2) hgb4) (.slice (some ⟨gx, 0, none⟩) 1 cx), HHP.out, T ++ [((p : Int), .slice (some ⟨gx, 0, none⟩) 1 cx, [b])], ⟨?_, ?_⟩, ?_, ?_, ?_, ?_⟩
                      · rw [List.length_append, List.length_singleton]; exact HP.out
                      · intro t ht
                        rcases List.mem_append.1 ht with ht | ht
                        · exact HR5.out t ht
                        · rw [List.mem_singleton] at ht
                          subst ht
                          exact ⟨row_mono HX5.out hw4, by show 0 < [b].length; simp⟩
                      · intro T0 t ht
                        obtain ⟨h1, h2⟩ := List.append_inj' ht rfl
                        cases h2
                        subst h1
                        exact ⟨w4.heap.size, HX5.out, HBL.out⟩
                      · rw [HU2.out, List.map_append, HRT.out]; rfl
                      · rw [List.length_append, List.length_singleton]; omega
                      · intro t ht
                        rcases List.mem_append.1 ht with ht | ht
                        · exact Nat.le_succ_of_le (HTL.out t ht)
                        · rw [List.mem_singleton] at ht
                          subst ht
                          show [b].length ≤ p + 1
                          simp
                    case measure => simp [intOf]; omega
                  · have hpm : (p : Int) - 1 = (p' : Int) := by omega
                    have q5 := (HHX.out.have p' (by omega)).1
                    rw [hfp'] at q5
                    have hp'i : (p' : Int) < 65536 := by omega
                    have hp'n : p' < 65536 := by omega
                    clear hfp' hpp
                    go_wp2_with (at_builtin; go_loud (refine wpList_append_sd rfl _ _ rfl (w.heap.size + 2) (.slice la T.length lc) T.length (flatB T) rfl (row_below HSG.out.1 HAL.out) wr.heap.size (.int .i64 (p : Int)) (.slice none 0 0) rfl HL1.out rfl rfl HLE.out HBS.out ?_; intro v4 w4 ho4 hg4; have HO4 := hidD ho4; have HG4 := hidD hg4; obtain ⟨g4, c4, rfl, hgb4, hgl4, hgc4⟩ := row_shapeC ho4 (by omega); clear ho4 hg4))
                    have HB4 : Hid (Below w.heap.size w w4) := row_grown (row_mono (row_below HSG.out.1 HAL.out) (Nat.le_add_right _ 2)) (HBV.out.trans (HAL.out.mono HBV.out.size)) HG4.out (Nat.le_trans HBV.out.size HAL.out.size)
                    have HR4 : Hid (∀ t ∈ T, RowB w4 (w.heap.size + 2) t) := fun t ht => rowB_keep (HSG.out.2 t ht) fun b hb => by
                      have h1 := row_block (HSG.out.2 t ht).1 hb
                      exact (HG4.out.block b (Nat.lt_of_lt_of_le h1.2.1 HAL.out.size) (fun hh => blocks_aparE (by decide) (HSG.out.2 t ht).1 HSG.out.1 hb hh.symm rfl)).trans (HAL.out.block b h1.2.1)
                    have HO4' : Hid (w4.ownsRow (w.heap.size + 2) 60 2 (.slice (some ⟨g4, 0, none⟩) (T.length + 1) c4) (T.length + 1) (flatB (T ++ [((p : Int), .slice none 0 0, [])]))) := by show World.ownsRow _ _ _ _ _ _ _; rw [flatB_app]; exact HO4.out
                    have HH4 : Hid (HvAt w.heap.size f w4) := HHX.out.keep ((HG4.out.block _ (Nat.lt_of_lt_of_le hvl HAL.out.size) (row_block_ne HSG.out.1 (by omega))).trans (HAL.out.block _ hvl)) ((HG4.out.block _ (Nat.lt_of_lt_of_le all HAL.out.size) (row_block_ne HSG.out.1 (by omega))).trans (HAL.out.block _ all))
                    obtain ⟨d1, -, hgl4, hgb4⟩ := segs_last HO4'.out rfl
                    have hal : w.heap.size + 1 < w4.heap.size := HH4.out.lt.2
                    have d2 : w4.cell? ⟨w.heap.size + 1, p, none⟩ = some (.int .u8 (b.toNat : Int)) := by have := (HH4.out.all p hlt).1; rwa [HFP.out] at this
                    clear HL1 HAL HO4 HG4 hgc4 q0 q4
                    have HKK : Hid (∀ w', Below w4.heap.size w4 w' → ∃ i : KB w4 [g4, w.heap.size + 1], w' = i.v) := fun w' hb => ⟨⟨w', fun y hy => by
                      simp only [List.mem_cons, List.not_mem_nil, or_false] at hy
                      rcases hy with rfl | rfl
                      · exact hb.block _ hgl4
                      · exact hb.block _ hal⟩, rfl⟩
                    have e1 : ∀ i : KB w4 [g4, w.heap.size + 1], i.v.cell? ⟨g4, T.length * 2 + 1, none⟩ = some (.slice none 0 0) := fun i => (i.cell (b := g4) (by simp) _).trans d1
                    have e2 : ∀ i : KB w4 [g4, w.heap.size + 1], i.v.cell? ⟨w.heap.size + 1, p, none⟩ = some (.int .u8 (b.toNat : Int)) := fun i => (i.cell (b := w.heap.size + 1) (by simp) _).trans d2
                    clear d1 d2
                    refine wp_region_seg [0, 0, 0, 0, 0, 0, 0, 0, 0, 0, 1, 3, 4, 4, 99] 2 14 [g4, w.heap.size + 1] (by kernel_rfl) (by kernel_rfl) (by kernel_rfl) (by kernel_rfl) (by kernel_rfl) (by kernel_rfl) (by kernel_rfl) (by kernel_rfl) (fun _ _ _ _ _ h => h) ?_
                    simp only [SegW, pk, Nat.reduceMul, Nat.reduceAdd, Nat.reduceBEq, cond_true, cond_false]
                    repeat (go_big_quiet_step (fail))
                    refine wpQuiet_nil ?_
                    go_wp2_with fail
                    change (∃ i : KB w4 [g4, w.heap.size + 1], (w4.alloc (.cells #[.int .u8 (b.toNat : Int)] (5 : TypeId))).drew = i.v) ∧ _
                    have HBT : Hid (Below w4.heap.size w4 (w4.alloc (.cells #[.int .u8 (b.toNat : Int)] (5 : TypeId))).drew) := below_drewN ((Below.refl _ _).alloc (Nat.le_refl _) _) 1
                    have HYT : Hid (ByAt (w4.alloc (.cells #[.int .u8 (b.toNat : Int)] (5 : TypeId))).drew (.slice (some ⟨w4.heap.size, 0, none⟩) 1 1) [b]) := (by_one w4 b).next (below_drewN (Below.refl _ _) 1)
                    generalize (w4.alloc (.cells #[.int .u8 (b.toNat : Int)] (5 : TypeId))).drew = wt at *
                    refine ⟨HKK.out _ HBT.out, ?_⟩
                    repeat (go_big_quiet_step (fail))
                    refine wpQuiet_nil ?_
                    refine wpList_append_by rfl _ _ rfl w4.heap.size (.slice none 0 0) 0 [] rfl (World.ownsRow_nil _ _ _ _) (.slice (some ⟨w4.heap.size, 0, none⟩) 1 1) [b] rfl HYT.out (by simp) HBT.out.size ?_
                    intro v5 w5 ho5 hg5
                    rw [Nat.zero_add, List.nil_append] at ho5
                    obtain ⟨gx, cx, rfl, hgx, _, _⟩ := row_shapeC ho5 (by simp)
                    have HO5 : Hid (w5.ownsRow w4.heap.size 5 1 (.slice (some ⟨gx, 0, none⟩) 1 cx) 1 ([b].map encB)) := ho5
                    have HG5 := hidD hg5
                    clear ho5 hg5
                    have HB5 : Hid (Below w4.heap.size w4 w5) := nil_below HBT.out HG5.out HBT.out.size
                    go_wp2_with fail
                    refine ⟨HKK.out _ HB5.out, ?_⟩
                    repeat (go_big_quiet_step (fail))
                    refine wpQuiet_nil ?_
                    have HL5 := hidD (row_keep HO4'.out (fun b hb => HB5.out.block b (row_block HO4'.out hb).2.1))
                    have HH5 : Hid (HvAt w.heap.size f w5) := HH4.out.keep (HB5.out.block _ HH4.out.lt.1) (HB5.out.block _ hal)
                    obtain ⟨d1, f1, -, -⟩ := segs_last HL5.out rfl
                    have HP := hidD (segs_put HL5.out rfl (.slice (some ⟨gx, 0, none⟩) 1 cx) [b])
                    have HHP : Hid (HvAt w.heap.size f (w5.setCell ⟨g4, T.length * 2 + 1, none⟩ (.slice (some ⟨gx, 0, none⟩) 1 cx))) := HH5.out.keep (heap_setCell_other w5 ⟨g4, T.length * 2 + 1, none⟩ _ _ (by show w.heap.size ≠ g4; omega)) (heap_setCell_other w5 ⟨g4, T.length * 2 + 1, none⟩ _ _ (by show w.heap.size + 1 ≠ g4; omega))
                    have HX5 := hidD (row_set (g := g4) (o := T.length * 2 + 1) HO5.out (fun b hb => by have h1 := (row_block HO5.out hb).1; omega) (.slice (some ⟨gx, 0, none⟩) 1 cx))
                    have HR5 : Hid (∀ t ∈ T, RowB (w5.setCell ⟨g4, T.length * 2 + 1, none⟩ (.slice (some ⟨gx, 0, none⟩) 1 cx)) (w.heap.size + 2) t) := fun t ht => rowB_keep (HR4.out t ht) fun b hb => by
                      have h1 := row_block (HR4.out t ht).1 hb
                      exact (heap_setCell_other w5 ⟨g4, T.length * 2 + 1, none⟩ b _ (blocks_aparE (by decide) (HR4.out t ht).1 HO4'.out hb rfl)).trans (HB5.out.block b h1.2.1)
                    have HBL : Hid (∀ t ∈ T, ∀ b, t.2.1.ownBlock = some b → b < w4.heap.size) := fun t ht b hb => (row_block (HR4.out t ht).1 hb).2.1
                    have HB6 := hidD (HB4.out.trans (HB5.out.mono HB4.out.size))
                    have hw4 : w.heap.size + 2 ≤ w4.heap.size := by omega
                    go_wp2_with fail
                    go_roundw
                    case rel =>
                      refine ⟨p + 1, by omega, by go_num, HB6.out.setCell (p := ⟨g4, T.length * 2 + 1, none⟩) (Nat.le_trans (Nat.le_add_right _ 2) hgb4) (.slice (some ⟨gx, 0, none⟩) 1 cx), HHP.out, T ++ [((p : Int), .slice (some ⟨gx, 0, none⟩) 1 cx, [b])], ⟨?_, ?_⟩, ?_, ?_, ?_, ?_⟩
                      · rw [List.length_append, List.length_singleton]; exact HP.out
                      · intro t ht
                        rcases List.mem_append.1 ht with ht | ht
                        · exact HR5.out t ht
                        · rw [List.mem_singleton] at ht
                          subst ht
                          exact ⟨row_mono HX5.out hw4, by show 0 < [b].length; simp⟩
                      · intro T0 t ht
                        obtain ⟨h1, h2⟩ := List.append_inj' ht rfl
                        cases h2
                        subst h1
                        exact ⟨w4.heap.size, HX5.out, HBL.out⟩
                      · rw [HU2.out, List.map_append, HRT.out]; rfl
                      · rw [List.length_append, List.length_singleton]; omega
                      · intro t ht
                        rcases List.mem_append.1 ht with ht | ht
                        · exact Nat.le_succ_of_le (HTL.out t ht)
                        · rw [List.mem_singleton] at ht
                          subst ht
                          show [b].length ≤ p + 1
                          simp
                    case measure => simp [intOf]; omega
                · skip
                  have HFP := hidD hfp
                  have HU2 := hidD (HU.out.trans (if_neg hnew))
                  have hz : ((p : Int) == 0) = false := by rw [beq_eq_false_iff_ne]; intro h0; exact hnew (.inl (by omega))
                  have hp0 : p ≠ 0 := fun h0 => hnew (.inl h0)
                  obtain ⟨p', hpp⟩ : ∃ p' : Nat, p = p' + 1 := ⟨p - 1, by omega⟩
                  have hpm : (p : Int) - 1 = (p' : Int) := by omega
                  have hfp' : f (p' : Int) ≠ none := fun h0 => hnew (.inr (by rw [hpm]; exact h0))
                  have q5 := (HHX.out.have p' (by omega)).1
                  have q6 : (f (p' : Int)).isSome = true := by
                    cases hv : f (p' : Int) with
                    | none => exact absurd hv hfp'
                    | some b => rfl
                  rw [q6] at q5
                  obtain ⟨T0, t, HT⟩ : ∃ T0 t, Hid (T = T0 ++ [t]) := by
                    rcases List.eq_nil_or_concat T with h0 | ⟨T0, t, h0⟩
                    · obtain ⟨R0, m, hm⟩ := runs_ne hp0 (by rw [hpm]; exact hfp')
                      have := HRT.out
                      rw [h0, hm] at this
                      simp at this
                    · exact ⟨T0, t, hidD (by rw [h0, List.concat_eq_append])⟩
                  have hp'i : (p' : Int) < 65536 := by omega
                  have hp'n : p' < 65536 := by omega
                  have hTl : T.length = T0.length + 1 := by rw [HT.out, List.length_append]; rfl
                  have HU3 : Hid (runsTo f (p + 1) = T0.map pbT ++ [(t.1, t.2.2 ++ [b])]) := by
                    show _ = _
                    rw [HU2.out, ← HRT.out, HT.out, List.map_append]
                    show addL (T0.map pbT ++ [(t.1, t.2.2)]) [b] = _
                    rw [addL_snoc]
                  clear hfp' hpp HU HU2 q6 hnew hfp hp0
                  obtain ⟨b0', hb0', hoth'⟩ := HLA.out T0 t HT.out
                  have HRQ := hidD (HSG.out.2 t (by rw [HT.out]; simp))
                  have HRO : Hid (∀ s ∈ T0, RowB wr (w.heap.size + 2) s) := fun s hs => HSG.out.2 s (by rw [HT.out]; exact List.mem_append_left _ hs)
                  have HTL0 : Hid (∀ s ∈ T0, s.2.2.length ≤ p) := fun s hs => HTL.out s (by rw [HT.out]; exact List.mem_append_left _ hs)
                  have htl : t.2.2.length ≤ p := HTL.out t (by rw [HT.out]; simp)
                  obtain ⟨gt, tc, htv, hgt, hgtl, htc⟩ := row_shapeC HRQ.out.1 HRQ.out.2
                  have hgb : b0' ≤ gt := (row_block hb0' (by rw [htv]; rfl)).1
                  obtain ⟨b0, HB0', hb0t, hb0w⟩ : ∃ b0, Hid (∀ s ∈ T0, ∀ b, s.2.1.ownBlock = some b → b < b0) ∧ b0 ≤ gt ∧ w.heap.size + 2 ≤ b0 := ⟨max b0' (w.heap.size + 2), fun s hs b hb => Nat.lt_of_lt_of_le (hoth' s hs b hb) (Nat.le_max_left _ _), Nat.max_le.2 ⟨hgb, hgt⟩, Nat.le_max_right _ _⟩
                  clear hb0' hoth' hgb
                  have HLR : Hid (wr.ownsRow (w.heap.size + 2) 60 2 (.slice la (T0.length + 1) lc) (T0.length + 1) (flatB (T0 ++ [t]))) := by have := HSG.out.1; rw [hTl, HT.out] at this; exact this
                  obtain ⟨gl, lc', hlv, -, -, -⟩ := row_shapeC HLR.out (by omega)
                  cases hlv
                  rw [hTl]
                  obtain ⟨t1, t2, tb⟩ := t
                  change t2 = .slice (some ⟨gt, 0, none⟩) tb.length tc at htv
                  subst htv
                  change tb.length ≤ p at htl
                  obtain ⟨tn, HTN⟩ : ∃ tn, Hid (tb.length = tn) := ⟨_, rfl⟩
                  rw [HTN.out] at htl
                  have HOT : Hid (wr.ownsRow b0 5 1 (.slice (some ⟨gt, 0, none⟩) tb.length tc) tb.length (tb.map encB)) := row_at HRQ.out.1 HRQ.out.2 (fun b hb => by cases hb; exact hb0t)
                  rw [HTN.out] at HLR HOT
                  have hgla : gl ≠ gt := fun hh => blocks_aparE (by decide) HOT.out HLR.out rfl rfl hh.symm
                  obtain ⟨d1, -, hgl4, hgb4⟩ := segs_last HLR.out rfl
                  have d2 := q4
                  have hT0 : T0.length + 1 ≤ p := by omega
                  have HGT := hidD hgtl
                  have HTQ := hidD hb0t
                  have HTW := hidD hb0w
                  clear HSG HLA HRQ
                  have HKK : Hid (∀ w', Below wr.heap.size wr w' → ∃ i : KB wr [gl, w.heap.size + 1], w' = i.v) := fun w' hb => ⟨⟨w', fun y hy => by
                    simp only [List.mem_cons, List.not_mem_nil, or_false] at hy
                    rcases hy with rfl | rfl
                    · exact hb.block _ hgl4
                    · exact hb.block _ all⟩, rfl⟩
                  have HALL := hidD all
                  have HVL := hidD hvl
                  have HGL := hidD hgl4
                  have HGB := hidD hgb4
                  have e1 : ∀ i : KB wr [gl, w.heap.size + 1], i.v.cell? ⟨gl, T0.length * 2 + 1, none⟩ = some (.slice (some ⟨gt, 0, none⟩) tn tc) := fun i => (i.cell (b := gl) (by simp) _).trans d1
                  have e2 : ∀ i : KB wr [gl, w.heap.size + 1], i.v.cell? ⟨w.heap.size + 1, p, none⟩ = some (.int .u8 (b.toNat : Int)) := fun i => (i.cell (b := w.heap.size + 1) (by simp) _).trans d2
                  clear d1 d2 q4
                  go_wp2_with fail
                  clear q0 q5
                  refine wp_region_seg [0, 0, 0, 0, 0, 0, 0, 0, 0, 0, 1, 3, 4, 4, 99] 2 14 [gl, w.heap.size + 1] (by kernel_rfl) (by kernel_rfl) (by kernel_rfl) (by kernel_rfl) (by kernel_rfl) (by kernel_rfl) (by kernel_rfl) (by kernel_rfl) (fun _ _ _ _ _ h => h) ?_
                  simp only [SegW, pk, Nat.reduceMul, Nat.reduceAdd, Nat.reduceBEq, cond_true, cond_false]
                  repeat (go_big_quiet_step (fail))
                  refine wpQuiet_nil ?_
                  go_wp2_with fail
                  change (∃ i : KB wr [gl, w.heap.size + 1], (wr.alloc (.cells #[.int .u8 (b.toNat : Int)] (5 : TypeId))).drew = i.v) ∧ _
                  have HBT : Hid (Below wr.heap.size wr (wr.alloc (.cells #[.int .u8 (b.toNat : Int)] (5 : TypeId))).drew) := below_drewN ((Below.refl _ _).alloc (Nat.le_refl _) _) 1
                  have HYT : Hid (ByAt (wr.alloc (.cells #[.int .u8 (b.toNat : Int)] (5 : TypeId))).drew (.slice (some ⟨wr.heap.size, 0, none⟩) 1 1) [b]) := (by_one wr b).next (below_drewN (Below.refl _ _) 1)
                  generalize (wr.alloc (.cells #[.int .u8 (b.toNat : Int)] (5 : TypeId))).drew = wt at *
                  refine ⟨HKK.out _ HBT.out, ?_⟩
                  repeat (go_big_quiet_step (fail))
                  refine wpQuiet_nil ?_
                  have HOD := hidD (row_below HOT.out HBT.out)
                  have hwt : b0 ≤ wt.heap.size := by have h1 := HBT.out.size; have h2 := HGT.out; have h3 := HTQ.out; omega
                  refine wpList_append_by rfl _ _ rfl b0 (.slice (some ⟨gt, 0, none⟩) tn tc) tn (tb.map encB) rfl HOD.out (.slice (some ⟨wr.heap.size, 0, none⟩) 1 1) [b] rfl HYT.out (by rw [List.length_singleton]; omega) hwt ?_
                  intro v5 w5 ho5 hg5
                  rw [← List.map_append] at ho5
                  have HNN : Hid (tn + 1 = (tb ++ [b]).length) := by show _ = _; rw [List.length_append, HTN.out]; rfl
                  obtain ⟨gx, cx, rfl, hgx, _, _⟩ := row_shapeC ho5 (by rw [List.length_singleton]; omega)
                  have HO5 : Hid (w5.ownsRow b0 5 1 (.slice (some ⟨gx, 0, none⟩) (tn + 1) cx) (tn + 1) ((tb ++ [b]).map encB)) := ho5
                  have HG5 := hidD hg5
                  clear ho5 hg5
                  rw [List.length_singleton]
                  go_wp2_with fail
                  have HB5 : Hid (Below w.heap.size w w5) := row_grown (row_mono HOD.out (Nat.le_trans (Nat.le_add_right _ 2) HTW.out)) (HBV.out.trans (HBT.out.mono HBV.out.size)) HG5.out (Nat.le_trans HBV.out.size HBT.out.size)
                  have b1 : w5.heap[gl]? = wr.heap[gl]? := (HG5.out.block gl (Nat.lt_of_lt_of_le HGL.out HBT.out.size) (fun hh => hgla (Option.some.inj hh))).trans (HBT.out.block _ HGL.out)
                  have b2 : w5.heap[w.heap.size + 1]? = wr.heap[w.heap.size + 1]? := (HG5.out.block _ (Nat.lt_of_lt_of_le HALL.out HBT.out.size) (fun hh => by have h3 : w.heap.size + 1 = gt := Option.some.inj hh; have h4 := HTQ.out; have h5 := HTW.out; omega)).trans (HBT.out.block _ HALL.out)
                  have b3 : w5.heap[w.heap.size]? = wr.heap[w.heap.size]? := (HG5.out.block _ (Nat.lt_of_lt_of_le HVL.out HBT.out.size) (fun hh => by have h3 : w.heap.size = gt := Option.some.inj hh; have h4 := HTQ.out; have h5 := HTW.out; omega)).trans (HBT.out.block _ HVL.out)
                  have HOB : Hid (∀ s ∈ T0, ∀ b, s.2.1.ownBlock = some b → w5.heap[b]? = wr.heap[b]?) := fun s hs b hb => by
                    have h1 := HB0'.out s hs b hb
                    have h2 := (row_block (HRO.out s hs).1 hb).2.1
                    exact (HG5.out.block b (Nat.lt_of_lt_of_le h2 HBT.out.size) (fun hh => by have h3 : b = gt := Option.some.inj hh; have h4 := HTQ.out; omega)).trans (HBT.out.block _ h2)
                  refine ⟨⟨⟨w5, fun y hy => by
                    simp only [List.mem_cons, List.not_mem_nil, or_false] at hy
                    rcases hy with rfl | rfl
                    · exact b1
                    · exact b2⟩, rfl⟩, ?_⟩
                  repeat (go_big_quiet_step (fail))
                  refine wpQuiet_nil ?_
                  have HL5 := hidD (row_keep HLR.out (fun b hb => by cases hb; exact b1))
                  have HH5 : Hid (HvAt w.heap.size f w5) := HHX.out.keep b3 b2
                  obtain ⟨d1, f1, -, -⟩ := segs_last HL5.out rfl
                  have HP := hidD (segs_put HL5.out rfl (.slice (some ⟨gx, 0, none⟩) (tn + 1) cx) (tb ++ [b]))
                  have HHP : Hid (HvAt w.heap.size f (w5.setCell ⟨gl, T0.length * 2 + 1, none⟩ (.slice (some ⟨gx, 0, none⟩) (tn + 1) cx))) := HH5.out.keep (heap_setCell_other w5 ⟨gl, T0.length * 2 + 1, none⟩ _ _ (by show w.heap.size ≠ gl; have := HGB.out; omega)) (heap_setCell_other w5 ⟨gl, T0.length * 2 + 1, none⟩ _ _ (by show w.heap.size + 1 ≠ gl; have := HGB.out; omega))
                  have HX5 := hidD (row_set (g := gl) (o := T0.length * 2 + 1) HO5.out (fun b hb => blocks_aparE (by decide) HO5.out HL5.out hb rfl) (.slice (some ⟨gx, 0, none⟩) (tn + 1) cx))
                  have HR5 : Hid (∀ s ∈ T0, RowB (w5.setCell ⟨gl, T0.length * 2 + 1, none⟩ (.slice (some ⟨gx, 0, none⟩) (tn + 1) cx)) (w.heap.size + 2) s) := fun s hs => rowB_keep (HRO.out s hs) fun b hb =>
                    (heap_setCell_other w5 ⟨gl, T0.length * 2 + 1, none⟩ b _ (blocks_aparE (by decide) (HRO.out s hs).1 HLR.out hb rfl)).trans (HOB.out s hs b hb)
                  clear b1 b2 b3
                  go_wp2_with fail
                  go_roundw
                  case rel =>
                    refine ⟨p + 1, by omega, by go_num, HB5.out.setCell (p := ⟨gl, T0.length * 2 + 1, none⟩) (Nat.le_trans (Nat.le_add_right _ 2) HGB.out) (.slice (some ⟨gx, 0, none⟩) (tn + 1) cx), HHP.out, T0 ++ [(t1, .slice (some ⟨gx, 0, none⟩) (tn + 1) cx, tb ++ [b])], ⟨?_, ?_⟩, ?_, ?_, ?_, ?_⟩
                    · rw [List.length_append, List.length_singleton]; exact HP.out
                    · intro s hs
                      rcases List.mem_append.1 hs with hs | hs
                      · exact HR5.out s hs
                      · rw [List.mem_singleton] at hs
                        subst hs
                        refine ⟨?_, by show 0 < (tb ++ [b]).length; simp⟩
                        show World.ownsRow _ _ _ _ _ (tb ++ [b]).length _
                        rw [← HNN.out]
                        exact row_mono HX5.out HTW.out
                    · intro T1 s hs
                      obtain ⟨h1, h2⟩ := List.append_inj' hs rfl
                      cases h2
                      subst h1
                      refine ⟨b0, ?_, HB0'.out⟩
                      show World.ownsRow _ _ _ _ _ (tb ++ [b]).length _
                      rw [← HNN.out]
                      exact HX5.out
                    · rw [HU3.out, List.map_append]; rfl
                    · rw [List.length_append, List.length_singleton]; omega
                    · intro s hs
                      rcases List.mem_append.1 hs with hs | hs
                      · exact Nat.le_succ_of_le (HTL0.out s hs)
                      · rw [List.mem_singleton] at hs
                        subst hs
                        show (tb ++ [b]).length ≤ p + 1
                        rw [← HNN.out]; omega
                  case measure => simp [intOf]; omega
            · obtain rfl : p = 65536 := by omega
              have hlt'' : ¬ (65536 : Int) < 65536 := by omega
              clear hlt
              go_wp2_with fail
              go_ret2
              have hrs := HRS.out
              have hs := HSG.out
              have hfin : SegsAt 60 w.heap.size _ _ T := ⟨row_mono hs.1 (Nat.le_add_right _ 2), fun t ht => ⟨row_mono (hs.2 t ht).1 (Nat.le_add_right _ 2), (hs.2 t ht).2⟩⟩
              first
                | (rw [hrs]; exact ⟨HBV.out, _, T, rfl, HRT.out, hfin⟩)
                | (rw [hrs]; exact ⟨HBV.out, _, rfl, T, HRT.out, hfin⟩)
                | exact ⟨HBV.out, _, T, rfl, HRT.out, hfin⟩
                | exact ⟨HBV.out, _, rfl, T, HRT.out, hfin⟩
end Go.Proofs.YtpemajghaceegaaGreatDoor
