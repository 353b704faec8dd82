/- Texts of one proof, one behind the other. -/
import Derived.Test.YtgmbkelmgolkpaaDoorGm
import Derived.Test.YtgmbkelmgolkpaaDoorEqs
import Derived.WalkMore
import Derived.ScopeJumps
/- Rules in memory; what grown answers. -/
namespace Go.Proofs.YtgmbkelmgolkpaaDoor
open Go.RowKit
set_option linter.unusedVariables false

/-- Rules in memory: a left symbol, and right ones. -/
def RuAt (w : World) (v : Value) (R : List (Nat × List Int)) : Prop := ∃ a cap, v = .slice a R.length cap ∧ ∀ k, k < R.length → ∃ g o rv, a = some ⟨g, o, none⟩ ∧ g < w.heap.size ∧ w.cell? ⟨g, o + k * 2, none⟩ = some (.int .i64 ((R.getD k (0, [])).1 : Int)) ∧ w.cell? ⟨g, o + k * 2 + 1, none⟩ = some rv ∧ IlAt w rv (R.getD k (0, [])).2
theorem IlAt.but {w w' : World} {v : Value} {l : List Int} {g : Nat} (h : IlAt w v l) (hb : But g w w') (hg : ∀ b o, (∃ n c, v = .slice (some ⟨b, o, none⟩) n c) → 0 < l.length → b ≠ g) : IlAt w' v l := by
  obtain ⟨a, cap, rfl, h2, h3, h4⟩ := h
  refine ⟨a, cap, rfl, h2, h3, fun k hk => ?_⟩
  obtain ⟨b, o, e1, e2, e3⟩ := h4 k hk
  exact ⟨b, o, e1, Nat.lt_of_lt_of_le e2 hb.bel.size, (hb.cell e2 (hg b o ⟨_, _, by rw [e1]⟩ (by omega))).trans e3⟩
/-- Rules, all of them below a place in memory. -/
theorem RuAt.next {w w' : World} {v : Value} {R : List (Nat × List Int)} (h : RuAt w v R) (hb : Below w.heap.size w w') : RuAt w' v R := by
  obtain ⟨a, cap, rfl, hc⟩ := h
  refine ⟨a, cap, rfl, fun k hk => ?_⟩
  obtain ⟨g, o, rv, h1, h2, h3, h4, h5⟩ := hc k hk
  exact ⟨g, o, rv, h1, Nat.lt_of_lt_of_le h2 hb.size, (hb.cell (p := ⟨g, o + k * 2, none⟩) h2).trans h3, (hb.cell (p := ⟨g, o + k * 2 + 1, none⟩) h2).trans h4, h5.next hb⟩
/-- Symbols of rules are symbols. -/
def RuOk (R : List (Nat × List Int)) (n : Nat) : Prop := ∀ k, k < R.length → (R.getD k (0, [])).1 < n ∧ (R.getD k (0, [])).2.length ≤ 1048576 ∧ ∀ j, j < (R.getD k (0, [])).2.length → ∃ s : Nat, (R.getD k (0, [])).2.getD j 0 = (s : Int) ∧ s < n
/-- One pass: the left symbols of the rules whose right ones are all there. -/
def gpTo (R : List (Nat × List Int)) (M : Nat) : Nat → Nat
  | 0 => M
  | k + 1 => if (R.getD k (0, [])).2.all (fun x => (gpTo R M k).testBit x.toNat) then gpTo R M k ||| 2 ^ (R.getD k (0, [])).1 else gpTo R M k
def gpS (R : List (Nat × List Int)) (M : Nat) : Nat := gpTo R M R.length
def gpIt (R : List (Nat × List Int)) (M : Nat) : Nat → Nat
  | 0 => M
  | j + 1 => gpS R (gpIt R M j)
/-- What is grown: passes until none adds. -/
def GrIs (R : List (Nat × List Int)) (M X : Nat) : Prop := ∃ j, X = gpIt R M j ∧ gpS R X = X
theorem gp_ge (R : List (Nat × List Int)) (M : Nat) : ∀ k, M ≤ gpTo R M k
  | 0 => Nat.le_refl _
  | k + 1 => by
    have := gp_ge R M k
    rw [gpTo]; split
    · exact Nat.le_trans this Nat.left_le_or
    · exact this
theorem gp_top {R : List (Nat × List Int)} {n : Nat} (hR : RuOk R n) (hn : n ≤ 128) {M : Nat} (hM : M < Top) : ∀ k, k ≤ R.length → gpTo R M k < Top
  | 0, _ => hM
  | k + 1, hk => by
    have := gp_top hR hn hM k (by omega)
    rw [gpTo]; split
    · exact or_top this (two_top (by have := (hR k (by omega)).1; omega))
    · exact this
/-- The set that lies in a block. -/
def rdS (w : World) (g : Nat) : Nat := match w.cell? ⟨g, 0, none⟩, w.cell? ⟨g, 1, none⟩ with
  | some (.int _ a), some (.int _ b) => a.toNat + b.toNat * 18446744073709551616
  | _, _ => 0
theorem lw_hw (M : Nat) : lw M + hw M * 18446744073709551616 = M := by
  unfold lw hw
  rw [Nat.mul_comm]; exact Nat.mod_add_div M _
theorem rdS_of {w : World} {g M : Nat} {cs : Array Value} {t : TypeId} (hc : CsAt w g cs t) (h : SetIn cs 0 M) : rdS w g = M := by
  unfold rdS
  rw [hc.cell, hc.cell, h.c0, h.c1]
  simp only [Int.toNat_natCast]
  exact lw_hw M
theorem all_true {l : List Int} {f : Int → Bool} (h : ∀ q, q < l.length → f (l.getD q 0) = true) : l.all f = true := by
  rw [List.all_eq_true]
  intro x hx
  obtain ⟨q, hq, he⟩ := List.mem_iff_getElem.1 hx
  have := h q hq
  rwa [List.getD_eq_getElem?_getD, List.getElem?_eq_getElem hq, Option.getD_some, he] at this
theorem all_false {l : List Int} {f : Int → Bool} {q : Nat} (hq : q < l.length) (h : f (l.getD q 0) = false) : l.all f = false := by
  cases ha : l.all f with
  | false => rfl
  | true =>
    rw [List.all_eq_true] at ha
    have := ha (l.getD q 0) (by rw [List.getD_eq_getElem?_getD, List.getElem?_eq_getElem hq]; exact List.getElem_mem hq)
    rw [h] at this; cases this
def zc : Array Value := #[.int .u64 0, .int .u64 0]
theorem Tryd.zero63 : (Tryd.prog.info? 63).map (fun i => (i.zero, i.size)) = some (some (.agg #[.int .i64 0, .slice none 0 0]), 2) := by kernel_rfl
set_option maxRecDepth 100000 in
set_option maxHeartbeats 6400000 in
theorem grown_any {p : Nat} (R : List (Nat × List Int)) (n : Nat) (hR : RuOk R n) (hn : n ≤ 128) (hRl : R.length ≤ 1048576) (M : Nat) (hM : M < Top) (vr : Value) (w : World) (hp : p < w.heap.size) (hpc : w.cell? ⟨p, 4, none⟩ = some vr) (hr : RuAt w vr R) : Calls Tryd.prog 60 #[.pointer (some ⟨p, 0, none⟩), setV M] w fun e w' => ∃ X, e = .returned (setV X) ∧ X < Top ∧ GrIs R M X ∧ Below w.heap.size w w' := by
  have HRU := hidD hr
  obtain ⟨ar, cr, rfl, hrc⟩ := hr
  have HRC := hidD hrc
  have HRO := hidD hR
  have HGT := hidD (fun M hM k hk => gp_top (R := R) hR hn (M := M) hM k hk)
  have HGE := hidD (fun M k => gp_ge R M k)
  have HGN : Hid (∀ M k, gpTo R M (k + 1) = if (R.getD k (0, [])).2.all (fun x => (gpTo R M k).testBit x.toNat) then gpTo R M k ||| 2 ^ (R.getD k (0, [])).1 else gpTo R M k) := fun M k => rfl
  have HGS : Hid (∀ M, gpS R M = gpTo R M R.length) := fun M => rfl
  obtain ⟨hz, hsz⟩ := zero_of_info Tryd.zero86
  obtain ⟨hz76, hsz76⟩ := zero_of_info Tryd.zero63
  have HCS0 : Hid (CsAt ((w.alloc (.cells #[.int .u64 (lw M : Int), .int .u64 (hw M : Int)] (86 : TypeId))).alloc (.cells #[.int .u64 0, .int .u64 0] (86 : TypeId))) w.heap.size (setC zc 0 M) 86) := by
    have h1 : CsAt (w.alloc (.cells #[.int .u64 (lw M : Int), .int .u64 (hw M : Int)] (86 : TypeId))) w.heap.size (setC zc 0 M) 86 := heap_alloc_last _ _
    exact h1.next ((Below.refl _ _).alloc (Nat.le_refl _) _)
  have HBL0 : Hid (Below w.heap.size w ((w.alloc (.cells #[.int .u64 (lw M : Int), .int .u64 (hw M : Int)] (86 : TypeId))).alloc (.cells #[.int .u64 0, .int .u64 0] (86 : TypeId)))) := ((Below.refl _ _).alloc (Nat.le_refl _) _).alloc (by simp) _
  have HZ0 : Hid (CsAt ((w.alloc (.cells #[.int .u64 (lw M : Int), .int .u64 (hw M : Int)] (86 : TypeId))).alloc (.cells #[.int .u64 0, .int .u64 0] (86 : TypeId))) (w.heap.size + 1) zc 86) := by
    have := heap_alloc_last (w.alloc (.cells #[.int .u64 (lw M : Int), .int .u64 (hw M : Int)] (86 : TypeId))) (.cells #[.int .u64 0, .int .u64 0] (86 : TypeId))
    rw [show (w.alloc (.cells #[.int .u64 (lw M : Int), .int .u64 (hw M : Int)] (86 : TypeId))).heap.size = w.heap.size + 1 by simp] at this
    exact this
  unfold setV
  clear hrc hR
  generalize hRn : R.length = rn at *
  have HRN := hidD hRn
  clear hRn
  go_enter Tryd.func60, Tryd.ntmps60
  go_wp2_with fail
  go_step3
  go_wp2_with fail
  go_step3
  go_wp2_with fail
  generalize hw1 : ((w.alloc (.cells #[.int .u64 (lw M : Int), .int .u64 (hw M : Int)] (86 : TypeId))).alloc (.cells #[.int .u64 0, .int .u64 0] (86 : TypeId))) = w1 at *
  clear hw1
  have HGP : Hid (p < w.heap.size) := hp
  have HPC := hidD hpc
  generalize hgg : w.heap.size = g at *
  have HGG := hidD hgg
  clear hgg
  have HZ1 := hidD HZ0.out
  have HG1 := hidD HZ0.out.lt
  have HIT : Hid (∀ j, gpIt R M j < Top) := fun j => by
    induction j with
    | zero => exact hM
    | succ j ih => exact HGT.out _ ih _ (by first | (rw [HRN.out]; omega) | omega)
  have HINX : Hid (∀ j, gpIt R M (j + 1) = gpTo R (gpIt R M j) rn) := fun j => by
    show gpTo R (gpIt R M j) R.length = _
    rw [HRN.out]
  have HSI : Hid (∀ M, M < Top → SetIn (setC zc 0 M) 0 M) := fun M hM => setC_same (by decide) hM
  have HST : Hid (∀ A B, B < Top → setC (setC zc 0 A) 0 B = setC zc 0 B) := fun A B hB => setC_twice _ 0 A B (by decide) hB
  have HRD : Hid (∀ w' M, M < Top → CsAt w' g (setC zc 0 M) 86 → rdS w' g = M) := fun w' M hM h => rdS_of h (HSI.out M hM)
  go_loopw [5] (fun _ wr => ∃ j : Nat, CsAt wr g (setC zc 0 (gpIt R M j)) 86 ∧ But g w1 wr) (fun _ wr => Top - rdS wr g)
  case atStart => exact ⟨0, HCS0.out, But.refl _ _⟩
  case round =>
    obtain ⟨j, hcs, hbut⟩ := hrel
    obtain ⟨wo, hwo⟩ : ∃ wo, wo = wr := ⟨_, rfl⟩
    subst hwo
    have HCS := hidD hcs
    have HBU := hidD hbut
    have hXT := HIT.out j
    have HXT := hidD hXT
    have f0 : wo.cell? ⟨g, 0, none⟩ = some (.int .u64 (lw (gpIt R M j) : Int)) := (hcs.cell 0).trans (HSI.out _ hXT).c0
    have f1 : wo.cell? ⟨g, 1, none⟩ = some (.int .u64 (hw (gpIt R M j) : Int)) := (hcs.cell 1).trans (HSI.out _ hXT).c1
    have f2 : wo.cell? ⟨p, 4, none⟩ = some (.slice ar rn cr) := (hbut.cell (by have := HBL0.out.size; have := HGG.out; omega) (by omega)).trans ((HBL0.out.cell (p := ⟨p, 4, none⟩) HGP.out).trans HPC.out)
    have HXN := hidD (HINX.out j)
    generalize hX : gpIt R M j = X at *
    have HX := hidD hX
    clear hX hcs hbut
    go_wp2_with fail
    go_step3
    go_wp2_with fail
    have HBN : Hid (Below wo.heap.size wo (((wo.alloc (.cells #[.int .u64 0, .int .u64 0] (86 : TypeId))).setCell ⟨wo.heap.size, 0, none⟩ (.int .u64 (lw X : Int))).setCell ⟨wo.heap.size, 1, none⟩ (.int .u64 (hw X : Int)))) := (((Below.refl _ _).alloc (Nat.le_refl _) _).setCell (p := ⟨wo.heap.size, 0, none⟩) (Nat.le_refl _) _).setCell (p := ⟨wo.heap.size, 1, none⟩) (Nat.le_refl _) _
    have HCB : Hid (CsAt (((wo.alloc (.cells #[.int .u64 0, .int .u64 0] (86 : TypeId))).setCell ⟨wo.heap.size, 0, none⟩ (.int .u64 (lw X : Int))).setCell ⟨wo.heap.size, 1, none⟩ (.int .u64 (hw X : Int))) wo.heap.size (setC zc 0 X) 86) := by
      have h0 : CsAt (wo.alloc (.cells #[.int .u64 0, .int .u64 0] (86 : TypeId))) wo.heap.size zc 86 := heap_alloc_last _ _
      exact (h0.put 0 _).put 1 _
    have HBI : Hid (g ≠ wo.heap.size) := by have := HCS.out.lt; show g ≠ _; omega
    generalize hw4 : (((wo.alloc (.cells #[.int .u64 0, .int .u64 0] (86 : TypeId))).setCell ⟨wo.heap.size, 0, none⟩ (.int .u64 (lw X : Int))).setCell ⟨wo.heap.size, 1, none⟩ (.int .u64 (hw X : Int))) = w4 at *
    clear hw4
    generalize hbk : wo.heap.size = bk at *
    have HBK := hidD hbk
    clear hbk
    have HC4 : Hid (CsAt w4 g (setC zc 0 (gpTo R X 0)) 86) := HCS.out.next (by rw [HBK.out]; exact HBN.out)
    have HB4 : Hid (But g w1 w4) := HBU.out.next (by rw [HBK.out]; exact HBN.out) (by have := HBL0.out.size; have := HGG.out; omega)
    have HGW : Hid (g ≤ w1.heap.size) := by have := HBL0.out.size; have := HGG.out; show _ ≤ _; omega
    have f4 : w4.cell? ⟨p, 4, none⟩ = some (.slice ar rn cr) := (HB4.out.cell (by have := HGW.out; omega) (by omega)).trans ((HBL0.out.cell (p := ⟨p, 4, none⟩) HGP.out).trans HPC.out)
    clear f0 f1 f2
    go_step3
    go_wp2_with fail
    go_loopw [16] (fun i wr => ∃ k : Nat, k ≤ rn ∧ i = .int .i64 k ∧ CsAt wr g (setC zc 0 (gpTo R X k)) 86 ∧ CsAt wr bk (setC zc 0 X) 86 ∧ But g w1 wr) (fun i _ => rn - (intOf i).toNat)
    case atStart => exact ⟨0, Nat.zero_le _, rfl, HC4.out, HCB.out, HB4.out⟩
    case round =>
      obtain ⟨k, hk, rfl, hcs, hcb, hbut⟩ := hrel
      have HCK := hidD hcs
      have HCBK := hidD hcb
      have HBUK := hidD hbut
      have hYT := HGT.out X HXT.out k hk
      have HYT := hidD hYT
      by_cases hlt : k < rn
      · have hlti : (k : Int) < rn := by omega
        obtain ⟨gr, orr, rv, har, hgr, hc1, hc2, hil⟩ := HRC.out k hlt
        obtain ⟨hleft, hrl, hrs⟩ := HRO.out k (by rw [HRN.out]; exact hlt)
        have HILR := hidD hil
        have HRS := hidD hrs
        subst har
        have hcellw : ∀ o', wr.cell? ⟨gr, o', none⟩ = w.cell? ⟨gr, o', none⟩ := fun o' => (hbut.cell (by have := HGW.out; omega) (by omega)).trans (HBL0.out.cell (p := ⟨gr, o', none⟩) hgr)
        have f0 : wr.cell? ⟨gr, orr + k * 2, none⟩ = some (.int .i64 ((R.getD k (0, [])).1 : Int)) := (hcellw _).trans hc1
        have f1 : wr.cell? ⟨gr, orr + k * 2 + 1, none⟩ = some rv := (hcellw _).trans hc2
        obtain ⟨a2, c2, hrv, hrc1, hrc2, hrcell⟩ := hil
        subst hrv
        have HRCL := hidD hrcell
        have HNK := hidD (HGN.out X k)
        have hl128 : (R.getD k (0, [])).1 < 128 := by omega
        have HADD := hidD (fun w' (hc : CsAt w' g (setC zc 0 (gpTo R X k)) 86) => setAdd_cs (gpTo R X k) g 0 _ hl128 w' hc (HSI.out _ hYT))
        rw [HST.out _ _ (or_top hYT (two_top hl128))] at HADD
        have HHAS := hidD (fun s hs w' => setHas_any (gpTo R X k) hYT s hs w')
        have HALL : Hid ((∀ q, q < (R.getD k (0, [])).2.length → (gpTo R X k).testBit ((R.getD k (0, [])).2.getD q 0).toNat = true) → (R.getD k (0, [])).2.all (fun x => (gpTo R X k).testBit x.toNat) = true) := fun h => all_true (f := fun x => (gpTo R X k).testBit x.toNat) h
        have HNAL : Hid (∀ q, q < (R.getD k (0, [])).2.length → (gpTo R X k).testBit ((R.getD k (0, [])).2.getD q 0).toNat = false → (R.getD k (0, [])).2.all (fun x => (gpTo R X k).testBit x.toNat) = false) := fun q hq h => all_false (f := fun x => (gpTo R X k).testBit x.toNat) hq h
        unfold setV at HHAS
        have HY0 := hidD (HSI.out _ hYT).c0
        have HY1 := hidD (HSI.out _ hYT).c1
        obtain ⟨wp, hwp⟩ : ∃ wp, wp = wr := ⟨_, rfl⟩
        subst hwp
        generalize lw (gpTo R X k) = y0 at *
        generalize hw (gpTo R X k) = y1 at *
        generalize hLF : (R.getD k (0, [])).1 = LF at *
        generalize hRR : (R.getD k (0, [])).2 = RR at *
        clear hLF hRR hcs hcb hbut hc1 hc2 hcellw hrs hrcell
        generalize hmm : RR.length = m at *
        have HMM := hidD hmm
        clear hmm
        go_wp2_with fail
        have HB5 : Hid (Below wp.heap.size wp (((wp.alloc (.cells #[.int .i64 0, .slice none 0 0] (63 : TypeId))).setCell ⟨wp.heap.size, 0, none⟩ (.int .i64 (LF : Int))).setCell ⟨wp.heap.size, 1, none⟩ (.slice a2 m c2))) := (((Below.refl _ _).alloc (Nat.le_refl _) _).setCell (p := ⟨wp.heap.size, 0, none⟩) (Nat.le_refl _) _).setCell (p := ⟨wp.heap.size, 1, none⟩) (Nat.le_refl _) _
        have HC5 : Hid (CsAt (((wp.alloc (.cells #[.int .i64 0, .slice none 0 0] (63 : TypeId))).setCell ⟨wp.heap.size, 0, none⟩ (.int .i64 (LF : Int))).setCell ⟨wp.heap.size, 1, none⟩ (.slice a2 m c2)) wp.heap.size #[.int .i64 (LF : Int), .slice a2 m c2] 63) := by
          have h0 : CsAt (wp.alloc (.cells #[.int .i64 0, .slice none 0 0] (63 : TypeId))) wp.heap.size #[.int .i64 0, .slice none 0 0] 63 := heap_alloc_last _ _
          exact (h0.put 0 _).put 1 _
        generalize hw5 : (((wp.alloc (.cells #[.int .i64 0, .slice none 0 0] (63 : TypeId))).setCell ⟨wp.heap.size, 0, none⟩ (.int .i64 (LF : Int))).setCell ⟨wp.heap.size, 1, none⟩ (.slice a2 m c2)) = w5 at *
        clear hw5 f0 f1
        go_loopw [23] (fun i wr => ∃ q : Nat, q ≤ m ∧ i = .int .i64 q ∧ (∀ t, t < q → (gpTo R X k).testBit (RR.getD t 0).toNat = true) ∧ Below wp.heap.size wp wr ∧ Below w5.heap.size w5 wr) (fun i _ => m - (intOf i).toNat)
        case atStart => exact ⟨0, Nat.zero_le _, rfl, fun t ht => absurd ht (by omega), HB5.out, Below.refl _ _⟩
        case round =>
          obtain ⟨q, hq, rfl, hall, hbp, hb5⟩ := hrel
          have HAQ := hidD hall
          have HBP := hidD hbp
          have HBF5 := hidD hb5
          clear hall
          have HCY := hidD (HCK.out.next hbp)
          have HCBY := hidD (HCBK.out.next hbp)
          have HBY : Hid (But g w1 wr) := HBUK.out.next hbp HGW.out
          have f2 : wr.cell? ⟨g, 0, none⟩ = some (.int .u64 (y0 : Int)) := (HCY.out.cell 0).trans HY0.out
          have f3 : wr.cell? ⟨g, 1, none⟩ = some (.int .u64 (y1 : Int)) := (HCY.out.cell 1).trans HY1.out
          by_cases hqt : q < m
          · have hqti : (q : Int) < m := by omega
            obtain ⟨s, hs, hsn⟩ := HRS.out q hqt
            obtain ⟨gs, os, rfl, hgs, hcs2⟩ := HRCL.out q hqt
            rw [hs] at hcs2
            rw [HGG.out] at hgs
            have f4 : wr.cell? ⟨gs, os + q, none⟩ = some (.int .i64 (s : Int)) := (HBY.out.cell (by have := HGW.out; omega) (by omega)).trans ((HBL0.out.cell (p := ⟨gs, os + q, none⟩) hgs).trans hcs2)
            have HHK := hidD (fun w' => HHAS.out s (by omega) w')
            have HTB : Hid ((gpTo R X k).testBit (RR.getD q 0).toNat = (gpTo R X k).testBit s) := by show _ = _; rw [hs, Int.toNat_natCast]
            have HNQ := hidD (HNAL.out q hqt)
            clear hbp hb5 hcs2 hs
            cases hb : (gpTo R X k).testBit s with
            | true =>
              rw [hb] at HHK HTB
              clear hb
              go_wp2_with (go_at_call 64; refine (HHK.out _).mono ?_; rintro e w6 ⟨rfl, hb6⟩; have HB6 := hidD (Below.next HBP.out hb6); have HB7 := hidD (Below.next HBF5.out hb6); clear hb6)
              go_roundw
              case rel => exact ⟨q + 1, by omega, by go_num, fun t ht => by
                by_cases h : t = q
                · rw [h]; exact HTB.out
                · exact HAQ.out t (by omega), HB6.out, HB7.out⟩
              case measure => simp [intOf]; omega
            | false =>
              rw [hb] at HHK HTB
              have HNN := hidD (HNQ.out HTB.out)
              rw [if_neg (by rw [HNN.out]; decide)] at HNK
              clear hb
              go_wp2_with (go_at_call 64; refine (HHK.out _).mono ?_; rintro e w6 ⟨rfl, hb6⟩; have HC6 := hidD (HCY.out.next hb6); have HCB6 := hidD (HCBY.out.next hb6); have HBU6 := hidD (HBY.out.next hb6 HGW.out); clear hb6)
              go_roundw
              case rel => exact ⟨k + 1, by omega, by go_num, by rw [HNK.out]; exact HC6.out, HCB6.out, HBU6.out⟩
              case measure => simp [intOf]; omega
          · obtain rfl : m = q := by omega
            have hA := HALL.out HAQ.out
            rw [if_pos hA] at HNK
            clear hA
            have f5 : wr.cell? ⟨wp.heap.size, 0, none⟩ = some (.int .i64 (LF : Int)) := (hb5.cell (p := ⟨wp.heap.size, 0, none⟩) HC5.out.lt).trans (HC5.out.cell 0)
            have HAD := hidD (HADD.out wr HCY.out)
            clear hbp hb5
            go_wp2_with (go_at_call 92; refine HAD.out.mono ?_; rintro e w6 ⟨rfl, hc6, hb6⟩; have HC6 := hidD hc6; have HCB6 : Hid (CsAt w6 bk (setC zc 0 X) 86) := (hb6.rest bk HCBY.out.lt (fun e => HBI.out e.symm)).trans HCBY.out; have HBU6 := hidD (HBY.out.trans hb6); clear hc6 hb6)
            go_roundw
            case rel => exact ⟨k + 1, by omega, by go_num, by rw [HNK.out]; exact HC6.out, HCB6.out, HBU6.out⟩
            case measure => simp [intOf]; omega
      · obtain rfl : rn = k := by omega
        have f0 : wr.cell? ⟨g, 0, none⟩ = some (.int .u64 (lw (gpTo R X rn) : Int)) := (hcs.cell 0).trans (HSI.out _ hYT).c0
        have f1 : wr.cell? ⟨g, 1, none⟩ = some (.int .u64 (hw (gpTo R X rn) : Int)) := (hcs.cell 1).trans (HSI.out _ hYT).c1
        have f2 : wr.cell? ⟨bk, 0, none⟩ = some (.int .u64 (lw X : Int)) := (hcb.cell 0).trans (HSI.out _ HXT.out).c0
        have f3 : wr.cell? ⟨bk, 1, none⟩ = some (.int .u64 (hw X : Int)) := (hcb.cell 1).trans (HSI.out _ HXT.out).c1
        clear hcs hcb hbut
        have hc5 : CsAt wr (g + 1) zc 86 := (HBUK.out.rest (g + 1) HG1.out (by omega)).trans HZ1.out
        have f4 : wr.cell? ⟨g + 1, 0, none⟩ = some (.int .u64 0) := hc5.cell 0
        have f5 : wr.cell? ⟨g + 1, 1, none⟩ = some (.int .u64 0) := hc5.cell 1
        have g4 := hc5.frz 0
        have g5 := hc5.frz 1
        by_cases heq : gpTo R X rn = X
        · rw [heq] at f0 f1
          have HFX : Hid (GrIs R M X) := ⟨j, HX.out.symm, by show gpTo R X R.length = X; rw [HRN.out]; exact heq⟩
          have heqs : ∀ w', Sem.run Tryd.prog (Op.equalIn 10000 86 (.agg #[.int .u64 (lw X : Int), .int .u64 (hw X : Int)]) (.agg #[.int .u64 (lw X : Int), .int .u64 (hw X : Int)])) w' = .ok true w' := fun w' => by
            have := eqSet (lw X) (hw X) (lw X) (hw X) w'
            simpa using this
          have HXV : Hid (setV X = .agg #[.int .u64 (lw X : Int), .int .u64 (hw X : Int)]) := rfl
          have HBF : Hid (Below g w ((wr.setCell ⟨g + 1, 0, none⟩ (.int .u64 (lw X : Int))).setCell ⟨g + 1, 1, none⟩ (.int .u64 (hw X : Int)))) := ((HBL0.out.trans HBUK.out.bel).setCell (p := ⟨g + 1, 0, none⟩) (Nat.le_succ _) _).setCell (p := ⟨g + 1, 1, none⟩) (Nat.le_succ _) _
          generalize hx0 : lw X = x0 at *
          generalize hx1 : hw X = x1 at *
          have HX0 := hidD hx0
          have HX1 := hidD hx1
          clear heq hx0 hx1
          go_wp2_with fail
          rw [Exit.noGoto_exit]
          go_wp2_with fail
          rw [Exit.noGoto_ret]
          have hc9 : CsAt ((wr.setCell ⟨g + 1, 0, none⟩ (.int .u64 (x0 : Int))).setCell ⟨g + 1, 1, none⟩ (.int .u64 (x1 : Int))) (g + 1) ((zc.setIfInBounds 0 (.int .u64 (x0 : Int))).setIfInBounds 1 (.int .u64 (x1 : Int))) 86 := (hc5.put 0 _).put 1 _
          have e0 := hc9.cell 0
          have e1 := hc9.cell 1
          rw [show ((zc.setIfInBounds 0 (.int .u64 (x0 : Int))).setIfInBounds 1 (.int .u64 (x1 : Int)))[0]? = some (.int .u64 (x0 : Int)) from rfl] at e0
          rw [show ((zc.setIfInBounds 0 (.int .u64 (x0 : Int))).setIfInBounds 1 (.int .u64 (x1 : Int)))[1]? = some (.int .u64 (x1 : Int)) from rfl] at e1
          clear hc9
          generalize ((wr.setCell ⟨g + 1, 0, none⟩ (.int .u64 (x0 : Int))).setCell ⟨g + 1, 1, none⟩ (.int .u64 (x1 : Int))) = w9 at *
          refine bodyPost_ret (v := .agg #[.int .u64 (x0 : Int), .int .u64 (x1 : Int)]) (by simp [results, Tryd.results60, go_sem, e0, e1]) rfl ?_
          exact ⟨X, by rw [HX0.out, HX1.out], HXT.out, HFX.out, by rw [HGG.out]; exact HBF.out⟩
        · have hne : ¬ (lw (gpTo R X rn) = lw X ∧ hw (gpTo R X rn) = hw X) := fun h => heq (by
            have h1 := lw_hw (gpTo R X rn)
            have h2 := lw_hw X
            rw [h.1, h.2] at h1
            exact h1.symm.trans h2)
          have heqs : ∀ w', Sem.run Tryd.prog (Op.equalIn 10000 86 (.agg #[.int .u64 (lw (gpTo R X rn) : Int), .int .u64 (hw (gpTo R X rn) : Int)]) (.agg #[.int .u64 (lw X : Int), .int .u64 (hw X : Int)])) w' = .ok false w' := fun w' => by
            have := eqSet (lw (gpTo R X rn)) (hw (gpTo R X rn)) (lw X) (hw X) w'
            rw [this]
            congr 1
            rw [Bool.and_eq_false_iff]
            by_cases h : lw (gpTo R X rn) = lw X
            · exact .inr (beq_eq_false_iff_ne.2 fun e => hne ⟨h, by omega⟩)
            · exact .inl (beq_eq_false_iff_ne.2 fun e => h (by omega))
          have HLT : Hid (X < gpTo R X rn) := Nat.lt_of_le_of_ne (HGE.out X rn) (fun e => heq e.symm)
          have HR0 : Hid (rdS wr g = gpTo R X rn) := HRD.out wr _ HYT.out HCK.out
          have HR1 : Hid (rdS wo g = X) := HRD.out wo _ HXT.out HCS.out
          have HIE : Hid (gpIt R M (j + 1) = gpTo R X rn) := HXN.out
          generalize lw (gpTo R X rn) = y0 at *
          generalize hw (gpTo R X rn) = y1 at *
          generalize lw X = x0 at *
          generalize hw X = x1 at *
          clear heq hne
          go_wp2_with fail
          rw [Exit.noGoto_normal]
          go_roundw
          case rel =>
            (repeat apply Exists.intro)
            refine And.intro ?_ ?_
            rotate_left
            · rfl
            · exact ⟨j + 1, by rw [HIE.out]; exact HCK.out, HBUK.out⟩
          case measure =>
            have h1 := HLT.out
            have h2 := HYT.out
            have h3 := HR0.out
            have h4 := HR1.out
            simp only [h3, h4]
            omega
end Go.Proofs.YtgmbkelmgolkpaaDoor
/- What upTo answers. -/
namespace Go.Proofs.YtgmbkelmgolkpaaDoor
open Go.RowKit
set_option linter.unusedVariables false

/-- The symbols below a number. -/
def utS : Nat → Nat
  | 0 => 0
  | k + 1 => utS k ||| 2 ^ k
theorem ut_top : ∀ k, k ≤ 128 → utS k < Top
  | 0, _ => by decide
  | k + 1, h => by rw [utS]; exact or_top (ut_top k (by omega)) (two_top (by omega))
theorem ut_bit : ∀ k s, (utS k).testBit s = decide (s < k)
  | 0, s => by simp [utS]
  | k + 1, s => by
    rw [utS, Nat.testBit_or, ut_bit k s, Nat.testBit_two_pow, ← Bool.decide_or]
    congr 1
    exact propext (by omega)
set_option maxRecDepth 100000 in
set_option maxHeartbeats 3200000 in
theorem upTo_any (n : Nat) (hn : n ≤ 128) (w : World) : Calls Tryd.prog 76 #[.int .i64 n] w fun e w' => e = .returned (setV (utS n)) ∧ Below w.heap.size w w' := by
  obtain ⟨hz, hsz⟩ := zero_of_info Tryd.zero86
  have HBL0 : Hid (Below w.heap.size w ((w.alloc (.cells #[.int .u64 0, .int .u64 0] (86 : TypeId))).alloc (.cells #[.int .u64 0, .int .u64 0] (86 : TypeId)))) := ((Below.refl _ _).alloc (Nat.le_refl _) _).alloc (by simp) _
  have HR0 : Hid (CsAt ((w.alloc (.cells #[.int .u64 0, .int .u64 0] (86 : TypeId))).alloc (.cells #[.int .u64 0, .int .u64 0] (86 : TypeId))) w.heap.size zc 86) := by
    have h1 : CsAt (w.alloc (.cells #[.int .u64 0, .int .u64 0] (86 : TypeId))) w.heap.size zc 86 := heap_alloc_last _ _
    exact h1.next ((Below.refl _ _).alloc (Nat.le_refl _) _)
  have HZ0 : Hid (CsAt ((w.alloc (.cells #[.int .u64 0, .int .u64 0] (86 : TypeId))).alloc (.cells #[.int .u64 0, .int .u64 0] (86 : TypeId))) (w.heap.size + 1) (setC zc 0 (utS 0)) 86) := by
    have := heap_alloc_last (w.alloc (.cells #[.int .u64 0, .int .u64 0] (86 : TypeId))) (.cells #[.int .u64 0, .int .u64 0] (86 : TypeId))
    rw [show (w.alloc (.cells #[.int .u64 0, .int .u64 0] (86 : TypeId))).heap.size = w.heap.size + 1 by simp] at this
    exact this
  have HUT := hidD ut_top
  have HSI : Hid (∀ M, M < Top → SetIn (setC zc 0 M) 0 M) := fun M hM => setC_same (by decide) hM
  have HST : Hid (∀ A B, B < Top → setC (setC zc 0 A) 0 B = setC zc 0 B) := fun A B hB => setC_twice _ 0 A B (by decide) hB
  have HUN : Hid (∀ k, utS (k + 1) = utS k ||| 2 ^ k) := fun k => rfl
  go_enter Tryd.func76, Tryd.ntmps76
  go_wp2_with fail
  generalize hw1 : ((w.alloc (.cells #[.int .u64 0, .int .u64 0] (86 : TypeId))).alloc (.cells #[.int .u64 0, .int .u64 0] (86 : TypeId))) = w1 at *
  clear hw1
  generalize hgg : w.heap.size = g at *
  have HGG := hidD hgg
  clear hgg
  go_loopw [6] (fun i wr => ∃ k : Nat, k ≤ n ∧ i = .int .i64 k ∧ CsAt wr (g + 1) (setC zc 0 (utS k)) 86 ∧ But (g + 1) w1 wr) (fun i _ => n - (intOf i).toNat)
  case atStart => exact ⟨0, Nat.zero_le _, rfl, HZ0.out, But.refl _ _⟩
  case round =>
    obtain ⟨k, hk, rfl, hcs, hbut⟩ := hrel
    have HBU := hidD hbut
    have hYT := HUT.out k (by omega)
    have HYT := hidD hYT
    by_cases hlt : k < n
    · have hlti : (k : Int) < n := by omega
      have hAD := setAdd_cs (utS k) (g + 1) 0 k (by omega) wr hcs (HSI.out _ hYT)
      rw [HST.out _ _ (or_top hYT (two_top (by omega))), ← HUN.out] at hAD
      have HAD := hidD hAD
      clear hAD hcs hbut
      go_wp2_with (go_at_call 92; refine HAD.out.mono ?_; rintro e w6 ⟨rfl, hc6, hb6⟩; have HC6 := hidD hc6; have HBU6 := hidD (HBU.out.trans hb6); clear hc6 hb6)
      go_roundw
      case rel => exact ⟨k + 1, by omega, by go_num, HC6.out, HBU6.out⟩
      case measure => simp [intOf]; omega
    · obtain rfl : n = k := by omega
      have f0 : wr.cell? ⟨g + 1, 0, none⟩ = some (.int .u64 (lw (utS n) : Int)) := (hcs.cell 0).trans (HSI.out _ hYT).c0
      have f1 : wr.cell? ⟨g + 1, 1, none⟩ = some (.int .u64 (hw (utS n) : Int)) := (hcs.cell 1).trans (HSI.out _ hYT).c1
      have hc5 : CsAt wr g zc 86 := (HBU.out.rest g HR0.out.lt (by omega)).trans HR0.out
      have f4 : wr.cell? ⟨g, 0, none⟩ = some (.int .u64 0) := hc5.cell 0
      have f5 : wr.cell? ⟨g, 1, none⟩ = some (.int .u64 0) := hc5.cell 1
      have g4 := hc5.frz 0
      have g5 := hc5.frz 1
      have HBF : Hid (Below g w ((wr.setCell ⟨g, 0, none⟩ (.int .u64 (lw (utS n) : Int))).setCell ⟨g, 1, none⟩ (.int .u64 (hw (utS n) : Int)))) := ((HBL0.out.trans (HBU.out.bel.mono (Nat.le_succ _))).setCell (p := ⟨g, 0, none⟩) (Nat.le_refl _) _).setCell (p := ⟨g, 1, none⟩) (Nat.le_refl _) _
      have HXV : Hid (setV (utS n) = .agg #[.int .u64 (lw (utS n) : Int), .int .u64 (hw (utS n) : Int)]) := rfl
      generalize lw (utS n) = x0 at *
      generalize hw (utS n) = x1 at *
      clear hcs hbut
      go_wp2_with fail
      have hc9 : CsAt ((wr.setCell ⟨g, 0, none⟩ (.int .u64 (x0 : Int))).setCell ⟨g, 1, none⟩ (.int .u64 (x1 : Int))) g ((zc.setIfInBounds 0 (.int .u64 (x0 : Int))).setIfInBounds 1 (.int .u64 (x1 : Int))) 86 := (hc5.put 0 _).put 1 _
      have e0 := hc9.cell 0
      have e1 := hc9.cell 1
      rw [show ((zc.setIfInBounds 0 (.int .u64 (x0 : Int))).setIfInBounds 1 (.int .u64 (x1 : Int)))[0]? = some (.int .u64 (x0 : Int)) from rfl] at e0
      rw [show ((zc.setIfInBounds 0 (.int .u64 (x0 : Int))).setIfInBounds 1 (.int .u64 (x1 : Int)))[1]? = some (.int .u64 (x1 : Int)) from rfl] at e1
      clear hc9
      generalize ((wr.setCell ⟨g, 0, none⟩ (.int .u64 (x0 : Int))).setCell ⟨g, 1, none⟩ (.int .u64 (x1 : Int))) = w9 at *
      refine bodyPost_ret (v := .agg #[.int .u64 (x0 : Int), .int .u64 (x1 : Int)]) (by simp [results, Tryd.results76, go_sem, e0, e1]) rfl ?_
      exact ⟨by rw [HXV.out], by rw [HGG.out]; exact HBF.out⟩
end Go.Proofs.YtgmbkelmgolkpaaDoor
/- What reached answers. -/
namespace Go.Proofs.YtgmbkelmgolkpaaDoor
open Go.RowKit
set_option linter.unusedVariables false

/-- The first q of these, as a set. -/
def riTo (l : List Int) : Nat → Nat
  | 0 => 0
  | q + 1 => riTo l q ||| 2 ^ (l.getD q 0).toNat
theorem ri_zero (l : List Int) : setC zc 0 (riTo l 0) = #[.int .u64 0, .int .u64 0] := by rw [riTo]; rfl
theorem ri_top {l : List Int} (h : ∀ j, j < l.length → ∃ s : Nat, l.getD j 0 = (s : Int) ∧ s < 128) : ∀ q, q ≤ l.length → riTo l q < Top
  | 0, _ => by show 0 < Top; decide
  | q + 1, hq => by
    obtain ⟨s, hs, h1⟩ := h q (by omega)
    rw [riTo, hs, Int.toNat_natCast]
    exact or_top (ri_top h q (by omega)) (two_top h1)
/-- One pass: the right symbols of the rules whose left one is there and whose right ones are all within. -/
def rpTo (R : List (Nat × List Int)) (W M : Nat) : Nat → Nat
  | 0 => M
  | k + 1 => if (rpTo R W M k).testBit (R.getD k (0, [])).1 && (R.getD k (0, [])).2.all (fun x => W.testBit x.toNat) then rpTo R W M k ||| riTo (R.getD k (0, [])).2 (R.getD k (0, [])).2.length else rpTo R W M k
def rpIt (R : List (Nat × List Int)) (W M : Nat) : Nat → Nat
  | 0 => M
  | j + 1 => rpTo R W (rpIt R W M j) R.length
/-- What is reached: passes until none adds. -/
def ReIs (R : List (Nat × List Int)) (W M X : Nat) : Prop := ∃ j, X = rpIt R W M j ∧ rpTo R W X R.length = X
theorem rp_ge (R : List (Nat × List Int)) (W M : Nat) : ∀ k, M ≤ rpTo R W M k
  | 0 => Nat.le_refl _
  | k + 1 => by
    have := rp_ge R W M k
    rw [rpTo]; split
    · exact Nat.le_trans this Nat.left_le_or
    · exact this
theorem RuOk.ri {R : List (Nat × List Int)} {n : Nat} (hR : RuOk R n) (hn : n ≤ 128) {k : Nat} (hk : k < R.length) : ∀ q, q ≤ (R.getD k (0, [])).2.length → riTo (R.getD k (0, [])).2 q < Top :=
  ri_top fun j hj => by
    obtain ⟨s, h1, h2⟩ := (hR k hk).2.2 j hj
    exact ⟨s, h1, by omega⟩
theorem rp_top {R : List (Nat × List Int)} {n : Nat} (hR : RuOk R n) (hn : n ≤ 128) {W M : Nat} (hM : M < Top) : ∀ k, k ≤ R.length → rpTo R W M k < Top
  | 0, _ => hM
  | k + 1, hk => by
    have := rp_top hR hn (W := W) hM k (by omega)
    rw [rpTo]; split
    · exact or_top this (hR.ri hn (by omega) _ (Nat.le_refl _))
    · exact this
set_option maxRecDepth 100000 in
set_option maxHeartbeats 6400000 in
theorem reached_any {p : Nat} (R : List (Nat × List Int)) (n : Nat) (hR : RuOk R n) (hn : n ≤ 128) (hRl : R.length ≤ 1048576) (st : Nat) (hst : st < 128) (W : Nat) (hW : W < Top) (vr : Value) (w : World) (hp : p < w.heap.size) (hps : w.cell? ⟨p, 3, none⟩ = some (.int .i64 (st : Int))) (hpc : w.cell? ⟨p, 4, none⟩ = some vr) (hr : RuAt w vr R) : Calls Tryd.prog 77 #[.pointer (some ⟨p, 0, none⟩), setV W] w fun e w' => ∃ X, e = .returned (setV X) ∧ X < Top ∧ ReIs R W (2 ^ st) X ∧ Below w.heap.size w w' := by
  have HRU := hidD hr
  obtain ⟨ar, cr, rfl, hrc⟩ := hr
  have HRC := hidD hrc
  have HRO := hidD hR
  have HGT := hidD (fun M hM k hk => rp_top (R := R) hR hn (W := W) (M := M) hM k hk)
  have HRI := hidD (fun k hk => RuOk.ri hR hn (k := k) hk)
  have HGE := hidD (fun M k => rp_ge R W M k)
  have HGN : Hid (∀ M k, rpTo R W M (k + 1) = if (rpTo R W M k).testBit (R.getD k (0, [])).1 && (R.getD k (0, [])).2.all (fun x => W.testBit x.toNat) then rpTo R W M k ||| riTo (R.getD k (0, [])).2 (R.getD k (0, [])).2.length else rpTo R W M k) := fun M k => rfl
  obtain ⟨hz, hsz⟩ := zero_of_info Tryd.zero86
  obtain ⟨hz76, hsz76⟩ := zero_of_info Tryd.zero63
  have hA1 : ∀ w' : World, ∀ b, (w'.alloc b).heap.size = w'.heap.size + 1 := fun w' b => by simp
  have HWI : Hid (CsAt (((w.alloc (.cells #[.int .u64 (lw W : Int), .int .u64 (hw W : Int)] (86 : TypeId))).alloc (.cells #[.int .u64 0, .int .u64 0] (86 : TypeId))).alloc (.cells #[.int .u64 0, .int .u64 0] (86 : TypeId))) w.heap.size (setC zc 0 W) 86) := by
    have h1 : CsAt (w.alloc (.cells #[.int .u64 (lw W : Int), .int .u64 (hw W : Int)] (86 : TypeId))) w.heap.size (setC zc 0 W) 86 := heap_alloc_last _ _
    exact (h1.next ((Below.refl _ _).alloc (Nat.le_refl _) _)).next ((Below.refl _ _).alloc (Nat.le_refl _) _)
  have HBL0 : Hid (Below w.heap.size w (((w.alloc (.cells #[.int .u64 (lw W : Int), .int .u64 (hw W : Int)] (86 : TypeId))).alloc (.cells #[.int .u64 0, .int .u64 0] (86 : TypeId))).alloc (.cells #[.int .u64 0, .int .u64 0] (86 : TypeId)))) := (((Below.refl _ _).alloc (Nat.le_refl _) _).alloc (by simp) _).alloc (by simp; omega) _
  have HZ0 : Hid (CsAt (((w.alloc (.cells #[.int .u64 (lw W : Int), .int .u64 (hw W : Int)] (86 : TypeId))).alloc (.cells #[.int .u64 0, .int .u64 0] (86 : TypeId))).alloc (.cells #[.int .u64 0, .int .u64 0] (86 : TypeId))) (w.heap.size + 1) zc 86) := by
    have h := heap_alloc_last (w.alloc (.cells #[.int .u64 (lw W : Int), .int .u64 (hw W : Int)] (86 : TypeId))) (.cells #[.int .u64 0, .int .u64 0] (86 : TypeId))
    rw [hA1 w] at h
    exact (show CsAt _ _ zc 86 from h).next ((Below.refl _ _).alloc (Nat.le_refl _) _)
  have HS0 : Hid (CsAt (((w.alloc (.cells #[.int .u64 (lw W : Int), .int .u64 (hw W : Int)] (86 : TypeId))).alloc (.cells #[.int .u64 0, .int .u64 0] (86 : TypeId))).alloc (.cells #[.int .u64 0, .int .u64 0] (86 : TypeId))) (w.heap.size + 1 + 1) (setC zc 0 0) 86) := by
    have h := heap_alloc_last ((w.alloc (.cells #[.int .u64 (lw W : Int), .int .u64 (hw W : Int)] (86 : TypeId))).alloc (.cells #[.int .u64 0, .int .u64 0] (86 : TypeId))) (.cells #[.int .u64 0, .int .u64 0] (86 : TypeId))
    rw [hA1 (w.alloc _), hA1 w] at h
    exact h
  clear hA1
  unfold setV
  clear hrc hR
  generalize hRn : R.length = rn at *
  have HRN := hidD hRn
  clear hRn
  have HSI : Hid (∀ M, M < Top → SetIn (setC zc 0 M) 0 M) := fun M hM => setC_same (by decide) hM
  have HST : Hid (∀ A B, B < Top → setC (setC zc 0 A) 0 B = setC zc 0 B) := fun A B hB => setC_twice _ 0 A B (by decide) hB
  have HAD0 := hidD (fun g w' (hc : CsAt w' g (setC zc 0 0) 86) => setAdd_cs 0 g 0 st hst w' hc (HSI.out 0 (by decide)))
  rw [Nat.zero_or, HST.out _ _ (two_top hst)] at HAD0
  have h1 : w.cell? ⟨p, 3, none⟩ = some (.int .i64 (st : Int)) := hps
  have HPS : Hid ((((w.alloc (.cells #[.int .u64 (lw W : Int), .int .u64 (hw W : Int)] (86 : TypeId))).alloc (.cells #[.int .u64 0, .int .u64 0] (86 : TypeId))).alloc (.cells #[.int .u64 0, .int .u64 0] (86 : TypeId))).cell? ⟨p, 3, none⟩ = some (.int .i64 (st : Int))) := (HBL0.out.cell (p := ⟨p, 3, none⟩) hp).trans hps
  clear h1 hps
  have HGP := hidD hp
  have HPC := hidD hpc
  clear hp hpc
  generalize hgg : w.heap.size = g at *
  have HGG := hidD hgg
  have hAD1 := HAD0.out _ _ HS0.out
  have HAD1 := hidD hAD1
  clear hAD1
  have hps3 := HPS.out
  have HIT : Hid (∀ j, rpIt R W (2 ^ st) j < Top) := fun j => by
    induction j with
    | zero => exact two_top hst
    | succ j ih => exact HGT.out _ ih _ (by first | (rw [HRN.out]; omega) | omega)
  have HINX : Hid (∀ j, rpIt R W (2 ^ st) (j + 1) = rpTo R W (rpIt R W (2 ^ st) j) rn) := fun j => by
    show rpTo R W (rpIt R W (2 ^ st) j) R.length = _
    rw [HRN.out]
  have HRD : Hid (∀ w' M, M < Top → CsAt w' (g + 1 + 1) (setC zc 0 M) 86 → rdS w' (g + 1 + 1) = M) := fun w' M hM h => rdS_of h (HSI.out M hM)
  clear hst
  go_enter Tryd.func77, Tryd.ntmps77
  go_wp2_with fail
  go_step3
  go_wp2_with (go_at_call 92; refine HAD1.out.mono ?_; rintro e w2 ⟨rfl, hc2, hb2⟩; have HC2 := hidD hc2; have HB2 := hidD hb2; clear hc2 hb2)
  clear hps3 HPS HAD1 HAD0
  generalize hw1 : (((w.alloc (.cells #[.int .u64 (lw W : Int), .int .u64 (hw W : Int)] (86 : TypeId))).alloc (.cells #[.int .u64 0, .int .u64 0] (86 : TypeId))).alloc (.cells #[.int .u64 0, .int .u64 0] (86 : TypeId))) = w1 at *
  clear hw1 hgg
  have HGW : Hid (g + 1 + 1 ≤ w1.heap.size) := Nat.le_of_lt HS0.out.lt
  go_step3
  go_wp2_with fail
  go_loopw [6] (fun _ wr => ∃ j : Nat, CsAt wr (g + 1 + 1) (setC zc 0 (rpIt R W (2 ^ st) j)) 86 ∧ But (g + 1 + 1) w1 wr) (fun _ wr => Top - rdS wr (g + 1 + 1))
  case atStart => exact ⟨0, HC2.out, HB2.out⟩
  case round =>
    obtain ⟨j, hcs, hbut⟩ := hrel
    obtain ⟨wo, hwo⟩ : ∃ wo, wo = wr := ⟨_, rfl⟩
    subst hwo
    have HCS := hidD hcs
    have HBU := hidD hbut
    have hXT := HIT.out j
    have HXT := hidD hXT
    have f0 : wo.cell? ⟨g + 1 + 1, 0, none⟩ = some (.int .u64 (lw (rpIt R W (2 ^ st) j) : Int)) := (hcs.cell 0).trans (HSI.out _ hXT).c0
    have f1 : wo.cell? ⟨g + 1 + 1, 1, none⟩ = some (.int .u64 (hw (rpIt R W (2 ^ st) j) : Int)) := (hcs.cell 1).trans (HSI.out _ hXT).c1
    have HXN := hidD (HINX.out j)
    generalize hX : rpIt R W (2 ^ st) j = X at *
    have HX := hidD hX
    clear hX hcs hbut
    go_wp2_with fail
    go_step3
    go_wp2_with fail
    have HBN : Hid (Below wo.heap.size wo (((wo.alloc (.cells #[.int .u64 0, .int .u64 0] (86 : TypeId))).setCell ⟨wo.heap.size, 0, none⟩ (.int .u64 (lw X : Int))).setCell ⟨wo.heap.size, 1, none⟩ (.int .u64 (hw X : Int)))) := (((Below.refl _ _).alloc (Nat.le_refl _) _).setCell (p := ⟨wo.heap.size, 0, none⟩) (Nat.le_refl _) _).setCell (p := ⟨wo.heap.size, 1, none⟩) (Nat.le_refl _) _
    have HCB : Hid (CsAt (((wo.alloc (.cells #[.int .u64 0, .int .u64 0] (86 : TypeId))).setCell ⟨wo.heap.size, 0, none⟩ (.int .u64 (lw X : Int))).setCell ⟨wo.heap.size, 1, none⟩ (.int .u64 (hw X : Int))) wo.heap.size (setC zc 0 X) 86) := by
      have h0 : CsAt (wo.alloc (.cells #[.int .u64 0, .int .u64 0] (86 : TypeId))) wo.heap.size zc 86 := heap_alloc_last _ _
      exact (h0.put 0 _).put 1 _
    have HBI : Hid (g + 1 + 1 ≠ wo.heap.size) := by have := HCS.out.lt; show g + 1 + 1 ≠ _; omega
    generalize hw4 : (((wo.alloc (.cells #[.int .u64 0, .int .u64 0] (86 : TypeId))).setCell ⟨wo.heap.size, 0, none⟩ (.int .u64 (lw X : Int))).setCell ⟨wo.heap.size, 1, none⟩ (.int .u64 (hw X : Int))) = w4 at *
    clear hw4
    generalize hbk : wo.heap.size = bk at *
    have HBK := hidD hbk
    clear hbk
    have HC4 : Hid (CsAt w4 (g + 1 + 1) (setC zc 0 (rpTo R W X 0)) 86) := HCS.out.next (by rw [HBK.out]; exact HBN.out)
    have HB4 : Hid (But (g + 1 + 1) w1 w4) := HBU.out.next (by rw [HBK.out]; exact HBN.out) HGW.out
    have f4 : w4.cell? ⟨p, 4, none⟩ = some (.slice ar rn cr) := (HB4.out.cell (by have := HGW.out; have := HGP.out; omega) (by have := HGP.out; omega)).trans ((HBL0.out.cell (p := ⟨p, 4, none⟩) HGP.out).trans HPC.out)
    clear f0 f1
    go_step3
    go_wp2_with fail
    go_loopw [23] (fun i wr => ∃ k : Nat, k ≤ rn ∧ i = .int .i64 k ∧ CsAt wr (g + 1 + 1) (setC zc 0 (rpTo R W X k)) 86 ∧ CsAt wr bk (setC zc 0 X) 86 ∧ But (g + 1 + 1) w1 wr) (fun i _ => rn - (intOf i).toNat)
    case atStart => exact ⟨0, Nat.zero_le _, rfl, HC4.out, HCB.out, HB4.out⟩
    case round =>
      obtain ⟨k, hk, rfl, hcs, hcb, hbut⟩ := hrel
      have HCK := hidD hcs
      have HCBK := hidD hcb
      have HBUK := hidD hbut
      have hYT := HGT.out X HXT.out k hk
      have HYT := hidD hYT
      by_cases hlt : k < rn
      · have hlti : (k : Int) < rn := by omega
        obtain ⟨gr, orr, rv, har, hgr, hc1, hc2, hil⟩ := HRC.out k hlt
        obtain ⟨hleft, hrl, hrs⟩ := HRO.out k (by rw [HRN.out]; exact hlt)
        have HILR := hidD hil
        have HRS := hidD hrs
        subst har
        have hcellw : ∀ o', wr.cell? ⟨gr, o', none⟩ = w.cell? ⟨gr, o', none⟩ := fun o' => (hbut.cell (by have := HGW.out; omega) (by omega)).trans (HBL0.out.cell (p := ⟨gr, o', none⟩) hgr)
        have f0 : wr.cell? ⟨gr, orr + k * 2, none⟩ = some (.int .i64 ((R.getD k (0, [])).1 : Int)) := (hcellw _).trans hc1
        have f1 : wr.cell? ⟨gr, orr + k * 2 + 1, none⟩ = some rv := (hcellw _).trans hc2
        obtain ⟨a2, c2, hrv, hrc1, hrc2, hrcell⟩ := hil
        subst hrv
        have HRCL := hidD hrcell
        have HNK := hidD (HGN.out X k)
        have hl128 : (R.getD k (0, [])).1 < 128 := by omega
        have HRIK := hidD (HRI.out k hlt)
        have HHS := hidD (fun w' => setHas_any (rpTo R W X k) hYT (R.getD k (0, [])).1 hl128 w')
        have HHW := hidD (fun s hs w' => setHas_any W hW s hs w')
        have HALL : Hid ((∀ q, q < (R.getD k (0, [])).2.length → W.testBit ((R.getD k (0, [])).2.getD q 0).toNat = true) → (R.getD k (0, [])).2.all (fun x => W.testBit x.toNat) = true) := fun h => all_true (f := fun x => W.testBit x.toNat) h
        have HNAL : Hid (∀ q, q < (R.getD k (0, [])).2.length → W.testBit ((R.getD k (0, [])).2.getD q 0).toNat = false → (R.getD k (0, [])).2.all (fun x => W.testBit x.toNat) = false) := fun q hq h => all_false (f := fun x => W.testBit x.toNat) hq h
        have HJN : Hid (∀ N w', N < Top → CsAt w' (g + 1 + 1) (setC zc 0 (rpTo R W X k)) 86 → Calls Tryd.prog 68 #[.pointer (some ⟨g + 1 + 1, 0, none⟩), setV N] w' fun e w'' => e = .returned (.tuple #[]) ∧ CsAt w'' (g + 1 + 1) (setC zc 0 (rpTo R W X k ||| N)) 86 ∧ But (g + 1 + 1) w' w'') := fun N w' hN hc => by
          have := setJoin_any (rpTo R W X k) N (g + 1 + 1) 0 hN w' hc (HSI.out _ HYT.out)
          rw [HST.out _ _ (or_top HYT.out hN)] at this
          exact this
        unfold setV at HHS HHW HJN
        have HY0 := hidD (HSI.out _ hYT).c0
        have HY1 := hidD (HSI.out _ hYT).c1
        have HW0 := hidD (HSI.out _ hW).c0
        have HW1 := hidD (HSI.out _ hW).c1
        obtain ⟨wp, hwp⟩ : ∃ wp, wp = wr := ⟨_, rfl⟩
        subst hwp
        generalize lw (rpTo R W X k) = y0 at *
        generalize hw (rpTo R W X k) = y1 at *
        generalize lw W = u0 at *
        generalize hw W = u1 at *
        generalize hLF : (R.getD k (0, [])).1 = LF at *
        generalize hRR : (R.getD k (0, [])).2 = RR at *
        clear hLF hRR hcs hcb hbut hc1 hc2 hcellw hrs hrcell
        generalize hmm : RR.length = m at *
        have HMM := hidD hmm
        clear hmm
        have HB5 : Hid (Below wp.heap.size wp (((wp.alloc (.cells #[.int .i64 0, .slice none 0 0] (63 : TypeId))).setCell ⟨wp.heap.size, 0, none⟩ (.int .i64 (LF : Int))).setCell ⟨wp.heap.size, 1, none⟩ (.slice a2 m c2))) := (((Below.refl _ _).alloc (Nat.le_refl _) _).setCell (p := ⟨wp.heap.size, 0, none⟩) (Nat.le_refl _) _).setCell (p := ⟨wp.heap.size, 1, none⟩) (Nat.le_refl _) _
        have HC5 : Hid (CsAt (((wp.alloc (.cells #[.int .i64 0, .slice none 0 0] (63 : TypeId))).setCell ⟨wp.heap.size, 0, none⟩ (.int .i64 (LF : Int))).setCell ⟨wp.heap.size, 1, none⟩ (.slice a2 m c2)) wp.heap.size #[.int .i64 (LF : Int), .slice a2 m c2] 63) := by
          have h0 : CsAt (wp.alloc (.cells #[.int .i64 0, .slice none 0 0] (63 : TypeId))) wp.heap.size #[.int .i64 0, .slice none 0 0] 63 := heap_alloc_last _ _
          exact (h0.put 0 _).put 1 _
        have HCS5 := hidD (HCK.out.next HB5.out)
        have HCB5 := hidD (HCBK.out.next HB5.out)
        have HBU5 := hidD (HBUK.out.next HB5.out HGW.out)
        have f2 : (((wp.alloc (.cells #[.int .i64 0, .slice none 0 0] (63 : TypeId))).setCell ⟨wp.heap.size, 0, none⟩ (.int .i64 (LF : Int))).setCell ⟨wp.heap.size, 1, none⟩ (.slice a2 m c2)).cell? ⟨g + 1 + 1, 0, none⟩ = some (.int .u64 (y0 : Int)) := (HCS5.out.cell 0).trans HY0.out
        have f3 : (((wp.alloc (.cells #[.int .i64 0, .slice none 0 0] (63 : TypeId))).setCell ⟨wp.heap.size, 0, none⟩ (.int .i64 (LF : Int))).setCell ⟨wp.heap.size, 1, none⟩ (.slice a2 m c2)).cell? ⟨g + 1 + 1, 1, none⟩ = some (.int .u64 (y1 : Int)) := (HCS5.out.cell 1).trans HY1.out
        have f4 : (((wp.alloc (.cells #[.int .i64 0, .slice none 0 0] (63 : TypeId))).setCell ⟨wp.heap.size, 0, none⟩ (.int .i64 (LF : Int))).setCell ⟨wp.heap.size, 1, none⟩ (.slice a2 m c2)).cell? ⟨wp.heap.size, 0, none⟩ = some (.int .i64 (LF : Int)) := HC5.out.cell 0
        have HH5 := hidD (HHS.out (((wp.alloc (.cells #[.int .i64 0, .slice none 0 0] (63 : TypeId))).setCell ⟨wp.heap.size, 0, none⟩ (.int .i64 (LF : Int))).setCell ⟨wp.heap.size, 1, none⟩ (.slice a2 m c2)))
        have HL5 := hidD HC5.out.lt
        cases hb : (rpTo R W X k).testBit LF with
        | false =>
          rw [hb] at HH5 HNK
          rw [Bool.false_and, if_neg (by decide)] at HNK
          clear hb
          go_wp2_with (go_at_call 64; refine HH5.out.mono ?_; rintro e w6 ⟨rfl, hb6⟩; have HC6 := hidD (HCS5.out.next hb6); have HCB6 := hidD (HCB5.out.next hb6); have HBU6 := hidD (HBU5.out.next hb6 HGW.out); clear hb6)
          go_roundw
          case rel => exact ⟨k + 1, by omega, by go_num, by rw [HNK.out]; exact HC6.out, HCB6.out, HBU6.out⟩
          case measure => simp [intOf]; omega
        | true =>
          rw [hb] at HH5 HNK
          rw [Bool.true_and] at HNK
          clear hb
          go_wp2_with (go_at_call 64; refine HH5.out.mono ?_; rintro e w6 ⟨rfl, hb6⟩; have f6 : w6.cell? ⟨wp.heap.size, 1, none⟩ = some (.slice a2 m c2) := (hb6.cell (p := ⟨wp.heap.size, 1, none⟩) HL5.out).trans (HC5.out.cell 1); have f6a : (w6.alloc (.cells #[.int .u64 0, .int .u64 0] (86 : TypeId))).cell? ⟨wp.heap.size, 1, none⟩ = some (.slice a2 m c2) := (((Below.refl _ w6).alloc (Nat.le_refl _) _).cell (p := ⟨wp.heap.size, 1, none⟩) (Nat.lt_of_lt_of_le HL5.out hb6.size)).trans f6; have HB6 := hidD (Below.next HB5.out hb6); have HHR := hidD (Nat.lt_of_lt_of_le HL5.out hb6.size); clear hb6 f2 f3 f4)
          clear f6 f6a
          have HR6 : Hid (CsAt (w6.alloc (.cells #[.int .u64 0, .int .u64 0] (86 : TypeId))) w6.heap.size (setC zc 0 (riTo RR 0)) 86) := by
            rw [ri_zero]
            exact heap_alloc_last w6 (.cells #[.int .u64 0, .int .u64 0] (86 : TypeId))
          have HB7 : Hid (Below wp.heap.size wp (w6.alloc (.cells #[.int .u64 0, .int .u64 0] (86 : TypeId)))) := Below.next HB6.out ((Below.refl _ _).alloc (Nat.le_refl _) _)
          generalize hw7 : w6.alloc (.cells #[.int .u64 0, .int .u64 0] (86 : TypeId)) = w7 at *
          clear hw7
          generalize hhr : w6.heap.size = hr at *
          clear hhr
          go_loopw [35] (fun i wr => ∃ q : Nat, q ≤ m ∧ i = .int .i64 q ∧ (∀ t, t < q → W.testBit (RR.getD t 0).toNat = true) ∧ CsAt wr hr (setC zc 0 (riTo RR q)) 86 ∧ Below wp.heap.size wp wr) (fun i _ => m - (intOf i).toNat)
          case atStart => exact ⟨0, Nat.zero_le _, rfl, fun t ht => absurd ht (by omega), HR6.out, HB7.out⟩
          case round =>
            obtain ⟨q, hq, rfl, hall, hrr, hbp⟩ := hrel
            have HAQ := hidD hall
            have HBP := hidD hbp
            have HRR := hidD hrr
            clear hall
            have HCY := hidD (HCK.out.next hbp)
            have HCBY := hidD (HCBK.out.next hbp)
            have HBY : Hid (But (g + 1 + 1) w1 wr) := HBUK.out.next hbp HGW.out
            have hwy : CsAt wr g (setC zc 0 W) 86 := (HBY.out.rest g HWI.out.lt (by omega)).trans HWI.out
            have f2 : wr.cell? ⟨g, 0, none⟩ = some (.int .u64 (u0 : Int)) := (hwy.cell 0).trans HW0.out
            have f3 : wr.cell? ⟨g, 1, none⟩ = some (.int .u64 (u1 : Int)) := (hwy.cell 1).trans HW1.out
            have hQT := HRIK.out q hq
            have HQT := hidD hQT
            clear hwy
            by_cases hqt : q < m
            · have hqti : (q : Int) < m := by omega
              obtain ⟨s, hs, hsn⟩ := HRS.out q hqt
              obtain ⟨gs, os, rfl, hgs, hcs2⟩ := HRCL.out q hqt
              rw [hs] at hcs2
              first | rw [HGG.out] at hgs | skip
              have f4 : wr.cell? ⟨gs, os + q, none⟩ = some (.int .i64 (s : Int)) := (HBY.out.cell (by have := HGW.out; omega) (by omega)).trans ((HBL0.out.cell (p := ⟨gs, os + q, none⟩) hgs).trans hcs2)
              have HHK := hidD (fun w' => HHW.out s (by omega) w')
              have HTB : Hid (W.testBit (RR.getD q 0).toNat = W.testBit s) := by show _ = _; rw [hs, Int.toNat_natCast]
              have HRN1 : Hid (riTo RR (q + 1) = riTo RR q ||| 2 ^ s) := by show riTo RR q ||| 2 ^ (RR.getD q 0).toNat = _; rw [hs, Int.toNat_natCast]
              have HADQ : Hid (∀ w', CsAt w' hr (setC zc 0 (riTo RR q)) 86 → Calls Tryd.prog 92 #[.pointer (some ⟨hr, 0, none⟩), .int .i64 s] w' fun e w'' => e = .returned (.tuple #[]) ∧ CsAt w'' hr (setC zc 0 (riTo RR (q + 1))) 86 ∧ But hr w' w'') := fun w' hc => by
                have := setAdd_cs (riTo RR q) hr 0 s (by omega) w' hc (HSI.out _ HQT.out)
                rw [HST.out _ _ (or_top HQT.out (two_top (by omega))), ← HRN1.out] at this
                exact this
              have HNQ := hidD (HNAL.out q hqt)
              clear hbp hrr hcs2 hs
              cases hb : W.testBit s with
              | true =>
                rw [hb] at HHK HTB
                clear hb
                go_wp2_with (first
                  | (go_at_call 64; refine (HHK.out _).mono ?_; rintro e w8 ⟨rfl, hb8⟩; have HR8 := hidD (HRR.out.next hb8); have HB8 := hidD (Below.next HBP.out hb8); clear hb8)
                  | (go_at_call 92; refine (HADQ.out _ HR8.out).mono ?_; rintro e w9 ⟨rfl, hc9, hb9⟩; have HR9 := hidD hc9; have HB9 := hidD (HB8.out.trans (hb9.bel.mono (Nat.le_of_lt HHR.out))); clear hc9 hb9))
                go_roundw
                case rel => exact ⟨q + 1, by omega, by go_num, fun t ht => by
                  by_cases h : t = q
                  · rw [h]; exact HTB.out
                  · exact HAQ.out t (by omega), HR9.out, HB9.out⟩
                case measure => simp [intOf]; omega
              | false =>
                rw [hb] at HHK HTB
                have HNN := hidD (HNQ.out HTB.out)
                rw [if_neg (by rw [HNN.out]; decide)] at HNK
                clear hb
                go_wp2_with (go_at_call 64; refine (HHK.out _).mono ?_; rintro e w8 ⟨rfl, hb8⟩; have HC8 := hidD (HCY.out.next hb8); have HCB8 := hidD (HCBY.out.next hb8); have HBU8 := hidD (HBY.out.next hb8 HGW.out); clear hb8)
                go_roundw
                case rel => exact ⟨k + 1, by omega, by go_num, by rw [HNK.out]; exact HC8.out, HCB8.out, HBU8.out⟩
                case measure => simp [intOf]; omega
            · obtain rfl : m = q := by omega
              have hA := HALL.out HAQ.out
              rw [if_pos hA] at HNK
              clear hA
              have f5 : wr.cell? ⟨hr, 0, none⟩ = some (.int .u64 (lw (riTo RR m) : Int)) := (hrr.cell 0).trans (HSI.out _ hQT).c0
              have f6 : wr.cell? ⟨hr, 1, none⟩ = some (.int .u64 (hw (riTo RR m) : Int)) := (hrr.cell 1).trans (HSI.out _ hQT).c1
              have HJ := hidD (HJN.out (riTo RR m) wr hQT HCY.out)
              clear hbp hrr
              go_wp2_with (go_at_call 68; refine HJ.out.mono ?_; rintro e w8 ⟨rfl, hc8, hb8⟩; have HC8 := hidD hc8; have HCB8 : Hid (CsAt w8 bk (setC zc 0 X) 86) := (hb8.rest bk HCBY.out.lt (fun e => HBI.out e.symm)).trans HCBY.out; have HBU8 := hidD (HBY.out.trans hb8); clear hc8 hb8)
              go_roundw
              case rel => exact ⟨k + 1, by omega, by go_num, by rw [HNK.out]; exact HC8.out, HCB8.out, HBU8.out⟩
              case measure => simp [intOf]; omega
      · obtain rfl : rn = k := by omega
        have f0 : wr.cell? ⟨g + 1 + 1, 0, none⟩ = some (.int .u64 (lw (rpTo R W X rn) : Int)) := (hcs.cell 0).trans (HSI.out _ hYT).c0
        have f1 : wr.cell? ⟨g + 1 + 1, 1, none⟩ = some (.int .u64 (hw (rpTo R W X rn) : Int)) := (hcs.cell 1).trans (HSI.out _ hYT).c1
        have f2 : wr.cell? ⟨bk, 0, none⟩ = some (.int .u64 (lw X : Int)) := (hcb.cell 0).trans (HSI.out _ HXT.out).c0
        have f3 : wr.cell? ⟨bk, 1, none⟩ = some (.int .u64 (hw X : Int)) := (hcb.cell 1).trans (HSI.out _ HXT.out).c1
        clear hcs hcb hbut
        have hc5 : CsAt wr (g + 1) zc 86 := (HBUK.out.rest (g + 1) HZ0.out.lt (by omega)).trans HZ0.out
        have f4 : wr.cell? ⟨g + 1, 0, none⟩ = some (.int .u64 0) := hc5.cell 0
        have f5 : wr.cell? ⟨g + 1, 1, none⟩ = some (.int .u64 0) := hc5.cell 1
        have g4 := hc5.frz 0
        have g5 := hc5.frz 1
        by_cases heq : rpTo R W X rn = X
        · rw [heq] at f0 f1
          have HFX : Hid (ReIs R W (2 ^ st) X) := ⟨j, HX.out.symm, by rw [HRN.out]; exact heq⟩
          have heqs : ∀ w', Sem.run Tryd.prog (Op.equalIn 10000 86 (.agg #[.int .u64 (lw X : Int), .int .u64 (hw X : Int)]) (.agg #[.int .u64 (lw X : Int), .int .u64 (hw X : Int)])) w' = .ok true w' := fun w' => by
            have := eqSet (lw X) (hw X) (lw X) (hw X) w'
            simpa using this
          have HXV : Hid (setV X = .agg #[.int .u64 (lw X : Int), .int .u64 (hw X : Int)]) := rfl
          have HBF : Hid (Below g w ((wr.setCell ⟨g + 1, 0, none⟩ (.int .u64 (lw X : Int))).setCell ⟨g + 1, 1, none⟩ (.int .u64 (hw X : Int)))) := ((HBL0.out.trans (HBUK.out.bel.mono (by omega))).setCell (p := ⟨g + 1, 0, none⟩) (Nat.le_succ _) _).setCell (p := ⟨g + 1, 1, none⟩) (Nat.le_succ _) _
          generalize hx0 : lw X = x0 at *
          generalize hx1 : hw X = x1 at *
          have HX0 := hidD hx0
          have HX1 := hidD hx1
          clear heq hx0 hx1
          go_wp2_with fail
          rw [Exit.noGoto_exit]
          go_wp2_with fail
          rw [Exit.noGoto_ret]
          have hc9 : CsAt ((wr.setCell ⟨g + 1, 0, none⟩ (.int .u64 (x0 : Int))).setCell ⟨g + 1, 1, none⟩ (.int .u64 (x1 : Int))) (g + 1) ((zc.setIfInBounds 0 (.int .u64 (x0 : Int))).setIfInBounds 1 (.int .u64 (x1 : Int))) 86 := (hc5.put 0 _).put 1 _
          have e0 := hc9.cell 0
          have e1 := hc9.cell 1
          rw [show ((zc.setIfInBounds 0 (.int .u64 (x0 : Int))).setIfInBounds 1 (.int .u64 (x1 : Int)))[0]? = some (.int .u64 (x0 : Int)) from rfl] at e0
          rw [show ((zc.setIfInBounds 0 (.int .u64 (x0 : Int))).setIfInBounds 1 (.int .u64 (x1 : Int)))[1]? = some (.int .u64 (x1 : Int)) from rfl] at e1
          clear hc9
          generalize ((wr.setCell ⟨g + 1, 0, none⟩ (.int .u64 (x0 : Int))).setCell ⟨g + 1, 1, none⟩ (.int .u64 (x1 : Int))) = w9 at *
          refine bodyPost_ret (v := .agg #[.int .u64 (x0 : Int), .int .u64 (x1 : Int)]) (by simp [results, Tryd.results77, go_sem, e0, e1]) rfl ?_
          exact ⟨X, by rw [HX0.out, HX1.out], HXT.out, HFX.out, HBF.out⟩
        · have hne : ¬ (lw (rpTo R W X rn) = lw X ∧ hw (rpTo R W X rn) = hw X) := fun h => heq (by
            have h1 := lw_hw (rpTo R W X rn)
            have h2 := lw_hw X
            rw [h.1, h.2] at h1
            exact h1.symm.trans h2)
          have heqs : ∀ w', Sem.run Tryd.prog (Op.equalIn 10000 86 (.agg #[.int .u64 (lw (rpTo R W X rn) : Int), .int .u64 (hw (rpTo R W X rn) : Int)]) (.agg #[.int .u64 (lw X : Int), .int .u64 (hw X : Int)])) w' = .ok false w' := fun w' => by
            have := eqSet (lw (rpTo R W X rn)) (hw (rpTo R W X rn)) (lw X) (hw X) w'
            rw [this]
            congr 1
            rw [Bool.and_eq_false_iff]
            by_cases h : lw (rpTo R W X rn) = lw X
            · exact .inr (beq_eq_false_iff_ne.2 fun e => hne ⟨h, by omega⟩)
            · exact .inl (beq_eq_false_iff_ne.2 fun e => h (by omega))
          have HLT : Hid (X < rpTo R W X rn) := Nat.lt_of_le_of_ne (HGE.out X rn) (fun e => heq e.symm)
          have HR0 : Hid (rdS wr (g + 1 + 1) = rpTo R W X rn) := HRD.out wr _ HYT.out HCK.out
          have HR1 : Hid (rdS wo (g + 1 + 1) = X) := HRD.out wo _ HXT.out HCS.out
          have HIE : Hid (rpIt R W (2 ^ st) (j + 1) = rpTo R W X rn) := HXN.out
          generalize lw (rpTo R W X rn) = y0 at *
          generalize hw (rpTo R W X rn) = y1 at *
          generalize lw X = x0 at *
          generalize hw X = x1 at *
          clear heq hne
          go_wp2_with fail
          rw [Exit.noGoto_normal]
          go_roundw
          case rel =>
            (repeat apply Exists.intro)
            refine And.intro ?_ ?_
            rotate_left
            · rfl
            · exact ⟨j + 1, by rw [HIE.out]; exact HCK.out, HBUK.out⟩
          case measure =>
            have h1 := HLT.out
            have h2 := HYT.out
            have h3 := HR0.out
            have h4 := HR1.out
            simp only [h3, h4]
            omega
end Go.Proofs.YtgmbkelmgolkpaaDoor
