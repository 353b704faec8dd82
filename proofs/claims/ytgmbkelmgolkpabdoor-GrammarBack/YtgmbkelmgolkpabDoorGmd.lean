/- Rules in memory; what grown answers. -/
import Derived.Test.YtgmbkelmgolkpabDoorGmc
import Derived.Test.YtgmbkelmgolkpabDoorEqs
import Derived.WalkMore
import Derived.ScopeJumps
namespace Go.Proofs.YtgmbkelmgolkpabDoor
open Go.RowKit
set_option linter.unusedVariables false

/-- Rules in memory: a left symbol, and right ones. -/
def RuAt (w : World) (v : Value) (R : List (Nat × List Int)) : Prop := ∃ a cap, v = .slice a R.length cap ∧ ∀ k, k < R.length → ∃ g o rv, a = some ⟨g, o, none⟩ ∧ g < w.heap.size ∧ w.cell? ⟨g, o + k * 2, none⟩ = some (.int .i64 ((R.getD k (0, [])).1 : Int)) ∧ w.cell? ⟨g, o + k * 2 + 1, none⟩ = some rv ∧ IlAt w rv (R.getD k (0, [])).2
theorem IlAt.but {w w' : World} {v : Value} {l : List Int} {g : Nat} (h : IlAt w v l) (hb : But g w w') (hg : ∀ b o, (∃ n c, v = .slice (some ⟨b, o, none⟩) n c) → 0 < l.length → b ≠ g) : IlAt w' v l := by
  obtain ⟨a, cap, rfl, h2, h3, h4⟩ := h
  refine ⟨a, cap, rfl, h2, h3, fun k hk => ?_⟩
  obtain ⟨b, o, e1, e2, e3⟩ := h4 k hk
  exact ⟨b, o, e1, Nat.lt_of_lt_of_le e2 hb.bel.size, (hb.cell e2 (hg b o ⟨_, _, by rw [e1]⟩ (by omega))).trans e3⟩
/-- Rules, all of them below a place in memory. -/
theorem RuAt.next {w w' : World} {v : Value} {R : List (Nat × List Int)} (h : RuAt w v R) (hb : Below w.heap.size w w') : RuAt w' v R := by
  obtain ⟨a, cap, rfl, hc⟩ := h
  refine ⟨a, cap, rfl, fun k hk => ?_⟩
  obtain ⟨g, o, rv, h1, h2, h3, h4, h5⟩ := hc k hk
  exact ⟨g, o, rv, h1, Nat.lt_of_lt_of_le h2 hb.size, (hb.cell (p := ⟨g, o + k * 2, none⟩) h2).trans h3, (hb.cell (p := ⟨g, o + k * 2 + 1, none⟩) h2).trans h4, h5.next hb⟩
/-- Symbols of rules are symbols. -/
def RuOk (R : List (Nat × List Int)) (n : Nat) : Prop := ∀ k, k < R.length → (R.getD k (0, [])).1 < n ∧ (R.getD k (0, [])).2.length ≤ 1048576 ∧ ∀ j, j < (R.getD k (0, [])).2.length → ∃ s : Nat, (R.getD k (0, [])).2.getD j 0 = (s : Int) ∧ s < n
/-- One pass: the left symbols of the rules whose right ones are all there. -/
def gpTo (R : List (Nat × List Int)) (M : Nat) : Nat → Nat
  | 0 => M
  | k + 1 => if (R.getD k (0, [])).2.all (fun x => (gpTo R M k).testBit x.toNat) then gpTo R M k ||| 2 ^ (R.getD k (0, [])).1 else gpTo R M k
def gpS (R : List (Nat × List Int)) (M : Nat) : Nat := gpTo R M R.length
def gpIt (R : List (Nat × List Int)) (M : Nat) : Nat → Nat
  | 0 => M
  | j + 1 => gpS R (gpIt R M j)
/-- What is grown: passes until none adds. -/
def GrIs (R : List (Nat × List Int)) (M X : Nat) : Prop := ∃ j, X = gpIt R M j ∧ gpS R X = X
theorem gp_ge (R : List (Nat × List Int)) (M : Nat) : ∀ k, M ≤ gpTo R M k
  | 0 => Nat.le_refl _
  | k + 1 => by
    have := gp_ge R M k
    rw [gpTo]; split
    · exact Nat.le_trans this Nat.left_le_or
    · exact this
theorem gp_top {R : List (Nat × List Int)} {n : Nat} (hR : RuOk R n) (hn : n ≤ 128) {M : Nat} (hM : M < Top) : ∀ k, k ≤ R.length → gpTo R M k < Top
  | 0, _ => hM
  | k + 1, hk => by
    have := gp_top hR hn hM k (by omega)
    rw [gpTo]; split
    · exact or_top this (two_top (by have := (hR k (by omega)).1; omega))
    · exact this
/-- The set that lies in a block. -/
def rdS (w : World) (g : Nat) : Nat := match w.cell? ⟨g, 0, none⟩, w.cell? ⟨g, 1, none⟩ with
  | some (.int _ a), some (.int _ b) => a.toNat + b.toNat * 18446744073709551616
  | _, _ => 0
theorem lw_hw (M : Nat) : lw M + hw M * 18446744073709551616 = M := by
  unfold lw hw
  rw [Nat.mul_comm]; exact Nat.mod_add_div M _
theorem rdS_of {w : World} {g M : Nat} {cs : Array Value} {t : TypeId} (hc : CsAt w g cs t) (h : SetIn cs 0 M) : rdS w g = M := by
  unfold rdS
  rw [hc.cell, hc.cell, h.c0, h.c1]
  simp only [Int.toNat_natCast]
  exact lw_hw M
theorem all_true {l : List Int} {f : Int → Bool} (h : ∀ q, q < l.length → f (l.getD q 0) = true) : l.all f = true := by
  rw [List.all_eq_true]
  intro x hx
  obtain ⟨q, hq, he⟩ := List.mem_iff_getElem.1 hx
  have := h q hq
  rwa [List.getD_eq_getElem?_getD, List.getElem?_eq_getElem hq, Option.getD_some, he] at this
theorem all_false {l : List Int} {f : Int → Bool} {q : Nat} (hq : q < l.length) (h : f (l.getD q 0) = false) : l.all f = false := by
  cases ha : l.all f with
  | false => rfl
  | true =>
    rw [List.all_eq_true] at ha
    have := ha (l.getD q 0) (by rw [List.getD_eq_getElem?_getD, List.getElem?_eq_getElem hq]; exact List.getElem_mem hq)
    rw [h] at this; cases this
def zc : Array Value := #[.int .u64 0, .int .u64 0]
theorem Tryd.zero76 : (Tryd.prog.info? 76).map (fun i => (i.zero, i.size)) = some (some (.agg #[.int .i64 0, .slice none 0 0]), 2) := by kernel_rfl
set_option maxRecDepth 100000 in
set_option maxHeartbeats 6400000 in
theorem grown_any {p : Nat} (R : List (Nat × List Int)) (n : Nat) (hR : RuOk R n) (hn : n ≤ 128) (hRl : R.length ≤ 1048576) (M : Nat) (hM : M < Top) (vr : Value) (w : World) (hp : p < w.heap.size) (hpc : w.cell? ⟨p, 4, none⟩ = some vr) (hr : RuAt w vr R) : Calls Tryd.prog 31 #[.pointer (some ⟨p, 0, none⟩), setV M] w fun e w' => ∃ X, e = .returned (setV X) ∧ X < Top ∧ GrIs R M X ∧ Below w.heap.size w w' := by
  have HRU := hidD hr
  obtain ⟨ar, cr, rfl, hrc⟩ := hr
  have HRC := hidD hrc
  have HRO := hidD hR
  have HGT := hidD (fun M hM k hk => gp_top (R := R) hR hn (M := M) hM k hk)
  have HGE := hidD (fun M k => gp_ge R M k)
  have HGN : Hid (∀ M k, gpTo R M (k + 1) = if (R.getD k (0, [])).2.all (fun x => (gpTo R M k).testBit x.toNat) then gpTo R M k ||| 2 ^ (R.getD k (0, [])).1 else gpTo R M k) := fun M k => rfl
  have HGS : Hid (∀ M, gpS R M = gpTo R M R.length) := fun M => rfl
  obtain ⟨hz, hsz⟩ := zero_of_info Tryd.zero61
  obtain ⟨hz76, hsz76⟩ := zero_of_info Tryd.zero76
  have HCS0 : Hid (CsAt ((w.alloc (.cells #[.int .u64 (lw M : Int), .int .u64 (hw M : Int)] (61 : TypeId))).alloc (.cells #[.int .u64 0, .int .u64 0] (61 : TypeId))) w.heap.size (setC zc 0 M) 61) := by
    have h1 : CsAt (w.alloc (.cells #[.int .u64 (lw M : Int), .int .u64 (hw M : Int)] (61 : TypeId))) w.heap.size (setC zc 0 M) 61 := heap_alloc_last _ _
    exact h1.next ((Below.refl _ _).alloc (Nat.le_refl _) _)
  have HBL0 : Hid (Below w.heap.size w ((w.alloc (.cells #[.int .u64 (lw M : Int), .int .u64 (hw M : Int)] (61 : TypeId))).alloc (.cells #[.int .u64 0, .int .u64 0] (61 : TypeId)))) := ((Below.refl _ _).alloc (Nat.le_refl _) _).alloc (by simp) _
  have HZ0 : Hid (CsAt ((w.alloc (.cells #[.int .u64 (lw M : Int), .int .u64 (hw M : Int)] (61 : TypeId))).alloc (.cells #[.int .u64 0, .int .u64 0] (61 : TypeId))) (w.heap.size + 1) zc 61) := by
    have := heap_alloc_last (w.alloc (.cells #[.int .u64 (lw M : Int), .int .u64 (hw M : Int)] (61 : TypeId))) (.cells #[.int .u64 0, .int .u64 0] (61 : TypeId))
    rw [show (w.alloc (.cells #[.int .u64 (lw M : Int), .int .u64 (hw M : Int)] (61 : TypeId))).heap.size = w.heap.size + 1 by simp] at this
    exact this
  unfold setV
  clear hrc hR
  generalize hRn : R.length = rn at *
  have HRN := hidD hRn
  clear hRn
  go_enter Tryd.func31, Tryd.ntmps31
  go_wp2_with fail
  go_step3
  go_wp2_with fail
  go_step3
  go_wp2_with fail
  generalize hw1 : ((w.alloc (.cells #[.int .u64 (lw M : Int), .int .u64 (hw M : Int)] (61 : TypeId))).alloc (.cells #[.int .u64 0, .int .u64 0] (61 : TypeId))) = w1 at *
  clear hw1
  have HGP : Hid (p < w.heap.size) := hp
  have HPC := hidD hpc
  generalize hgg : w.heap.size = g at *
  have HGG := hidD hgg
  clear hgg
  have HZ1 := hidD HZ0.out
  have HG1 := hidD HZ0.out.lt
  have HIT : Hid (∀ j, gpIt R M j < Top) := fun j => by
    induction j with
    | zero => exact hM
    | succ j ih => exact HGT.out _ ih _ (by first | (rw [HRN.out]; omega) | omega)
  have HINX : Hid (∀ j, gpIt R M (j + 1) = gpTo R (gpIt R M j) rn) := fun j => by
    show gpTo R (gpIt R M j) R.length = _
    rw [HRN.out]
  have HSI : Hid (∀ M, M < Top → SetIn (setC zc 0 M) 0 M) := fun M hM => setC_same (by decide) hM
  have HST : Hid (∀ A B, B < Top → setC (setC zc 0 A) 0 B = setC zc 0 B) := fun A B hB => setC_twice _ 0 A B (by decide) hB
  have HRD : Hid (∀ w' M, M < Top → CsAt w' g (setC zc 0 M) 61 → rdS w' g = M) := fun w' M hM h => rdS_of h (HSI.out M hM)
  go_loopw [5] (fun _ wr => ∃ j : Nat, CsAt wr g (setC zc 0 (gpIt R M j)) 61 ∧ But g w1 wr) (fun _ wr => Top - rdS wr g)
  case atStart => exact ⟨0, HCS0.out, But.refl _ _⟩
  case round =>
    obtain ⟨j, hcs, hbut⟩ := hrel
    obtain ⟨wo, hwo⟩ : ∃ wo, wo = wr := ⟨_, rfl⟩
    subst hwo
    have HCS := hidD hcs
    have HBU := hidD hbut
    have hXT := HIT.out j
    have HXT := hidD hXT
    have f0 : wo.cell? ⟨g, 0, none⟩ = some (.int .u64 (lw (gpIt R M j) : Int)) := (hcs.cell 0).trans (HSI.out _ hXT).c0
    have f1 : wo.cell? ⟨g, 1, none⟩ = some (.int .u64 (hw (gpIt R M j) : Int)) := (hcs.cell 1).trans (HSI.out _ hXT).c1
    have f2 : wo.cell? ⟨p, 4, none⟩ = some (.slice ar rn cr) := (hbut.cell (by have := HBL0.out.size; have := HGG.out; omega) (by omega)).trans ((HBL0.out.cell (p := ⟨p, 4, none⟩) HGP.out).trans HPC.out)
    have HXN := hidD (HINX.out j)
    generalize hX : gpIt R M j = X at *
    have HX := hidD hX
    clear hX hcs hbut
    go_wp2_with fail
    go_step3
    go_wp2_with fail
    have HBN : Hid (Below wo.heap.size wo (((wo.alloc (.cells #[.int .u64 0, .int .u64 0] (61 : TypeId))).setCell ⟨wo.heap.size, 0, none⟩ (.int .u64 (lw X : Int))).setCell ⟨wo.heap.size, 1, none⟩ (.int .u64 (hw X : Int)))) := (((Below.refl _ _).alloc (Nat.le_refl _) _).setCell (p := ⟨wo.heap.size, 0, none⟩) (Nat.le_refl _) _).setCell (p := ⟨wo.heap.size, 1, none⟩) (Nat.le_refl _) _
    have HCB : Hid (CsAt (((wo.alloc (.cells #[.int .u64 0, .int .u64 0] (61 : TypeId))).setCell ⟨wo.heap.size, 0, none⟩ (.int .u64 (lw X : Int))).setCell ⟨wo.heap.size, 1, none⟩ (.int .u64 (hw X : Int))) wo.heap.size (setC zc 0 X) 61) := by
      have h0 : CsAt (wo.alloc (.cells #[.int .u64 0, .int .u64 0] (61 : TypeId))) wo.heap.size zc 61 := heap_alloc_last _ _
      exact (h0.put 0 _).put 1 _
    have HBI : Hid (g ≠ wo.heap.size) := by have := HCS.out.lt; show g ≠ _; omega
    generalize hw4 : (((wo.alloc (.cells #[.int .u64 0, .int .u64 0] (61 : TypeId))).setCell ⟨wo.heap.size, 0, none⟩ (.int .u64 (lw X : Int))).setCell ⟨wo.heap.size, 1, none⟩ (.int .u64 (hw X : Int))) = w4 at *
    clear hw4
    generalize hbk : wo.heap.size = bk at *
    have HBK := hidD hbk
    clear hbk
    have HC4 : Hid (CsAt w4 g (setC zc 0 (gpTo R X 0)) 61) := HCS.out.next (by rw [HBK.out]; exact HBN.out)
    have HB4 : Hid (But g w1 w4) := HBU.out.next (by rw [HBK.out]; exact HBN.out) (by have := HBL0.out.size; have := HGG.out; omega)
    have HGW : Hid (g ≤ w1.heap.size) := by have := HBL0.out.size; have := HGG.out; show _ ≤ _; omega
    have f4 : w4.cell? ⟨p, 4, none⟩ = some (.slice ar rn cr) := (HB4.out.cell (by have := HGW.out; omega) (by omega)).trans ((HBL0.out.cell (p := ⟨p, 4, none⟩) HGP.out).trans HPC.out)
    clear f0 f1 f2
    go_step3
    go_wp2_with fail
    go_loopw [16] (fun i wr => ∃ k : Nat, k ≤ rn ∧ i = .int .i64 k ∧ CsAt wr g (setC zc 0 (gpTo R X k)) 61 ∧ CsAt wr bk (setC zc 0 X) 61 ∧ But g w1 wr) (fun i _ => rn - (intOf i).toNat)
    case atStart => exact ⟨0, Nat.zero_le _, rfl, HC4.out, HCB.out, HB4.out⟩
    case round =>
      obtain ⟨k, hk, rfl, hcs, hcb, hbut⟩ := hrel
      have HCK := hidD hcs
      have HCBK := hidD hcb
      have HBUK := hidD hbut
      have hYT := HGT.out X HXT.out k hk
      have HYT := hidD hYT
      by_cases hlt : k < rn
      · have hlti : (k : Int) < rn := by omega
        obtain ⟨gr, orr, rv, har, hgr, hc1, hc2, hil⟩ := HRC.out k hlt
        obtain ⟨hleft, hrl, hrs⟩ := HRO.out k (by rw [HRN.out]; exact hlt)
        have HILR := hidD hil
        have HRS := hidD hrs
        subst har
        have hcellw : ∀ o', wr.cell? ⟨gr, o', none⟩ = w.cell? ⟨gr, o', none⟩ := fun o' => (hbut.cell (by have := HGW.out; omega) (by omega)).trans (HBL0.out.cell (p := ⟨gr, o', none⟩) hgr)
        have f0 : wr.cell? ⟨gr, orr + k * 2, none⟩ = some (.int .i64 ((R.getD k (0, [])).1 : Int)) := (hcellw _).trans hc1
        have f1 : wr.cell? ⟨gr, orr + k * 2 + 1, none⟩ = some rv := (hcellw _).trans hc2
        obtain ⟨a2, c2, hrv, hrc1, hrc2, hrcell⟩ := hil
        subst hrv
        have HRCL := hidD hrcell
        have HNK := hidD (HGN.out X k)
        have hl128 : (R.getD k (0, [])).1 < 128 := by omega
        have HADD := hidD (fun w' (hc : CsAt w' g (setC zc 0 (gpTo R X k)) 61) => setAdd_cs (gpTo R X k) g 0 _ hl128 w' hc (HSI.out _ hYT))
        rw [HST.out _ _ (or_top hYT (two_top hl128))] at HADD
        have HHAS := hidD (fun s hs w' => setHas_any (gpTo R X k) hYT s hs w')
        have HALL : Hid ((∀ q, q < (R.getD k (0, [])).2.length → (gpTo R X k).testBit ((R.getD k (0, [])).2.getD q 0).toNat = true) → (R.getD k (0, [])).2.all (fun x => (gpTo R X k).testBit x.toNat) = true) := fun h => all_true (f := fun x => (gpTo R X k).testBit x.toNat) h
        have HNAL : Hid (∀ q, q < (R.getD k (0, [])).2.length → (gpTo R X k).testBit ((R.getD k (0, [])).2.getD q 0).toNat = false → (R.getD k (0, [])).2.all (fun x => (gpTo R X k).testBit x.toNat) = false) := fun q hq h => all_false (f := fun x => (gpTo R X k).testBit x.toNat) hq h
        unfold setV at HHAS
        have HY0 := hidD (HSI.out _ hYT).c0
        have HY1 := hidD (HSI.out _ hYT).c1
        obtain ⟨wp, hwp⟩ : ∃ wp, wp = wr := ⟨_, rfl⟩
        subst hwp
        generalize lw (gpTo R X k) = y0 at *
        generalize hw (gpTo R X k) = y1 at *
        generalize hLF : (R.getD k (0, [])).1 = LF at *
        generalize hRR : (R.getD k (0, [])).2 = RR at *
        clear hLF hRR hcs hcb hbut hc1 hc2 hcellw hrs hrcell
        generalize hmm : RR.length = m at *
        have HMM := hidD hmm
        clear hmm
        go_wp2_with fail
        have HB5 : Hid (Below wp.heap.size wp (((wp.alloc (.cells #[.int .i64 0, .slice none 0 0] (76 : TypeId))).setCell ⟨wp.heap.size, 0, none⟩ (.int .i64 (LF : Int))).setCell ⟨wp.heap.size, 1, none⟩ (.slice a2 m c2))) := (((Below.refl _ _).alloc (Nat.le_refl _) _).setCell (p := ⟨wp.heap.size, 0, none⟩) (Nat.le_refl _) _).setCell (p := ⟨wp.heap.size, 1, none⟩) (Nat.le_refl _) _
        have HC5 : Hid (CsAt (((wp.alloc (.cells #[.int .i64 0, .slice none 0 0] (76 : TypeId))).setCell ⟨wp.heap.size, 0, none⟩ (.int .i64 (LF : Int))).setCell ⟨wp.heap.size, 1, none⟩ (.slice a2 m c2)) wp.heap.size #[.int .i64 (LF : Int), .slice a2 m c2] 76) := by
          have h0 : CsAt (wp.alloc (.cells #[.int .i64 0, .slice none 0 0] (76 : TypeId))) wp.heap.size #[.int .i64 0, .slice none 0 0] 76 := heap_alloc_last _ _
          exact (h0.put 0 _).put 1 _
        generalize hw5 : (((wp.alloc (.cells #[.int .i64 0, .slice none 0 0] (76 : TypeId))).setCell ⟨wp.heap.size, 0, none⟩ (.int .i64 (LF : Int))).setCell ⟨wp.heap.size, 1, none⟩ (.slice a2 m c2)) = w5 at *
        clear hw5 f0 f1
        go_loopw [23] (fun i wr => ∃ q : Nat, q ≤ m ∧ i = .int .i64 q ∧ (∀ t, t < q → (gpTo R X k).testBit (RR.getD t 0).toNat = true) ∧ Below wp.heap.size wp wr ∧ Below w5.heap.size w5 wr) (fun i _ => m - (intOf i).toNat)
        case atStart => exact ⟨0, Nat.zero_le _, rfl, fun t ht => absurd ht (by omega), HB5.out, Below.refl _ _⟩
        case round =>
          obtain ⟨q, hq, rfl, hall, hbp, hb5⟩ := hrel
          have HAQ := hidD hall
          have HBP := hidD hbp
          have HBF5 := hidD hb5
          clear hall
          have HCY := hidD (HCK.out.next hbp)
          have HCBY := hidD (HCBK.out.next hbp)
          have HBY : Hid (But g w1 wr) := HBUK.out.next hbp HGW.out
          have f2 : wr.cell? ⟨g, 0, none⟩ = some (.int .u64 (y0 : Int)) := (HCY.out.cell 0).trans HY0.out
          have f3 : wr.cell? ⟨g, 1, none⟩ = some (.int .u64 (y1 : Int)) := (HCY.out.cell 1).trans HY1.out
          by_cases hqt : q < m
          · have hqti : (q : Int) < m := by omega
            obtain ⟨s, hs, hsn⟩ := HRS.out q hqt
            obtain ⟨gs, os, rfl, hgs, hcs2⟩ := HRCL.out q hqt
            rw [hs] at hcs2
            rw [HGG.out] at hgs
            have f4 : wr.cell? ⟨gs, os + q, none⟩ = some (.int .i64 (s : Int)) := (HBY.out.cell (by have := HGW.out; omega) (by omega)).trans ((HBL0.out.cell (p := ⟨gs, os + q, none⟩) hgs).trans hcs2)
            have HHK := hidD (fun w' => HHAS.out s (by omega) w')
            have HTB : Hid ((gpTo R X k).testBit (RR.getD q 0).toNat = (gpTo R X k).testBit s) := by show _ = _; rw [hs, Int.toNat_natCast]
            have HNQ := hidD (HNAL.out q hqt)
            clear hbp hb5 hcs2 hs
            cases hb : (gpTo R X k).testBit s with
            | true =>
              rw [hb] at HHK HTB
              clear hb
              go_wp2_with (go_at_call 34; refine (HHK.out _).mono ?_; rintro e w6 ⟨rfl, hb6⟩; have HB6 := hidD (Below.next HBP.out hb6); have HB7 := hidD (Below.next HBF5.out hb6); clear hb6)
              go_roundw
              case rel => exact ⟨q + 1, by omega, by go_num, fun t ht => by
                by_cases h : t = q
                · rw [h]; exact HTB.out
                · exact HAQ.out t (by omega), HB6.out, HB7.out⟩
              case measure => simp [intOf]; omega
            | false =>
              rw [hb] at HHK HTB
              have HNN := hidD (HNQ.out HTB.out)
              rw [if_neg (by rw [HNN.out]; decide)] at HNK
              clear hb
              go_wp2_with (go_at_call 34; refine (HHK.out _).mono ?_; rintro e w6 ⟨rfl, hb6⟩; have HC6 := hidD (HCY.out.next hb6); have HCB6 := hidD (HCBY.out.next hb6); have HBU6 := hidD (HBY.out.next hb6 HGW.out); clear hb6)
              go_roundw
              case rel => exact ⟨k + 1, by omega, by go_num, by rw [HNK.out]; exact HC6.out, HCB6.out, HBU6.out⟩
              case measure => simp [intOf]; omega
          · obtain rfl : m = q := by omega
            have hA := HALL.out HAQ.out
            rw [if_pos hA] at HNK
            clear hA
            have f5 : wr.cell? ⟨wp.heap.size, 0, none⟩ = some (.int .i64 (LF : Int)) := (hb5.cell (p := ⟨wp.heap.size, 0, none⟩) HC5.out.lt).trans (HC5.out.cell 0)
            have HAD := hidD (HADD.out wr HCY.out)
            clear hbp hb5
            go_wp2_with (go_at_call 51; refine HAD.out.mono ?_; rintro e w6 ⟨rfl, hc6, hb6⟩; have HC6 := hidD hc6; have HCB6 : Hid (CsAt w6 bk (setC zc 0 X) 61) := (hb6.rest bk HCBY.out.lt (fun e => HBI.out e.symm)).trans HCBY.out; have HBU6 := hidD (HBY.out.trans hb6); clear hc6 hb6)
            go_roundw
            case rel => exact ⟨k + 1, by omega, by go_num, by rw [HNK.out]; exact HC6.out, HCB6.out, HBU6.out⟩
            case measure => simp [intOf]; omega
      · obtain rfl : rn = k := by omega
        have f0 : wr.cell? ⟨g, 0, none⟩ = some (.int .u64 (lw (gpTo R X rn) : Int)) := (hcs.cell 0).trans (HSI.out _ hYT).c0
        have f1 : wr.cell? ⟨g, 1, none⟩ = some (.int .u64 (hw (gpTo R X rn) : Int)) := (hcs.cell 1).trans (HSI.out _ hYT).c1
        have f2 : wr.cell? ⟨bk, 0, none⟩ = some (.int .u64 (lw X : Int)) := (hcb.cell 0).trans (HSI.out _ HXT.out).c0
        have f3 : wr.cell? ⟨bk, 1, none⟩ = some (.int .u64 (hw X : Int)) := (hcb.cell 1).trans (HSI.out _ HXT.out).c1
        clear hcs hcb hbut
        have hc5 : CsAt wr (g + 1) zc 61 := (HBUK.out.rest (g + 1) HG1.out (by omega)).trans HZ1.out
        have f4 : wr.cell? ⟨g + 1, 0, none⟩ = some (.int .u64 0) := hc5.cell 0
        have f5 : wr.cell? ⟨g + 1, 1, none⟩ = some (.int .u64 0) := hc5.cell 1
        have g4 := hc5.frz 0
        have g5 := hc5.frz 1
        by_cases heq : gpTo R X rn = X
        · rw [heq] at f0 f1
          have HFX : Hid (GrIs R M X) := ⟨j, HX.out.symm, by show gpTo R X R.length = X; rw [HRN.out]; exact heq⟩
          have heqs : ∀ w', Sem.run Tryd.prog (Op.equalIn 10000 61 (.agg #[.int .u64 (lw X : Int), .int .u64 (hw X : Int)]) (.agg #[.int .u64 (lw X : Int), .int .u64 (hw X : Int)])) w' = .ok true w' := fun w' => by
            have := eqSet (lw X) (hw X) (lw X) (hw X) w'
            simpa using this
          have HXV : Hid (setV X = .agg #[.int .u64 (lw X : Int), .int .u64 (hw X : Int)]) := rfl
          have HBF : Hid (Below g w ((wr.setCell ⟨g + 1, 0, none⟩ (.int .u64 (lw X : Int))).setCell ⟨g + 1, 1, none⟩ (.int .u64 (hw X : Int)))) := ((HBL0.out.trans HBUK.out.bel).setCell (p := ⟨g + 1, 0, none⟩) (Nat.le_succ _) _).setCell (p := ⟨g + 1, 1, none⟩) (Nat.le_succ _) _
          generalize hx0 : lw X = x0 at *
          generalize hx1 : hw X = x1 at *
          have HX0 := hidD hx0
          have HX1 := hidD hx1
          clear heq hx0 hx1
          go_wp2_with fail
          rw [Exit.noGoto_exit]
          go_wp2_with fail
          rw [Exit.noGoto_ret]
          have hc9 : CsAt ((wr.setCell ⟨g + 1, 0, none⟩ (.int .u64 (x0 : Int))).setCell ⟨g + 1, 1, none⟩ (.int .u64 (x1 : Int))) (g + 1) ((zc.setIfInBounds 0 (.int .u64 (x0 : Int))).setIfInBounds 1 (.int .u64 (x1 : Int))) 61 := (hc5.put 0 _).put 1 _
          have e0 := hc9.cell 0
          have e1 := hc9.cell 1
          rw [show ((zc.setIfInBounds 0 (.int .u64 (x0 : Int))).setIfInBounds 1 (.int .u64 (x1 : Int)))[0]? = some (.int .u64 (x0 : Int)) from rfl] at e0
          rw [show ((zc.setIfInBounds 0 (.int .u64 (x0 : Int))).setIfInBounds 1 (.int .u64 (x1 : Int)))[1]? = some (.int .u64 (x1 : Int)) from rfl] at e1
          clear hc9
          generalize ((wr.setCell ⟨g + 1, 0, none⟩ (.int .u64 (x0 : Int))).setCell ⟨g + 1, 1, none⟩ (.int .u64 (x1 : Int))) = w9 at *
          refine bodyPost_ret (v := .agg #[.int .u64 (x0 : Int), .int .u64 (x1 : Int)]) (by simp [results, Tryd.results31, go_sem, e0, e1]) rfl ?_
          exact ⟨X, by rw [HX0.out, HX1.out], HXT.out, HFX.out, by rw [HGG.out]; exact HBF.out⟩
        · have hne : ¬ (lw (gpTo R X rn) = lw X ∧ hw (gpTo R X rn) = hw X) := fun h => heq (by
            have h1 := lw_hw (gpTo R X rn)
            have h2 := lw_hw X
            rw [h.1, h.2] at h1
            exact h1.symm.trans h2)
          have heqs : ∀ w', Sem.run Tryd.prog (Op.equalIn 10000 61 (.agg #[.int .u64 (lw (gpTo R X rn) : Int), .int .u64 (hw (gpTo R X rn) : Int)]) (.agg #[.int .u64 (lw X : Int), .int .u64 (hw X : Int)])) w' = .ok false w' := fun w' => by
            have := eqSet (lw (gpTo R X rn)) (hw (gpTo R X rn)) (lw X) (hw X) w'
            rw [this]
            congr 1
            rw [Bool.and_eq_false_iff]
            by_cases h : lw (gpTo R X rn) = lw X
            · exact .inr (beq_eq_false_iff_ne.2 fun e => hne ⟨h, by omega⟩)
            · exact .inl (beq_eq_false_iff_ne.2 fun e => h (by omega))
          have HLT : Hid (X < gpTo R X rn) := Nat.lt_of_le_of_ne (HGE.out X rn) (fun e => heq e.symm)
          have HR0 : Hid (rdS wr g = gpTo R X rn) := HRD.out wr _ HYT.out HCK.out
          have HR1 : Hid (rdS wo g = X) := HRD.out wo _ HXT.out HCS.out
          have HIE : Hid (gpIt R M (j + 1) = gpTo R X rn) := HXN.out
          generalize lw (gpTo R X rn) = y0 at *
          generalize hw (gpTo R X rn) = y1 at *
          generalize lw X = x0 at *
          generalize hw X = x1 at *
          clear heq hne
          go_wp2_with fail
          rw [Exit.noGoto_normal]
          go_roundw
          case rel =>
            (repeat apply Exists.intro)
            refine And.intro ?_ ?_
            rotate_left
            · rfl
            · exact ⟨j + 1, by rw [HIE.out]; exact HCK.out, HBUK.out⟩
          case measure =>
            have h1 := HLT.out
            have h2 := HYT.out
            have h3 := HR0.out
            have h4 := HR1.out
            simp only [h3, h4]
            omega
end Go.Proofs.YtgmbkelmgolkpabDoor
