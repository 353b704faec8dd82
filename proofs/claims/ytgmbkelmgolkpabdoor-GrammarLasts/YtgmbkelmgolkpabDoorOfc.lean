/- What offerText does. -/
import Derived.Test.YtgmbkelmgolkpabDoorGe
import Derived.Test.YtgmbkelmgolkpabDoorBld
import Derived.Test.YtgmbkelmgolkpabDoorNum
namespace Go.Proofs.YtgmbkelmgolkpabDoor
open Go.RowKit
set_option linter.unusedVariables false

/-- The texts of the first q symbols, one behind the other. -/
def catTo (F : Nat → Of) (l : List Int) : Nat → Tx
  | 0 => []
  | q + 1 => catTo F l q ++ (F (l.getD q 0).toNat).t
theorem cat_mono (F : Nat → Of) (l : List Int) (q : Nat) : ∀ d, (catTo F l q).length ≤ (catTo F l (q + d)).length
  | 0 => Nat.le_refl _
  | d + 1 => by
    have := cat_mono F l q d
    show _ ≤ (catTo F l (q + d) ++ _).length
    rw [List.length_append]; omega
/-- What becomes of an offer. -/
def OfIs (F : Nat → Of) (L : Nat) (x : Tx) (F' : Nat → Of) : Prop := (1048576 < x.length ∧ F' = F) ∨ (x.length ≤ 1048576 ∧ ((F' = F ∧ (F L).th = true ∧ (F L).t.length ≤ x.length) ∨ (F' = updO F L { F L with t := x, th := true } ∧ ((F L).th = true → x.length ≤ (F L).t.length))))
theorem Tryd.zero74 : (Tryd.prog.info? 74).map (fun i => (i.zero, i.size)) = some (some (.agg #[.pointer none, .slice none 0 0]), 2) := by kernel_rfl
theorem BdAt.next {w w' : World} {B b : Nat} {l : List UInt8} (h : BdAt w B b l) (hb : Below w.heap.size w w') : BdAt w' B b l := by
  obtain ⟨h1, v, h2, h3, h4⟩ := h
  refine ⟨h1, v, (hb.block b (row_lt h2)).trans h2, ?_, h4⟩
  refine ⟨h3.1, ?_⟩
  rcases h3.2 with h | ⟨g, cap, cur, fz, e1, e2, e3, e4⟩
  · exact .inl h
  · exact .inr ⟨g, cap, cur, fz, e1, e2, (hb.block g (row_lt e3)).trans e3, e4⟩
set_option maxRecDepth 100000 in
set_option maxHeartbeats 1600000 in
theorem offerText_any {g n L : Nat} (F : Nat → Of) (hn : n ≤ 128) (hL : L < n) (hF : ∀ s, s < n → (F s).t.length ≤ 1048576) (l : List Int) (hl : l.length ≤ 1048576) (hs : ∀ j, j < l.length → ∃ s : Nat, l.getD j 0 = (s : Int) ∧ s < n) (v : Value) (w : World) (hv : IlAt w v l) (hc : CsAt w g (ofC n F) 92) : Calls Tryd.prog 53 #[.pointer (some ⟨g, L * 3, none⟩), v, .slice (some ⟨g, 0, none⟩) n n] w fun e w' => ∃ F', e = .returned (.tuple #[]) ∧ CsAt w' g (ofC n F') 92 ∧ OfIs F L (catTo F l l.length) F' ∧ But g w w' := by
  obtain ⟨a, c, rfl, h1, h2, h3⟩ := hv
  have HCE := hidD h3
  have HSS := hidD hs
  have HFL := hidD hF
  have HCS := hidD hc
  have HMO := hidD (cat_mono F l)
  have hg := hc.lt
  obtain ⟨hz74, hsz74⟩ := zero_of_info Tryd.zero74
  clear h3 hs hF hc
  generalize hm : l.length = m at *
  clear hm
  go_enter Tryd.func53, Tryd.ntmps53
  go_wp2_with fail
  go_loopw [6, 14] (fun x i wr => ∃ q : Nat, q ≤ m ∧ i = .int .i64 (q : Int) ∧ x = .int .i64 ((catTo F l q).length : Int) ∧ (catTo F l q).length ≤ 1048576 ∧ wr = w) (fun _ i _ => m - (intOf i).toNat)
  case atStart => exact ⟨0, Nat.zero_le _, rfl, rfl, by simp [catTo], rfl⟩
  case round =>
    obtain ⟨q, hq, rfl, rfl, hle, hw⟩ := hrel
    subst wr
    by_cases hqt : q < m
    · have hqti : (q : Int) < (m : Int) := by omega
      obtain ⟨g1, o1, rfl, hg1, f1⟩ := HCE.out q hqt
      obtain ⟨s, hs, hsn⟩ := HSS.out q hqt
      rw [hs] at f1
      have f2 : w.cell? ⟨g, s * 3, none⟩ = some (encT (F s).t) := (HCS.out.cell _).trans (of_t F hsn)
      have hsi : (s : Int) < (n : Int) := by omega
      have hfl := HFL.out s hsn
      have HNX : Hid (catTo F l (q + 1) = catTo F l q ++ (F s).t) := by show catTo F l q ++ (F (l.getD q 0).toNat).t = _; rw [hs, Int.toNat_natCast]
      have HTS : Hid (((bA (F s).t).size : Int) = ((F s).t.length : Int)) := by show _ = _; rw [ba_size]
      have HGE := hidD (HMO.out (q + 1) (m - (q + 1)))
      rw [show q + 1 + (m - (q + 1)) = m by omega, HNX.out, List.length_append] at HGE
      unfold encT at *
      generalize hts : bA (F s).t = ts at *
      have hsz : (ts.size : Int) = ((F s).t.length : Int) := HTS.out
      generalize hcl : (catTo F l q).length = cl at *
      by_cases hbig : 1048576 < cl + (F s).t.length
      · have hbi : (1048576 : Int) < (cl : Int) + (ts.size : Int) := by omega
        go_wp2_with fail
        refine bodyPost_ret (v := .tuple #[]) (by simp [results, Tryd.results53, go_sem]) rfl ?_
        exact ⟨F, rfl, HCS.out, .inl ⟨by have := HGE.out; omega, rfl⟩, But.refl _ _⟩
      · have hbi : ¬ (1048576 : Int) < (cl : Int) + (ts.size : Int) := by omega
        have hbd : decide ((1048576 : Int) < (cl : Int) + (ts.size : Int)) = false := decide_eq_false hbi
        go_wp2_with fail
        go_roundw
        case rel => exact ⟨q + 1, by omega, by go_num, by rw [HNX.out, List.length_append, hcl]; go_num, by rw [HNX.out, List.length_append, hcl]; omega, trivial⟩
        case measure => simp [intOf]; omega
    · obtain rfl : q = m := by omega
      have HGW := hidD (Tryd.Builder_Grow_fresh w.heap.size w.heap.size (catTo F l q).length (w.alloc (.cells #[.pointer none, .slice none 0 0] (74 : TypeId))) (Nat.le_refl _) (heap_alloc_last _ _) (by rw [alloc_size]; omega) (by omega))
      have HAL := hidD ((Below.refl w.heap.size w).alloc (Nat.le_refl _) (.cells #[.pointer none, .slice none 0 0] (74 : TypeId)))
      generalize hcl : (catTo F l q).length = cl at *
      go_wp2_with (go_at_call 64; refine HGW.out.mono ?_; rintro e w1 ⟨rfl, hbd, hb⟩; have HBD1 : Hid (BdAt w1 w.heap.size w.heap.size []) := Lib.BuilderAtF.of hbd; have HB1 := hidD (HAL.out.trans hb); clear hbd hb)
      go_loopw [33] (fun i wr => ∃ z : Nat, z ≤ q ∧ i = .int .i64 (z : Int) ∧ BdAt wr w.heap.size w.heap.size (catTo F l z) ∧ Below w.heap.size w wr) (fun i _ => q - (intOf i).toNat)
      case atStart => exact ⟨0, Nat.zero_le _, rfl, HBD1.out, HB1.out⟩
      case round =>
        obtain ⟨z, hz, rfl, hbd, hbel⟩ := hrel
        have HBD := hidD hbd
        have HBW := hidD hbel
        by_cases hzt : z < q
        · have hzti : (z : Int) < (q : Int) := by omega
          obtain ⟨g1, o1, rfl, hg1, f1⟩ := HCE.out z hzt
          obtain ⟨s, hs, hsn⟩ := HSS.out z hzt
          rw [hs] at f1
          have f3 : wr.cell? ⟨g1, o1 + z, none⟩ = some (.int .i64 (s : Int)) := (hbel.cell (p := ⟨g1, o1 + z, none⟩) hg1).trans f1
          have f2 : wr.cell? ⟨g, s * 3, none⟩ = some (encT (F s).t) := (hbel.cell (p := ⟨g, s * 3, none⟩) hg).trans ((HCS.out.cell _).trans (of_t F hsn))
          have hsi : (s : Int) < (n : Int) := by omega
          have hfl := HFL.out s hsn
          have HNX : Hid (catTo F l (z + 1) = catTo F l z ++ (F s).t) := by show catTo F l z ++ (F (l.getD z 0).toNat).t = _; rw [hs, Int.toNat_natCast]
          have hmo := HMO.out z (q - z)
          rw [show z + (q - z) = q by omega, hcl] at hmo
          have HWS := hidD (writeString_any w.heap.size w.heap.size (catTo F l z) (F s).t wr hbd (by omega) hbel.size)
          unfold encT bA at *
          clear hbd hbel f1 hs
          generalize (⟨(F s).t.toArray⟩ : ByteArray) = ts at *
          go_wp2_with (go_at_call 55; refine HWS.out.mono ?_; rintro e w2 ⟨rfl, hbd2, hb2⟩; have HBD2 := hidD hbd2; have HB2 := hidD (HBW.out.trans hb2); clear hbd2 hb2)
          go_roundw
          case rel => exact ⟨z + 1, by omega, by go_num, by rw [HNX.out]; exact HBD2.out, HB2.out⟩
          case measure => simp [intOf]; omega
        · obtain rfl : z = q := by omega
          have HCW := hidD (HCS.out.next hbel)
          have f1 : wr.cell? ⟨g, L * 3 + 1, none⟩ = some (.bool (F L).th) := (HCW.out.cell _).trans (of_th F hL)
          have f0 : wr.cell? ⟨g, L * 3, none⟩ = some (encT (F L).t) := (HCW.out.cell _).trans (of_t F hL)
          have HST := hidD (fun w' (hi : Lib.IsBuilderF 74 5 w.heap.size w.heap.size (Lib.byteCells (catTo F l z)) w') (hz : w.heap.size ≤ w'.heap.size) => Tryd.Builder_String_any_f w.heap.size w.heap.size (catTo F l z) w' hi hz)
          have HIB : Hid (Lib.IsBuilderF 74 5 w.heap.size w.heap.size (Lib.byteCells (catTo F l z)) wr) := .inr hbd
          have HPU := hidD (of_text F (catTo F l z) hL)
          have hfL := HFL.out L hL
          have HLS := hidD (fun w' => isLess_any (catTo F l z) (F L).t (by rw [hcl]; unfold maxLen; omega) (by unfold maxLen; omega) w')
          have HFIN : Hid (∀ w' : World, Below w.heap.size w w' → CsAt w' g (ofC n F) 92 → CsAt ((w'.setCell ⟨g, L * 3, none⟩ (encT (catTo F l z))).setCell ⟨g, L * 3 + 1, none⟩ (.bool true)) g (ofC n (updO F L { F L with t := catTo F l z, th := true })) 92 ∧ But g w ((w'.setCell ⟨g, L * 3, none⟩ (encT (catTo F l z))).setCell ⟨g, L * 3 + 1, none⟩ (.bool true))) := fun w' hb hc => ⟨by
            have := (hc.put (L * 3) (encT (catTo F l z))).put (L * 3 + 1) (.bool true)
            rwa [HPU.out] at this, ((But.of hb (Nat.le_of_lt hg)).put _ _).put _ _⟩
          have HKK : Hid (∀ w', Below w.heap.size wr w' → ∃ i : KB wr [g], w' = i.v) := fun w' hb => ⟨⟨w', fun y hy => by rw [List.mem_singleton] at hy; subst hy; exact hb.block _ hg⟩, rfl⟩
          have HFRZ : Hid (∀ w' : World, CsAt w' g (ofC n F) 92 → w'.frozen? ⟨g, L * 3, none⟩ = false ∧ w'.frozen? ⟨g, L * 3 + 1, none⟩ = false ∧ w'.cell? ⟨g, L * 3, none⟩ = some (encT (F L).t) ∧ w'.cell? ⟨g, L * 3 + 1, none⟩ = some (.bool (F L).th)) := fun w' hc => ⟨hc.frz _, hc.frz _, (hc.cell _).trans (of_t F hL), (hc.cell _).trans (of_th F hL)⟩
          have HLT : Hid (∀ F', F' = updO F L { F L with t := catTo F l z, th := true } → ((F L).th = true → (catTo F l z).length ≤ (F L).t.length) → OfIs F L (catTo F l z) F') := fun F' h1 h2 => .inr ⟨by rw [hcl]; exact hle, .inr ⟨h1, h2⟩⟩
          have HGT : Hid ((F L).th = true → (F L).t.length ≤ (catTo F l z).length → OfIs F L (catTo F l z) F) := fun h1 h2 => .inr ⟨by rw [hcl]; exact hle, .inl ⟨rfl, h1, h2⟩⟩
          have HNX : Hid (∀ w', Below w.heap.size wr w' → CsAt w' g (ofC n F) 92) := fun w' hb => (hb.block g hg).trans HCW.out
          have HSZ : Hid (w.heap.size ≤ wr.heap.size) := hbel.size
          have HIBD : Hid (Lib.IsBuilderF 74 5 w.heap.size w.heap.size (Lib.byteCells (catTo F l z)) wr.drew) := HIB.out
          have hszd : w.heap.size ≤ wr.drew.heap.size := hbel.size
          unfold encT bA at *
          generalize (⟨(catTo F l z).toArray⟩ : ByteArray) = tx at *
          generalize (⟨(F L).t.toArray⟩ : ByteArray) = tL at *
          clear hbd hbel hle HGW HBD1 HB1 HCE HSS HMO HAL HPU
          go_upto_region 14 with fail
          have HDR : Hid (Below w.heap.size wr wr.drew) := (Below.refl _ _).drew
          cases hth : (F L).th with
          | false =>
            rw [hth] at f1
            have k1 : ∀ i : KB wr [g], i.v.cell? ⟨g, L * 3 + 1, none⟩ = some (.bool false) := fun i => (i.cell (b := g) (by simp) _).trans f1
            have HOI := hidD (HLT.out _ rfl (by rw [hth]; intro h; cases h))
            refine wp_region_seg [0, 0, 0, 0, 0, 0, 1, 0, 0, 0, 0, 99, 99] 1 11 [g] (by kernel_rfl) (by kernel_rfl) (by kernel_rfl) (by kernel_rfl) (by kernel_rfl) (by kernel_rfl) (by kernel_rfl) (by kernel_rfl) (fun _ _ _ _ _ h => h) ?_
            simp only [SegW, pk, Nat.reduceMul, Nat.reduceAdd, Nat.reduceBEq, cond_true, cond_false]
            repeat (go_big_quiet_step (fail))
            refine wpQuiet_nil ?_
            go_wp2_with fail
            refine ⟨HKK.out _ HDR.out, ?_⟩
            repeat (go_big_quiet_step (fail))
            refine wpQuiet_nil ?_
            go_wp2_with (go_at_call 40; refine (HST.out _ HIBD.out hszd).mono ?_; rintro e w7 ⟨rfl, hi7, hb7⟩; have HB7 : Hid (Below w.heap.size wr w7) := HDR.out.trans hb7; have HC7 := hidD (HNX.out _ HB7.out); obtain ⟨y0, y1, y2, y3⟩ := HFRZ.out _ HC7.out; clear hi7 hb7)
            go_end0
            exact ⟨_, rfl, (HFIN.out _ (HBW.out.trans HB7.out) HC7.out).1, HOI.out, (HFIN.out _ (HBW.out.trans HB7.out) HC7.out).2⟩
          | true =>
            rw [hth] at f1
            have k1 : ∀ i : KB wr [g], i.v.cell? ⟨g, L * 3 + 1, none⟩ = some (.bool true) := fun i => (i.cell (b := g) (by simp) _).trans f1
            have k0 : ∀ i : KB wr [g], i.v.cell? ⟨g, L * 3, none⟩ = some (.string tL) := fun i => (i.cell (b := g) (by simp) _).trans f0
            refine wp_region_seg [0, 0, 0, 0, 0, 0, 1, 0, 0, 0, 0, 99, 99] 1 11 [g] (by kernel_rfl) (by kernel_rfl) (by kernel_rfl) (by kernel_rfl) (by kernel_rfl) (by kernel_rfl) (by kernel_rfl) (by kernel_rfl) (fun _ _ _ _ _ h => h) ?_
            simp only [SegW, pk, Nat.reduceMul, Nat.reduceAdd, Nat.reduceBEq, cond_true, cond_false]
            repeat (go_big_quiet_step (fail))
            refine wpQuiet_nil ?_
            go_wp2_with (go_at_call 40; refine (HST.out _ HIBD.out hszd).mono ?_; rintro e w5 ⟨rfl, hi5, hb5⟩; have HB5 : Hid (Below w.heap.size wr w5) := HDR.out.trans hb5; have HI5 := hidD hi5; have hsz5 : w.heap.size ≤ w5.heap.size := Nat.le_trans HSZ.out HB5.out.size; clear hi5 hb5)
            refine ⟨HKK.out _ HB5.out, ?_⟩
            repeat (go_big_quiet_step (fail))
            refine wpQuiet_nil ?_
            go_wp2_with first
              | (go_at_call 40; refine (HST.out _ HI5.out hsz5).mono ?_; rintro e w7 ⟨rfl, hi7, hb7⟩; have HB7 : Hid (Below w.heap.size wr w7) := HB5.out.trans hb7; have HC7 := hidD (HNX.out _ HB7.out); obtain ⟨y0, y1, y2, y3⟩ := HFRZ.out _ HC7.out; clear hi7 hb7)
              | (go_at_call 65; refine (HLS.out _).mono ?_; rintro e w6 ⟨r, rfl, hr, hw⟩; subst w6; have HR := hidD hr; clear hr)
            · rename_i h
              subst h
              have HOI := hidD (HLT.out _ rfl (fun _ => by
                rcases Nat.lt_or_ge (F L).t.length (catTo F l z).length with h | h
                · have := HR.out.2 h; cases this
                · exact h))
              go_end0
              exact ⟨_, rfl, (HFIN.out _ (HBW.out.trans HB7.out) HC7.out).1, HOI.out, (HFIN.out _ (HBW.out.trans HB7.out) HC7.out).2⟩
            · rename_i h
              subst h
              have HOI := hidD (HGT.out hth (by
                rcases Nat.lt_or_ge (catTo F l z).length (F L).t.length with h | h
                · have := HR.out.1 h; cases this
                · exact h))
              go_end0
              exact ⟨F, rfl, HNX.out _ HB5.out, HOI.out, But.of (HBW.out.trans HB5.out) (Nat.le_of_lt hg)⟩
end Go.Proofs.YtgmbkelmgolkpabDoor
