/- What the document's New answers, of a key of 6 words. -/
import Derived.Test.YtgefampdfhbmbaaAsb
import Derived.Laws.Build
namespace Go.Proofs.Ytgefampdfhbmbaa
open Go.RowKit
set_option linter.unusedVariables false

set_option maxRecDepth 100000 in
set_option maxHeartbeats 1600000 in
theorem refNew_6 (l : List UInt8) (n : Nat) (hn : n = 6) (hl : l.length = 4 * n) (e1 : ((l.length : Int) != 16) = true) (e2 : ((l.length : Int) != 24) = false) (v : Value) (w : World) (hv : ByAt w v l) : Calls Try.prog 39 #[v] w fun e w' => ∃ b, e = .returned (.tuple #[.pointer (some ⟨b, 0, none⟩), .int .i64 0]) ∧ RcIn w' w.heap.size b n (blk l) ∧ Below w.heap.size w w' := by
  obtain ⟨a', cap, rfl, hsh⟩ := hv.shape
  have HKY : Hid (∀ j, j < 4 * n → ∃ g off, a' = some ⟨g, off, none⟩ ∧ g < w.heap.size ∧ w.cell? ⟨g, off + j, none⟩ = some (encB (blk l j))) := fun j hj => hsh j (by omega)
  clear hsh hv
  have hdiv : (l.length : Int) / 4 = (n : Int) := by omega
  have HLN : Hid (l.length = 4 * n) := hl
  have HN := hidD hn
  have hnb : n ≤ 8 := by omega
  have HBX := hidD (refBox_any w)
  have HAL : Hid (∀ (w' : World) o, Below w'.heap.size w' (w'.alloc o)) := fun w' o => (Below.refl _ _).alloc (Nat.le_refl _) o
  obtain ⟨i63, hi63, hz63, hs63, hb63⟩ := info_parts Try.info64
  have HSZ4 : Hid ((Try.prog.info? 64).map (·.size) = some 4) := (zero_of_info Try.zero64).2
  clear hn hl
  generalize blk l = key at *
  generalize l.length = LL at *
  go_enter Try.func39, Try.ntmps39
  go_wp2_with (go_at_call 61; refine HBX.out.mono ?_; rintro e w2 ⟨vb, rfl, hown, hb2⟩; obtain ⟨gb, cb, hve, hge, hgl, hcc⟩ := row_shapeC hown (by omega); subst hve; have HO2 := hidD hown; have HB2 := hidD hb2; have HGE := hidD hge; clear hown hb2 hge hgl hcc)
  have HBE : Hid (w.heap.size ≤ w2.heap.size) := HB2.out.size
  have hcb : ∃ CB, w2.heap[gb]? = some (.cells CB (5 : TypeId) (0, 0)) ∧ ∀ j, j < 256 → CB[j]? = some (.int .u8 (sbN j : Int)) := by
    rcases HO2.out.2 with ⟨h, _⟩ | ⟨g, cap', cur, he, _, hg, _, _, _, ht⟩
    · cases h
    · cases he
      refine ⟨cur, hg, fun j hj => ?_⟩
      have h1 : (cur.toList.take (256 * 1))[j]? = some (encB (subS (UInt8.ofNat j))) := by
        rw [ht, List.getElem?_map]
        unfold boxTo
        rw [List.getElem?_map, List.getElem?_range hj]; rfl
      rw [List.getElem?_take, if_pos (by omega), Array.getElem?_toList] at h1
      rw [h1]
      unfold encB
      rw [sub_sb, u8_nat (by omega)]
  obtain ⟨CB, hcb1, hcb2⟩ := hcb
  have HCB := hidD hcb2
  have HST : Hid (CpB (w2.alloc (.cells #[.slice none 0 0, .int .i64 ((n : Int) + 6), .slice (some ⟨gb, 0, none⟩) 256 cb] (35 : TypeId))) w.heap.size n w2.heap.size gb cb CB (wkTo n key 0) (.slice none 0 0) 0) := ⟨heap_alloc_last _ _, World.ownsRow_nil _ _ _ _, ((HAL.out w2 _).block _ (row_lt hcb1)).trans hcb1⟩
  have HSB : Hid (Below w.heap.size w (w2.alloc (.cells #[.slice none 0 0, .int .i64 ((n : Int) + 6), .slice (some ⟨gb, 0, none⟩) 256 cb] (35 : TypeId)))) := Below.next HB2.out (HAL.out _ _)
  have HGB := HGE
  clear hcb1 hcb2 HO2 HB2 HGE HBX
  generalize w2.alloc (.cells #[.slice none 0 0, .int .i64 ((n : Int) + 6), .slice (some ⟨gb, 0, none⟩) 256 cb] (35 : TypeId)) = W0 at *
  have HBE0 := HBE
  generalize w2.heap.size = b at *
  clear HBE w2
  go_loopw [6] (fun i wr => ∃ (k : Nat) (vW : Value), k ≤ n ∧ i = .int .i64 k ∧ CpB wr w.heap.size n b gb cb CB (wkTo n key 0) vW k ∧ Below w.heap.size w wr) (fun i _ => n - (intOf i).toNat)
  case atStart => exact ⟨0, _, Nat.zero_le _, rfl, HST.out, HSB.out⟩
  case round =>
    obtain ⟨k, vW, hk, rfl, hcp, hbel⟩ := hrel
    have HCP := hidD hcp
    have HBL := hidD hbel
    have HWS := hidD hbel.size
    by_cases hlt : k < n
    · have hlti : (k : Int) < (n : Int) := by omega
      obtain ⟨gk, ok, rfl, hgk, _⟩ := HKY.out (4 * k) (by omega)
      have hkc : ∀ t, t < 4 → ∀ i : KB wr [b, gk], i.v.cell? ⟨gk, ok + (4 * k + t), none⟩ = some (encB (key (4 * k + t))) := fun t ht i => by
        obtain ⟨g2, o2, he, hg2, hc2⟩ := HKY.out (4 * k + t) (by omega)
        cases he
        exact (i.cell (by simp) _).trans ((hbel.cell (p := ⟨gk, ok + (4 * k + t), none⟩) hg2).trans hc2)
      have hcW : ∀ i : KB wr [b, gk], i.v.cell? ⟨b, 0, none⟩ = some vW := fun i => by
        rw [i.cell (by simp) _, cell_of_row _ _ _ _ _ _ hcp.blk]; rfl
      have k0 : ∀ i : KB wr [b, gk], i.v.cell? ⟨gk, ok + 4 * k, none⟩ = some (.int .u8 ((key (4 * k)).toNat : Int)) := hkc 0 (by omega)
      have k1 := hkc 1 (by omega)
      have k2 := hkc 2 (by omega)
      have k3 := hkc 3 (by omega)
      simp only [encB] at k1 k2 k3
      have e0 : IntKind.i64.wrap (4 * (k : Int)) = ((4 * k : Nat) : Int) := by rw [IntKind.wrap_i64]; omega
      have e1 : IntKind.i64.wrap (((4 * k : Nat) : Int) + 1) = ((4 * k + 1 : Nat) : Int) := by rw [IntKind.wrap_i64]; omega
      have e2 : IntKind.i64.wrap (((4 * k : Nat) : Int) + 2) = ((4 * k + 2 : Nat) : Int) := by rw [IntKind.wrap_i64]; omega
      have e3 : IntKind.i64.wrap (((4 * k : Nat) : Int) + 3) = ((4 * k + 3 : Nat) : Int) := by rw [IntKind.wrap_i64]; omega
      have l0 : ((4 * k : Nat) : Int) < (LL : Int) := by have := HLN.out; omega
      have l1 : ((4 * k + 1 : Nat) : Int) < (LL : Int) := by have := HLN.out; omega
      have l2 : ((4 * k + 2 : Nat) : Int) < (LL : Int) := by have := HLN.out; omega
      have l3 : ((4 * k + 3 : Nat) : Int) < (LL : Int) := by have := HLN.out; omega
      have HNW : Hid (wdL (wkTo n key 0) (k + 1) = wdL (wkTo n key 0) k ++ [.int .u8 ((key (4 * k)).toNat : Int), .int .u8 ((key (4 * k + 1)).toNat : Int), .int .u8 ((key (4 * k + 2)).toNat : Int), .int .u8 ((key (4 * k + 3)).toNat : Int)]) := rfl
      have HGW : Hid (gk < w.heap.size) := hgk
      have HGK : Hid (gk < wr.heap.size) := by show _ < _; have := hbel.size; omega
      have HBB : Hid (b < wr.heap.size) := row_lt hcp.blk
      clear hkc hcp hbel
      generalize ((key (4 * k)).toNat : Int) = s0 at *
      generalize ((key (4 * k + 1)).toNat : Int) = s1 at *
      generalize ((key (4 * k + 2)).toNat : Int) = s2 at *
      generalize ((key (4 * k + 3)).toNat : Int) = s3 at *
      generalize h43 : 4 * k + 3 = i3 at *
      generalize h42 : 4 * k + 2 = i2 at *
      generalize h41 : 4 * k + 1 = i1 at *
      generalize h40 : 4 * k = i0 at *
      clear h43 h42 h41 h40
      go_wp2_with fail
      refine wp_region_loud [true, true, true, true, true, true, true, true, true, true, true, true, true, true, true, true, true, true, true, true, true, true, true, true, true, true, true, true, true, false, false, false, false] [b, gk] (by simp) (by kernel_rfl) rfl rfl (by kernel_rfl) (by kernel_rfl) (by kernel_rfl) (by kernel_rfl) (by kernel_rfl) (by kernel_rfl) (fun _ _ _ _ _ h => h) ?_
      simp only [List.dropLast_cons_cons, List.dropLast_singleton, List.getLast_cons_cons, List.getLast_singleton, List.cons_append, List.nil_append, mute, qPick, lPick]
      repeat (go_big_quiet_step (fail))
      refine wpQuiet_nil ?_
      simp only [LoudW]
      have HCD := hidD (HCP.out.next ((Below.refl wr.heap.size wr).drew))
      have HBD : Hid (Below w.heap.size w wr.drew) := HBL.out.drew
      have HKD : Hid (∀ w', Below wr.heap.size wr.drew w' → ∃ i : KB wr [b, gk], w' = i.v) := fun w' hb => ⟨⟨w', fun x hx => by
        rcases (show x = b ∨ x = gk by simpa using hx) with h | h <;> subst h
        · exact hb.block _ HBB.out
        · exact hb.block _ HGK.out⟩, rfl⟩
      generalize hWD : wr.drew = wd at *
      have hws : wd.heap.size = wr.heap.size := by rw [← hWD]; rfl
      have HSZ := hidD hws
      clear hWD hws
      go_wp2_with fail
      have HCA := hidD (HCD.out.next (HAL.out wd (.cells #[.int .u8 s0, .int .u8 s1, .int .u8 s2, .int .u8 s3] (64 : TypeId))))
      have HN4 := hidD (new_cell4 wd (.int .u8 s0) (.int .u8 s1) (.int .u8 s2) (.int .u8 s3) 64)
      have HBA : Hid (Below w.heap.size w (wd.alloc (.cells #[.int .u8 s0, .int .u8 s1, .int .u8 s2, .int .u8 s3] (64 : TypeId)))) := Below.next HBD.out (HAL.out _ _)
      refine ⟨HKD.out _ (by rw [← HSZ.out]; exact HAL.out _ _), ?_⟩
      generalize wd.heap.size = gn at *
      generalize wd.alloc (.cells #[.int .u8 s0, .int .u8 s1, .int .u8 s2, .int .u8 s3] (64 : TypeId)) = wA at *
      go_wp2_with (at_builtin; refine wpList_append_own _ rfl _ _ 33 rfl w.heap.size 64 i63 (.agg #[.int .u8 0, .int .u8 0, .int .u8 0, .int .u8 0]) 4 4 Try.underlying33 hi63 hz63 hs63 hb63 rfl (by decide) vW k (wdL (wkTo n key 0) k) rfl HCA.out.own ⟨gn, 0, none⟩ 1 1 [.int .u8 s0, .int .u8 s1, .int .u8 s2, .int .u8 s3] rfl rfl HN4.out (by simp [Value.oneCell']) (by unfold maxLen; omega) (by omega) HBA.out.size ?_; intro v4 w4 hown4 hg4 hnil4; obtain ⟨g4, c4, hv4, _, _, _⟩ := row_shapeC hown4 (by omega); subst hv4; have HO4 := hidD hown4; have HG4 := hidD hg4; clear hown4 hg4 hnil4)
      have HPU := hidD (HCA.out.push HO4.out HG4.out HNW.out)
      have hb4 := (HG4.out.block b (row_lt HCA.out.blk) (own_ne HCA.out.own HCA.out.blk (by decide))).trans HCA.out.blk
      have HBQ : Hid (Below w.heap.size w w4) := row_grown HCA.out.own HBA.out HG4.out HBA.out.size
      have HKQ : Hid (∃ i : KB wr [b, gk], w4 = i.v) := ⟨⟨w4, fun x hx => by
        rcases (show x = b ∨ x = gk by simpa using hx) with h | h <;> subst h
        · exact (HG4.out.block _ (row_lt HCA.out.blk) (own_ne HCA.out.own HCA.out.blk (by decide))).trans (HCA.out.blk.trans HCP.out.blk.symm)
        · exact (HBQ.out.block x HGW.out).trans (HBL.out.block x HGW.out).symm⟩, rfl⟩
      have hcq : w4.cell? ⟨b, 0, none⟩ = some vW := by rw [cell_of_row _ _ _ _ _ _ hb4]; rfl
      have hfq : w4.frozen? ⟨b, 0, none⟩ = false := frozen_of_row _ _ _ _ _ hb4
      clear hb4
      refine ⟨HKQ.out, ?_⟩
      go_wp2_with fail
      refine ⟨HKQ.out, ?_⟩
      go_wp2_with fail
      refine ⟨HKQ.out, ?_⟩
      go_wp2_with fail
      go_roundw
      case rel => exact ⟨k + 1, _, by omega, by go_num, HPU.out, below_setCell HBQ.out HBE0.out _ _⟩
      case measure => simp [intOf]; omega
    · have hkn : k = n := by omega
      subst hkn
      have hni : ¬ (k : Int) < (k : Int) := by omega
      have HC1 := HCP
      have HB1 := HBL
      clear hcp hbel HCP HBL HWS HST HSB hlt hk
      go_wp2_with fail
      go_loopw [7] (fun i wr => ∃ (m : Nat) (vW : Value), m ≤ 3 * k + 28 ∧ i = .int .i64 ((k + m : Nat) : Int) ∧ CpB wr w.heap.size k b gb cb CB (wkTo k key m) vW (k + m) ∧ Below w.heap.size w wr) (fun i _ => 4 * (k + 7) - (intOf i).toNat)
      case atStart => exact ⟨0, vW, by omega, rfl, HC1.out, HB1.out⟩
      case round =>
        clear HC1 HB1
        obtain ⟨wo, hwo⟩ : ∃ wo, wo = wr := ⟨_, rfl⟩
        subst hwo
        obtain ⟨m, vX, hm, rfl, hcp, hbel⟩ := hrel
        have HCP := hidD hcp
        have HBL := hidD hbel
        have HWS := hidD hbel.size
        have hcR : wo.cell? ⟨b, 1, none⟩ = some (.int .i64 ((k + 6 : Nat) : Int)) := by rw [cell_of_row _ _ _ _ _ _ hcp.blk]; rfl
        have hlim : 4 * (((k + 6 : Nat) : Int) + 1) = ((4 * (k + 7) : Nat) : Int) := by omega
        have HML := hidD hm
        by_cases hlt : m < 3 * k + 28
        · have hlti : ((k + m : Nat) : Int) < ((4 * (k + 7) : Nat) : Int) := by omega
          have hk0 : 0 < k := by have := HN.out; omega
          obtain ⟨gw, cw, hvx, _, hgwl, hcwl⟩ := row_shapeC hcp.own (by omega)
          subst hvx
          have hcW : wo.cell? ⟨b, 0, none⟩ = some (.slice (some ⟨gw, 0, none⟩) (k + m) cw) := by rw [cell_of_row _ _ _ _ _ _ hcp.blk]; rfl
          have HWD : Hid (∀ i, i < k + m → ∀ t, t < 4 → wo.cell? ⟨gw, i * 4 + t, none⟩ = some (.int .u8 ((wkTo k key m i t).toNat : Int))) := fun i hi t ht => by
            have h1 := hcp.own.cells (g := gw) rfl (4 * i + t) _ (wdL_at (wkTo k key m) hi t ht)
            rw [show (⟨gw, 0, none⟩ : Addr).add (4 * i + t) = ⟨gw, 0 + (4 * i + t), none⟩ from Addr.add_lit .., Nat.zero_add, show 4 * i + t = i * 4 + t by omega] at h1
            exact h1
          have d0 : wo.cell? ⟨gw, (k + m - 1) * 4, none⟩ = some (.int .u8 ((wkTo k key m (k + m - 1) 0).toNat : Int)) := HWD.out (k + m - 1) (by omega) 0 (by omega)
          have d1 := HWD.out (k + m - 1) (by omega) 1 (by omega)
          have d2 := HWD.out (k + m - 1) (by omega) 2 (by omega)
          have d3 := HWD.out (k + m - 1) (by omega) 3 (by omega)
          have hb1 : 4 * (k + 7) ≤ 60 := by omega
          have hb2 : k + 6 ≤ 14 := by omega
          have hb3 : k + m ≤ 60 := by omega
          have hb4 : k + m - 1 ≤ 60 := by omega
          have hI1 : ((k + m : Nat) : Int) - 1 = ((k + m - 1 : Nat) : Int) := by omega
          have hI2 : ((k + m - 1 : Nat) : Int) < ((k + m : Nat) : Int) := by omega
          by_cases hA : (k + m) % k = 0
          · have hAi : (((k + m : Nat) : Int) % (k : Int) == 0) = true := by
              have : ((k + m : Nat) : Int) % (k : Int) = 0 := by rw [← Int.natCast_emod, hA]; rfl
              simpa using this
            have hA2 : ((k + m : Nat) : Int) % (k : Int) = 0 := by rw [← Int.natCast_emod, hA]; rfl
            obtain ⟨cc, hcc⟩ : ∃ cc : Nat → UInt8, cc = fun j => subS (wkTo k key m (k + m - 1) ((j + 1) % 4)) ^^^ (if j = 0 then UInt8.ofNat (rndS (((k + m) / k : Nat) : Int)) else 0) := ⟨_, rfl⟩
            have HKN : Hid (∀ j, j < 4 → nwS k (wkTo k key m) (k + m) j = cc j ^^^ wkTo k key m (k + m - k) j) := fun j hj => by
              unfold nwS
              rw [if_pos hA, hcc]
            have HWX : Hid (∀ j, j < 4 → wo.cell? ⟨gw, (k + m - k) * 4 + j, none⟩ = some (.int .u8 ((wkTo k key m (k + m - k) j).toNat : Int))) := fun j hj => HWD.out (k + m - k) (by omega) j hj
            have hIk : ((k + m : Nat) : Int) - (k : Int) = ((k + m - k : Nat) : Int) := by omega
            have hIkl : ((k + m - k : Nat) : Int) < ((k + m : Nat) : Int) := by omega
            have hIkb : k + m - k ≤ 60 := by omega
            have HWN : Hid (wdL (wkTo k key (m + 1)) (k + m + 1) = wdL (wkTo k key m) (k + m) ++ [.int .u8 ((nwS k (wkTo k key m) (k + m) 0).toNat : Int), .int .u8 ((nwS k (wkTo k key m) (k + m) 1).toNat : Int), .int .u8 ((nwS k (wkTo k key m) (k + m) 2).toNat : Int), .int .u8 ((nwS k (wkTo k key m) (k + m) 3).toNat : Int)]) := by
              show wdL (wkTo k key (m + 1)) (k + m) ++ wdV (wkTo k key (m + 1)) (k + m) = _
              rw [wdL_congr (T := wkTo k key (m + 1)) (T' := wkTo k key m) (fun i hi j hj => wk_old hi)]
              unfold wdV encB
              rw [wk_new, wk_new, wk_new, wk_new]
            have HIM : Hid (k + m + 1 = k + (m + 1)) := by show _ = _; omega
            have HGWL := hidD hgwl
            have HIB : Hid (k + m ≤ 60) := hb3
            clear hm
            have HQU : Hid (swB (fun j => wkTo k key m (k + m - 1) ((j + 1) % 4)) = fun j => subS (wkTo k key m (k + m - 1) ((j + 1) % 4))) := rfl
            obtain ⟨rw4, hrw⟩ : ∃ rw4 : Nat → UInt8, rw4 = fun j => wkTo k key m (k + m - 1) ((j + 1) % 4) := ⟨_, rfl⟩
            have HWO : Hid (∀ wA, Below wo.heap.size wo wA → Calls Try.prog 62 #[.pointer (some ⟨b, 0, none⟩), .agg #[.int .u8 ((wkTo k key m (k + m - 1) 1).toNat : Int), .int .u8 ((wkTo k key m (k + m - 1) 2).toNat : Int), .int .u8 ((wkTo k key m (k + m - 1) 3).toNat : Int), .int .u8 ((wkTo k key m (k + m - 1) 0).toNat : Int)]] wA fun e w' => e = .returned (.agg (colR (swB rw4))) ∧ Below wA.heap.size wA w') := fun wA hb => by
              subst hrw
              exact refWord_any _ b gb cb wA ((HCP.out.bx HCB.out).next hb)
            have h4 : (colR (swB rw4)).size = 4 := rowZ_size _ _ _
            have HONE : Hid ((colR (swB rw4)).all (·.oneCell') = true) := rowZ_one _ _ _
            have HI4 : Hid ((Try.prog.info? 64).map (·.size) = some (colR (swB rw4)).size) := by rw [h4]; exact HSZ4.out
            have hqu : ((k + m : Nat) : Int) / (k : Int) = (((k + m) / k : Nat) : Int) := by rw [Int.natCast_ediv]
            have HRD : Hid (∀ w, Calls Try.prog 63 #[.int .i64 (((k + m) / k : Nat) : Int)] w fun e w' => e = .returned (.int .u8 (rndS (((k + m) / k : Nat) : Int) : Int)) ∧ Below w.heap.size w w') := fun w => (refRound_any _ (by have := Nat.div_le_self (k + m) k; omega) w).mono fun e w' ⟨h1, h2⟩ => ⟨h1, by rw [h2]; exact Below.refl _ _⟩
            have hqb : (k + m) / k ≤ 60 := by have := Nat.div_le_self (k + m) k; omega
            have hxr : bits .xor .u8 ((swB rw4 0).toNat : Int) (rndS (((k + m) / k : Nat) : Int) : Int) = ((cc 0).toNat : Int) := by
              have h1 : cc 0 = swB rw4 0 ^^^ UInt8.ofNat (rndS (((k + m) / k : Nat) : Int)) := by rw [hcc, hrw]; rfl
              rw [h1, UInt8.toNat_xor, u8_nat (rnd_lt _)]
              exact u8_xor_nat _ _ (u8_lt _) (rnd_lt _)
            have HCC : Hid (∀ j, j < 4 → (if j = 0 then ((cc 0).toNat : Int) else ((swB rw4 j).toNat : Int)) = ((cc j).toNat : Int)) := fun j hj => by
              by_cases h0 : j = 0
              · subst h0; rw [if_pos rfl]
              · rw [if_neg h0, hcc, hrw]
                show _ = (((subS (wkTo k key m (k + m - 1) ((j + 1) % 4))) ^^^ (if j = 0 then _ else 0) : UInt8).toNat : Int)
                rw [if_neg h0, UInt8.xor_zero]; rfl
            clear hbel hcp hA hrw hcc HQU
            generalize ((wkTo k key m (k + m - 1) 0).toNat : Int) = t0 at *
            generalize ((wkTo k key m (k + m - 1) 1).toNat : Int) = t1 at *
            generalize ((wkTo k key m (k + m - 1) 2).toNat : Int) = t2 at *
            generalize ((wkTo k key m (k + m - 1) 3).toNat : Int) = t3 at *
            generalize rndS (((k + m) / k : Nat) : Int) = rn at *
            generalize nwS k (wkTo k key m) (k + m) = nw at *
            generalize wkTo k key m (k + m - k) = tk at *
            generalize (k + m) / k = qu at *
            generalize k + m - k = Ik at *
            generalize k + m - 1 = I1 at *
            generalize 4 * (k + 7) = NW at *
            generalize k + 6 = R at *
            generalize hII : k + m = I at *
            clear hII
            have HCW : Hid (wo.cell? ⟨b, 0, none⟩ = some (.slice (some ⟨gw, 0, none⟩) I cw)) := hcW
            have HBB : Hid (b < wo.heap.size) := row_lt HCP.out.blk
            have HSZ2 : Hid ((wo.alloc (.cells #[.int .u8 t0, .int .u8 t1, .int .u8 t2, .int .u8 t3] (64 : TypeId))).heap.size = wo.heap.size + 1) := by show _ = _; simp
            have HBC : Hid ((wo.alloc (.cells #[.int .u8 t0, .int .u8 t1, .int .u8 t2, .int .u8 t3] (64 : TypeId))).heap[wo.heap.size]? = some (.cells #[.int .u8 t0, .int .u8 t1, .int .u8 t2, .int .u8 t3] (64 : TypeId) (0, 0))) := heap_alloc_last _ _
            go_wp2_with (first
              | (go_at_call 62; refine (HWO.out _ (HAL.out _ _)).mono ?_; rintro e w3 ⟨rfl, hb3⟩; have HB3 := hidD hb3; clear hb3; have HC3 : Hid (w3.heap[wo.heap.size]? = some (.cells #[.int .u8 t0, .int .u8 t1, .int .u8 t2, .int .u8 t3] (64 : TypeId) (0, 0))) := (HB3.out.block _ (by rw [HSZ2.out]; omega)).trans HBC.out)
              | (refine wpList_store_row rfl 64 _ _ rfl wo.heap.size (colR (swB rw4)) rfl rfl 64 #[.int .u8 t0, .int .u8 t1, .int .u8 t2, .int .u8 t3] HC3.out HI4.out (by rw [h4]; rfl) HONE.out ?_))
            have HB4 : Hid (Below wo.heap.size wo (w3.setRow wo.heap.size (colR (swB rw4)))) := below_setRow (Below.next (HAL.out wo _) HB3.out) (Nat.le_refl _) _
            have HR4 : Hid (RowZ (w3.setRow wo.heap.size (colR (swB rw4))) wo.heap.size .u8 4 64 (fun j => ((swB rw4 j).toNat : Int))) := setRow_heap _ _ #[.int .u8 t0, .int .u8 t1, .int .u8 t2, .int .u8 t3] (colR (swB rw4)) (64 : TypeId) (0, 0) HC3.out
            clear HB3 HC3 HBC HSZ2 HWO HI4 HONE h4 d0 d1 d2 d3 hcW hcR hAi hI1 hI2
            generalize w3.setRow wo.heap.size (colR (swB rw4)) = w5 at *
            generalize hG : wo.heap.size = G at *
            have HGT := hidD hG
            clear hG
            have hc0 : ∀ i : BW w5, i.v.cell? ⟨G, 0, none⟩ = some (.int .u8 ((swB rw4 0).toNat : Int)) := fun i => (i.below.cell (p := ⟨G, 0, none⟩) HR4.out.lt).trans (HR4.out.cell (by omega))
            have hf0 : ∀ i : BW w5, i.v.frozen? ⟨G, 0, none⟩ = false := fun i => (i.below.frozen (p := ⟨G, 0, none⟩) HR4.out.lt).trans (HR4.out.frozen 0)
            have HR5 : Hid (∀ i : BW w5, RowZ (i.v.setCell ⟨G, 0, none⟩ (.int .u8 ((cc 0).toNat : Int))) G .u8 4 64 (fun j => ((cc j).toNat : Int))) := fun i => ((HR4.out.next i.below).set (k := 0) (by omega) _).congr fun j hj => HCC.out j hj
            have HB5 : Hid (∀ (i : BW w5) v, Below G wo (i.v.setCell ⟨G, 0, none⟩ v)) := fun i v => below_setCell (HB4.out.trans (i.below.mono (by have := HR4.out.lt; omega))) (Nat.le_refl _) _ _
            have hkz : ¬ ((k : Int) = 0) := by omega
            have hkz2 : ((k : Int) == 0) = false := by simpa using hkz
            clear HR4 HB4
            generalize ((swB rw4 0).toNat : Int) = x0 at *
            generalize hc00 : ((cc 0).toNat : Int) = c0 at *
            clear hc00 HCC
            simp only [Act.put]
            refine wp_region_put (by simp) (by kernel_rfl) rfl (by kernel_rfl) (by kernel_rfl) (by kernel_rfl) ?_
            simp only [List.dropLast_cons_cons, List.dropLast_singleton, List.getLast_cons_cons, List.getLast_singleton, List.cons_append, List.nil_append, mute]
            repeat (go_big_quiet_step ((go_at_call 63; exact Calls.below_of (HRD.out _))))
            refine wpQuiet_nil ?_
            intro i
            go_wp2_with fail
            have HRT := hidD (HR5.out i)
            have HBR := hidD (HB5.out i (.int .u8 c0))
            clear hc0 hf0 HR5 HB5 hxr
            generalize i.v.setCell ⟨G, 0, none⟩ (.int .u8 c0) = wT at *
            go_loopw [9] (fun v wr' => ∃ j : Nat, j ≤ 4 ∧ v = .int .i64 j ∧ RowZ wr' G .u8 4 64 (fun i => ((if i < j then nw i else cc i : UInt8).toNat : Int)) ∧ But G wT wr') (fun v _ => 4 - (intOf v).toNat)
            case atStart => exact ⟨0, Nat.zero_le _, rfl, HRT.out, But.refl _ _⟩
            case round =>
              obtain ⟨j, hj, rfl, hrow, hbut⟩ := hrel
              by_cases hlj : j < 4
              · have hlji : (j : Int) < 4 := by omega
                have hbw : Below G wo wr := HBR.out.trans hbut.bel
                have hcj : ∀ i : BW wr, i.v.cell? ⟨G, j, none⟩ = some (.int .u8 ((cc j).toNat : Int)) := fun i => by
                  have := hrow.cell hlj
                  rw [if_neg (by omega)] at this
                  exact (i.below.cell (p := ⟨G, j, none⟩) hrow.lt).trans this
                have hcw : ∀ i : BW wr, i.v.cell? ⟨b, 0, none⟩ = some (.slice (some ⟨gw, 0, none⟩) I cw) := fun i => (i.below.cell (p := ⟨b, 0, none⟩) (Nat.lt_of_lt_of_le (by have := HGT.out; have := HBB.out; omega) (Nat.le_of_lt hrow.lt))).trans ((hbw.cell (p := ⟨b, 0, none⟩) (by have := HGT.out; have := HBB.out; omega)).trans HCW.out)
                have hcx : ∀ i : BW wr, i.v.cell? ⟨gw, Ik * 4 + j, none⟩ = some (.int .u8 ((tk j).toNat : Int)) := fun i => (i.below.cell (p := ⟨gw, Ik * 4 + j, none⟩) (Nat.lt_of_lt_of_le (by have := HGT.out; have := HGWL.out; omega) (Nat.le_of_lt hrow.lt))).trans ((hbw.cell (p := ⟨gw, Ik * 4 + j, none⟩) (by have := HGT.out; have := HGWL.out; omega)).trans (HWX.out j hlj))
                have hfj : ∀ i : BW wr, i.v.frozen? ⟨G, j, none⟩ = false := fun i => (i.below.frozen (p := ⟨G, j, none⟩) hrow.lt).trans (hrow.frozen j)
                have hxr : bits .xor .u8 ((cc j).toNat : Int) ((tk j).toNat : Int) = ((nw j).toNat : Int) := by rw [HKN.out j hlj, UInt8.toNat_xor]; exact u8_xor_nat _ _ (u8_lt _) (u8_lt _)
                have HSR : Hid (∀ i : BW wr, RowZ (i.v.setCell ⟨G, j, none⟩ (.int .u8 ((nw j).toNat : Int))) G .u8 4 64 (fun i => ((if i < j + 1 then nw i else cc i : UInt8).toNat : Int))) := fun i => by
                  refine ((hrow.next i.below).set hlj _).congr fun i hi => ?_
                  by_cases he : i = j
                  · subst he; rw [if_pos rfl, if_pos (by omega)]
                  · rw [if_neg he]
                    by_cases h2 : i < j
                    · rw [if_pos h2, if_pos (by omega)]
                    · rw [if_neg h2, if_neg (by omega)]
                have HSU : Hid (∀ (i : BW wr) v, But G wT (i.v.setCell ⟨G, j, none⟩ v)) := fun i v => (hbut.trans (But.of i.below (Nat.le_of_lt hrow.lt))).put _ _
                have hwk : IntKind.i64.wrap ((I : Int) - (k : Int)) = (Ik : Int) := by rw [IntKind.wrap_i64]; omega
                clear hrow hbut hbw
                generalize ((nw j).toNat : Int) = Z at *
                generalize ((cc j).toNat : Int) = X at *
                generalize ((tk j).toNat : Int) = Y at *
                go_wp2_with fail
                refine wp_region_put (by simp) (by kernel_rfl) rfl (by kernel_rfl) (by kernel_rfl) (by kernel_rfl) ?_
                simp only [List.dropLast_cons_cons, List.dropLast_singleton, List.getLast_cons_cons, List.getLast_singleton, List.cons_append, List.nil_append, mute]
                repeat (go_big_quiet_step (fail))
                refine wpQuiet_nil ?_
                intro i
                go_wp2_with fail
                go_roundw
                case rel => exact ⟨j + 1, by omega, by go_num, HSR.out _, HSU.out _ _⟩
                case measure => simp [intOf]; omega
              · obtain rfl : j = 4 := by omega
                have hb22 : Below G wo wr := HBR.out.trans hbut.bel
                have HCX := hidD (HCP.out.next (by rw [HGT.out]; exact hb22))
                have HBX2 : Hid (Below w.heap.size w wr) := HBL.out.trans (hb22.mono (by have := HGT.out; have := HWS.out; omega))
                have HBL2 : Hid (b < wr.heap.size) := row_lt HCX.out.blk
                have hcw : ∀ i : KB wr [b, G], i.v.cell? ⟨b, 0, none⟩ = some (.slice (some ⟨gw, 0, none⟩) I cw) := fun i => by
                  rw [i.cell (by simp) _, cell_of_row _ _ _ _ _ _ HCX.out.blk]; rfl
                have hz : ∀ t, t < 4 → ∀ i : KB wr [b, G], i.v.cell? ⟨G, t, none⟩ = some (.int .u8 ((nw t).toNat : Int)) := fun t ht i => by
                  have := hrow.cell ht
                  rw [if_pos ht] at this
                  exact (i.cell (by simp) _).trans this
                have z0 := hz 0 (by omega)
                have z1 := hz 1 (by omega)
                have z2 := hz 2 (by omega)
                have z3 := hz 3 (by omega)
                have HRG : Hid (wr.heap[G]? = some (.cells (rowZ .u8 4 (fun i => ((if i < 4 then nw i else cc i : UInt8).toNat : Int))) (64 : TypeId) (0, 0))) := hrow
                have HGW : Hid (some G ≠ (Value.slice (some ⟨gw, 0, none⟩) I cw).ownBlock) := by
                  show _ ≠ _
                  have := HGWL.out; have := HGT.out
                  simp [Value.ownBlock]; omega
                clear hz hrow hbut hb22 HWX HKN HCW hIk hIkl
                generalize ((nw 0).toNat : Int) = s0 at *
                generalize ((nw 1).toNat : Int) = s1 at *
                generalize ((nw 2).toNat : Int) = s2 at *
                generalize ((nw 3).toNat : Int) = s3 at *
                go_wp2_with fail
                refine wp_region_loud [true, true, true, true, true, true, false, false, false, false] [b, G] (by simp) (by kernel_rfl) rfl rfl (by kernel_rfl) (by kernel_rfl) (by kernel_rfl) (by kernel_rfl) (by kernel_rfl) (by kernel_rfl) (fun _ _ _ _ _ h => h) ?_
                simp only [List.dropLast_cons_cons, List.dropLast_singleton, List.getLast_cons_cons, List.getLast_singleton, List.cons_append, List.nil_append, mute, qPick, lPick]
                repeat (go_big_quiet_step (fail))
                refine wpQuiet_nil ?_
                simp only [LoudW]
                have HCD := hidD (HCX.out.next ((Below.refl wr.heap.size wr).drew))
                have HBD : Hid (Below w.heap.size w wr.drew) := HBX2.out.drew
                have HKD : Hid (∀ w', Below wr.heap.size wr.drew w' → ∃ i : KB wr [b, G], w' = i.v) := fun w' hb => ⟨⟨w', fun x hx => by
                  rcases (show x = b ∨ x = G by simpa using hx) with h | h <;> subst h
                  · exact hb.block _ HBL2.out
                  · exact hb.block _ (row_lt HRG.out)⟩, rfl⟩
                have HRD2 : Hid (wr.drew.heap[G]? = wr.heap[G]?) := rfl
                generalize hWD : wr.drew = wd at *
                have hws : wd.heap.size = wr.heap.size := by rw [← hWD]; rfl
                have HSZ := hidD hws
                clear hWD hws
                go_wp2_with fail
                have HCA := hidD (HCD.out.next (HAL.out wd (.cells #[.int .u8 s0, .int .u8 s1, .int .u8 s2, .int .u8 s3] (64 : TypeId))))
                have HRA : Hid ((wd.alloc (.cells #[.int .u8 s0, .int .u8 s1, .int .u8 s2, .int .u8 s3] (64 : TypeId))).heap[G]? = some (.cells (rowZ .u8 4 (fun i => ((if i < 4 then nw i else cc i : UInt8).toNat : Int))) (64 : TypeId) (0, 0))) := ((HAL.out wd _).block _ (by rw [HSZ.out]; exact row_lt HRG.out)).trans (HRD2.out.trans HRG.out)
                have HN4 := hidD (new_cell4 wd (.int .u8 s0) (.int .u8 s1) (.int .u8 s2) (.int .u8 s3) 64)
                have HBA : Hid (Below w.heap.size w (wd.alloc (.cells #[.int .u8 s0, .int .u8 s1, .int .u8 s2, .int .u8 s3] (64 : TypeId)))) := Below.next HBD.out (HAL.out _ _)
                refine ⟨HKD.out _ (by rw [← HSZ.out]; exact HAL.out _ _), ?_⟩
                generalize wd.heap.size = gn at *
                generalize wd.alloc (.cells #[.int .u8 s0, .int .u8 s1, .int .u8 s2, .int .u8 s3] (64 : TypeId)) = wA at *
                go_wp2_with (at_builtin; refine wpList_append_own _ rfl _ _ 33 rfl w.heap.size 64 i63 (.agg #[.int .u8 0, .int .u8 0, .int .u8 0, .int .u8 0]) 4 4 Try.underlying33 hi63 hz63 hs63 hb63 rfl (by decide) (.slice (some ⟨gw, 0, none⟩) I cw) I (wdL (wkTo k key m) I) rfl HCA.out.own ⟨gn, 0, none⟩ 1 1 [.int .u8 s0, .int .u8 s1, .int .u8 s2, .int .u8 s3] rfl rfl HN4.out (by simp [Value.oneCell']) (by unfold maxLen; omega) (by omega) HBA.out.size ?_; intro v4 w4 hown4 hg4 hnil4; obtain ⟨g4, c4, hv4, _, _, _⟩ := row_shapeC hown4 (by omega); subst hv4; have HO4 := hidD hown4; have HG4 := hidD hg4; clear hown4 hg4 hnil4)
                have HPU := hidD (HCA.out.push HO4.out HG4.out HWN.out)
                have hb4 := (HG4.out.block b (row_lt HCA.out.blk) (own_ne HCA.out.own HCA.out.blk (by decide))).trans HCA.out.blk
                have HBQ : Hid (Below w.heap.size w w4) := row_grown HCA.out.own HBA.out HG4.out HBA.out.size
                have HKQ : Hid (∃ i : KB wr [b, G], w4 = i.v) := ⟨⟨w4, fun x hx => by
                  rcases (show x = b ∨ x = G by simpa using hx) with h | h <;> subst h
                  · exact (HG4.out.block _ (row_lt HCA.out.blk) (own_ne HCA.out.own HCA.out.blk (by decide))).trans (HCA.out.blk.trans HCX.out.blk.symm)
                  · exact (HG4.out.block _ (row_lt HRA.out) HGW.out).trans (HRA.out.trans HRG.out.symm)⟩, rfl⟩
                have hcq : w4.cell? ⟨b, 0, none⟩ = some (.slice (some ⟨gw, 0, none⟩) I cw) := by rw [cell_of_row _ _ _ _ _ _ hb4]; rfl
                have hfq : w4.frozen? ⟨b, 0, none⟩ = false := frozen_of_row _ _ _ _ _ hb4
                clear hb4
                refine ⟨HKQ.out, ?_⟩
                go_wp2_with fail
                refine ⟨HKQ.out, ?_⟩
                go_wp2_with fail
                refine ⟨HKQ.out, ?_⟩
                go_wp2_with fail
                go_roundw
                case rel => exact ⟨m + 1, _, by omega, by rw [← HIM.out]; go_num, by rw [← HIM.out]; exact HPU.out, below_setCell HBQ.out HBE0.out _ _⟩
                case measure => simp [intOf]; omega
          · have hAi : (((k + m : Nat) : Int) % (k : Int) == 0) = false := by
              have : ¬ ((k + m : Nat) : Int) % (k : Int) = 0 := by rw [← Int.natCast_emod]; exact fun h => hA (Int.ofNat.inj h)
              simpa using this
            have hB : ¬ (k = 8 ∧ (k + m) % 8 = 4) := by have := HN.out; omega
            have hk8 : ((k : Int) == 8) = false := by
              have : ¬ (k : Int) = 8 := by have := HN.out; omega
              simpa using this
            have HKN : Hid (∀ j, j < 4 → nwS k (wkTo k key m) (k + m) j = wkTo k key m (k + m - 1) j ^^^ wkTo k key m (k + m - k) j) := fun j hj => by
              unfold nwS
              rw [if_neg hA, if_neg hB]
            have HWX : Hid (∀ j, j < 4 → wo.cell? ⟨gw, (k + m - k) * 4 + j, none⟩ = some (.int .u8 ((wkTo k key m (k + m - k) j).toNat : Int))) := fun j hj => HWD.out (k + m - k) (by omega) j hj
            have hIk : ((k + m : Nat) : Int) - (k : Int) = ((k + m - k : Nat) : Int) := by omega
            have hIkl : ((k + m - k : Nat) : Int) < ((k + m : Nat) : Int) := by omega
            have hIkb : k + m - k ≤ 60 := by omega
            have HWN : Hid (wdL (wkTo k key (m + 1)) (k + m + 1) = wdL (wkTo k key m) (k + m) ++ [.int .u8 ((nwS k (wkTo k key m) (k + m) 0).toNat : Int), .int .u8 ((nwS k (wkTo k key m) (k + m) 1).toNat : Int), .int .u8 ((nwS k (wkTo k key m) (k + m) 2).toNat : Int), .int .u8 ((nwS k (wkTo k key m) (k + m) 3).toNat : Int)]) := by
              show wdL (wkTo k key (m + 1)) (k + m) ++ wdV (wkTo k key (m + 1)) (k + m) = _
              rw [wdL_congr (T := wkTo k key (m + 1)) (T' := wkTo k key m) (fun i hi j hj => wk_old hi)]
              unfold wdV encB
              rw [wk_new, wk_new, wk_new, wk_new]
            have HIM : Hid (k + m + 1 = k + (m + 1)) := by show _ = _; omega
            have HGWL := hidD hgwl
            have HIB : Hid (k + m ≤ 60) := hb3
            clear hm
            clear hbel hcp hA hB
            generalize wkTo k key m (k + m - 1) = cc at *
            generalize nwS k (wkTo k key m) (k + m) = nw at *
            generalize wkTo k key m (k + m - k) = tk at *
            generalize k + m - k = Ik at *
            generalize k + m - 1 = I1 at *
            generalize 4 * (k + 7) = NW at *
            generalize k + 6 = R at *
            generalize hII : k + m = I at *
            clear hII
            have HCW : Hid (wo.cell? ⟨b, 0, none⟩ = some (.slice (some ⟨gw, 0, none⟩) I cw)) := hcW
            have HBB : Hid (b < wo.heap.size) := row_lt HCP.out.blk
            have HRT : Hid (RowZ (wo.alloc (.cells #[.int .u8 ((cc 0).toNat : Int), .int .u8 ((cc 1).toNat : Int), .int .u8 ((cc 2).toNat : Int), .int .u8 ((cc 3).toNat : Int)] (64 : TypeId))) wo.heap.size .u8 4 64 (fun j => ((cc j).toNat : Int))) := heap_alloc_last _ _
            generalize ((cc 0).toNat : Int) = t0 at *
            generalize ((cc 1).toNat : Int) = t1 at *
            generalize ((cc 2).toNat : Int) = t2 at *
            generalize ((cc 3).toNat : Int) = t3 at *
            go_wp2_with fail
            have HBR : Hid (Below wo.heap.size wo (wo.alloc (.cells #[.int .u8 t0, .int .u8 t1, .int .u8 t2, .int .u8 t3] (64 : TypeId)))) := HAL.out _ _
            clear d0 d1 d2 d3 hcW hcR hAi hI1 hI2
            generalize wo.alloc (.cells #[.int .u8 t0, .int .u8 t1, .int .u8 t2, .int .u8 t3] (64 : TypeId)) = wT at *
            generalize hG : wo.heap.size = G at *
            have HGT := hidD hG
            clear hG
            go_loopw [9] (fun v wr' => ∃ j : Nat, j ≤ 4 ∧ v = .int .i64 j ∧ RowZ wr' G .u8 4 64 (fun i => ((if i < j then nw i else cc i : UInt8).toNat : Int)) ∧ But G wT wr') (fun v _ => 4 - (intOf v).toNat)
            case atStart => exact ⟨0, Nat.zero_le _, rfl, HRT.out, But.refl _ _⟩
            case round =>
              obtain ⟨j, hj, rfl, hrow, hbut⟩ := hrel
              by_cases hlj : j < 4
              · have hlji : (j : Int) < 4 := by omega
                have hbw : Below G wo wr := HBR.out.trans hbut.bel
                have hcj : ∀ i : BW wr, i.v.cell? ⟨G, j, none⟩ = some (.int .u8 ((cc j).toNat : Int)) := fun i => by
                  have := hrow.cell hlj
                  rw [if_neg (by omega)] at this
                  exact (i.below.cell (p := ⟨G, j, none⟩) hrow.lt).trans this
                have hcw : ∀ i : BW wr, i.v.cell? ⟨b, 0, none⟩ = some (.slice (some ⟨gw, 0, none⟩) I cw) := fun i => (i.below.cell (p := ⟨b, 0, none⟩) (Nat.lt_of_lt_of_le (by have := HGT.out; have := HBB.out; omega) (Nat.le_of_lt hrow.lt))).trans ((hbw.cell (p := ⟨b, 0, none⟩) (by have := HGT.out; have := HBB.out; omega)).trans HCW.out)
                have hcx : ∀ i : BW wr, i.v.cell? ⟨gw, Ik * 4 + j, none⟩ = some (.int .u8 ((tk j).toNat : Int)) := fun i => (i.below.cell (p := ⟨gw, Ik * 4 + j, none⟩) (Nat.lt_of_lt_of_le (by have := HGT.out; have := HGWL.out; omega) (Nat.le_of_lt hrow.lt))).trans ((hbw.cell (p := ⟨gw, Ik * 4 + j, none⟩) (by have := HGT.out; have := HGWL.out; omega)).trans (HWX.out j hlj))
                have hfj : ∀ i : BW wr, i.v.frozen? ⟨G, j, none⟩ = false := fun i => (i.below.frozen (p := ⟨G, j, none⟩) hrow.lt).trans (hrow.frozen j)
                have hxr : bits .xor .u8 ((cc j).toNat : Int) ((tk j).toNat : Int) = ((nw j).toNat : Int) := by rw [HKN.out j hlj, UInt8.toNat_xor]; exact u8_xor_nat _ _ (u8_lt _) (u8_lt _)
                have HSR : Hid (∀ i : BW wr, RowZ (i.v.setCell ⟨G, j, none⟩ (.int .u8 ((nw j).toNat : Int))) G .u8 4 64 (fun i => ((if i < j + 1 then nw i else cc i : UInt8).toNat : Int))) := fun i => by
                  refine ((hrow.next i.below).set hlj _).congr fun i hi => ?_
                  by_cases he : i = j
                  · subst he; rw [if_pos rfl, if_pos (by omega)]
                  · rw [if_neg he]
                    by_cases h2 : i < j
                    · rw [if_pos h2, if_pos (by omega)]
                    · rw [if_neg h2, if_neg (by omega)]
                have HSU : Hid (∀ (i : BW wr) v, But G wT (i.v.setCell ⟨G, j, none⟩ v)) := fun i v => (hbut.trans (But.of i.below (Nat.le_of_lt hrow.lt))).put _ _
                have hwk : IntKind.i64.wrap ((I : Int) - (k : Int)) = (Ik : Int) := by rw [IntKind.wrap_i64]; omega
                clear hrow hbut hbw
                generalize ((nw j).toNat : Int) = Z at *
                generalize ((cc j).toNat : Int) = X at *
                generalize ((tk j).toNat : Int) = Y at *
                go_wp2_with fail
                refine wp_region_put (by simp) (by kernel_rfl) rfl (by kernel_rfl) (by kernel_rfl) (by kernel_rfl) ?_
                simp only [List.dropLast_cons_cons, List.dropLast_singleton, List.getLast_cons_cons, List.getLast_singleton, List.cons_append, List.nil_append, mute]
                repeat (go_big_quiet_step (fail))
                refine wpQuiet_nil ?_
                intro i
                go_wp2_with fail
                go_roundw
                case rel => exact ⟨j + 1, by omega, by go_num, HSR.out _, HSU.out _ _⟩
                case measure => simp [intOf]; omega
              · obtain rfl : j = 4 := by omega
                have hb22 : Below G wo wr := HBR.out.trans hbut.bel
                have HCX := hidD (HCP.out.next (by rw [HGT.out]; exact hb22))
                have HBX2 : Hid (Below w.heap.size w wr) := HBL.out.trans (hb22.mono (by have := HGT.out; have := HWS.out; omega))
                have HBL2 : Hid (b < wr.heap.size) := row_lt HCX.out.blk
                have hcw : ∀ i : KB wr [b, G], i.v.cell? ⟨b, 0, none⟩ = some (.slice (some ⟨gw, 0, none⟩) I cw) := fun i => by
                  rw [i.cell (by simp) _, cell_of_row _ _ _ _ _ _ HCX.out.blk]; rfl
                have hz : ∀ t, t < 4 → ∀ i : KB wr [b, G], i.v.cell? ⟨G, t, none⟩ = some (.int .u8 ((nw t).toNat : Int)) := fun t ht i => by
                  have := hrow.cell ht
                  rw [if_pos ht] at this
                  exact (i.cell (by simp) _).trans this
                have z0 := hz 0 (by omega)
                have z1 := hz 1 (by omega)
                have z2 := hz 2 (by omega)
                have z3 := hz 3 (by omega)
                have HRG : Hid (wr.heap[G]? = some (.cells (rowZ .u8 4 (fun i => ((if i < 4 then nw i else cc i : UInt8).toNat : Int))) (64 : TypeId) (0, 0))) := hrow
                have HGW : Hid (some G ≠ (Value.slice (some ⟨gw, 0, none⟩) I cw).ownBlock) := by
                  show _ ≠ _
                  have := HGWL.out; have := HGT.out
                  simp [Value.ownBlock]; omega
                clear hz hrow hbut hb22 HWX HKN HCW hIk hIkl
                generalize ((nw 0).toNat : Int) = s0 at *
                generalize ((nw 1).toNat : Int) = s1 at *
                generalize ((nw 2).toNat : Int) = s2 at *
                generalize ((nw 3).toNat : Int) = s3 at *
                go_wp2_with fail
                refine wp_region_loud [true, true, true, true, true, true, false, false, false, false] [b, G] (by simp) (by kernel_rfl) rfl rfl (by kernel_rfl) (by kernel_rfl) (by kernel_rfl) (by kernel_rfl) (by kernel_rfl) (by kernel_rfl) (fun _ _ _ _ _ h => h) ?_
                simp only [List.dropLast_cons_cons, List.dropLast_singleton, List.getLast_cons_cons, List.getLast_singleton, List.cons_append, List.nil_append, mute, qPick, lPick]
                repeat (go_big_quiet_step (fail))
                refine wpQuiet_nil ?_
                simp only [LoudW]
                have HCD := hidD (HCX.out.next ((Below.refl wr.heap.size wr).drew))
                have HBD : Hid (Below w.heap.size w wr.drew) := HBX2.out.drew
                have HKD : Hid (∀ w', Below wr.heap.size wr.drew w' → ∃ i : KB wr [b, G], w' = i.v) := fun w' hb => ⟨⟨w', fun x hx => by
                  rcases (show x = b ∨ x = G by simpa using hx) with h | h <;> subst h
                  · exact hb.block _ HBL2.out
                  · exact hb.block _ (row_lt HRG.out)⟩, rfl⟩
                have HRD2 : Hid (wr.drew.heap[G]? = wr.heap[G]?) := rfl
                generalize hWD : wr.drew = wd at *
                have hws : wd.heap.size = wr.heap.size := by rw [← hWD]; rfl
                have HSZ := hidD hws
                clear hWD hws
                go_wp2_with fail
                have HCA := hidD (HCD.out.next (HAL.out wd (.cells #[.int .u8 s0, .int .u8 s1, .int .u8 s2, .int .u8 s3] (64 : TypeId))))
                have HRA : Hid ((wd.alloc (.cells #[.int .u8 s0, .int .u8 s1, .int .u8 s2, .int .u8 s3] (64 : TypeId))).heap[G]? = some (.cells (rowZ .u8 4 (fun i => ((if i < 4 then nw i else cc i : UInt8).toNat : Int))) (64 : TypeId) (0, 0))) := ((HAL.out wd _).block _ (by rw [HSZ.out]; exact row_lt HRG.out)).trans (HRD2.out.trans HRG.out)
                have HN4 := hidD (new_cell4 wd (.int .u8 s0) (.int .u8 s1) (.int .u8 s2) (.int .u8 s3) 64)
                have HBA : Hid (Below w.heap.size w (wd.alloc (.cells #[.int .u8 s0, .int .u8 s1, .int .u8 s2, .int .u8 s3] (64 : TypeId)))) := Below.next HBD.out (HAL.out _ _)
                refine ⟨HKD.out _ (by rw [← HSZ.out]; exact HAL.out _ _), ?_⟩
                generalize wd.heap.size = gn at *
                generalize wd.alloc (.cells #[.int .u8 s0, .int .u8 s1, .int .u8 s2, .int .u8 s3] (64 : TypeId)) = wA at *
                go_wp2_with (at_builtin; refine wpList_append_own _ rfl _ _ 33 rfl w.heap.size 64 i63 (.agg #[.int .u8 0, .int .u8 0, .int .u8 0, .int .u8 0]) 4 4 Try.underlying33 hi63 hz63 hs63 hb63 rfl (by decide) (.slice (some ⟨gw, 0, none⟩) I cw) I (wdL (wkTo k key m) I) rfl HCA.out.own ⟨gn, 0, none⟩ 1 1 [.int .u8 s0, .int .u8 s1, .int .u8 s2, .int .u8 s3] rfl rfl HN4.out (by simp [Value.oneCell']) (by unfold maxLen; omega) (by omega) HBA.out.size ?_; intro v4 w4 hown4 hg4 hnil4; obtain ⟨g4, c4, hv4, _, _, _⟩ := row_shapeC hown4 (by omega); subst hv4; have HO4 := hidD hown4; have HG4 := hidD hg4; clear hown4 hg4 hnil4)
                have HPU := hidD (HCA.out.push HO4.out HG4.out HWN.out)
                have hb4 := (HG4.out.block b (row_lt HCA.out.blk) (own_ne HCA.out.own HCA.out.blk (by decide))).trans HCA.out.blk
                have HBQ : Hid (Below w.heap.size w w4) := row_grown HCA.out.own HBA.out HG4.out HBA.out.size
                have HKQ : Hid (∃ i : KB wr [b, G], w4 = i.v) := ⟨⟨w4, fun x hx => by
                  rcases (show x = b ∨ x = G by simpa using hx) with h | h <;> subst h
                  · exact (HG4.out.block _ (row_lt HCA.out.blk) (own_ne HCA.out.own HCA.out.blk (by decide))).trans (HCA.out.blk.trans HCX.out.blk.symm)
                  · exact (HG4.out.block _ (row_lt HRA.out) HGW.out).trans (HRA.out.trans HRG.out.symm)⟩, rfl⟩
                have hcq : w4.cell? ⟨b, 0, none⟩ = some (.slice (some ⟨gw, 0, none⟩) I cw) := by rw [cell_of_row _ _ _ _ _ _ hb4]; rfl
                have hfq : w4.frozen? ⟨b, 0, none⟩ = false := frozen_of_row _ _ _ _ _ hb4
                clear hb4
                refine ⟨HKQ.out, ?_⟩
                go_wp2_with fail
                refine ⟨HKQ.out, ?_⟩
                go_wp2_with fail
                refine ⟨HKQ.out, ?_⟩
                go_wp2_with fail
                go_roundw
                case rel => exact ⟨m + 1, _, by omega, by rw [← HIM.out]; go_num, by rw [← HIM.out]; exact HPU.out, below_setCell HBQ.out HBE0.out _ _⟩
                case measure => simp [intOf]; omega
        · have hmm : m = 3 * k + 28 := by omega
          have hend : ¬ ((k + m : Nat) : Int) < ((4 * (k + 7) : Nat) : Int) := by omega
          have HFI : Hid (RcIn wo w.heap.size b k key) := by
            have h1 : CpB wo w.heap.size k b gb cb CB (wkTo k key (3 * k + 28)) vX (k + (3 * k + 28)) := by rw [← hmm]; exact HCP.out
            rw [show k + (3 * k + 28) = 4 * (k + 7) by omega] at h1
            exact h1.done (by have := HN.out; omega) HCB.out HBE0.out HGB.out
          have hb1 : 4 * (k + 7) ≤ 60 := by omega
          have hb2 : k + 6 ≤ 14 := by omega
          have hb3 : k + m ≤ 60 := by omega
          clear hcp hbel hlt hm hmm
          generalize 4 * (k + 7) = NW at *
          generalize k + 6 = R at *
          generalize k + m = I at *
          go_wp2_with fail
          refine bodyPost_ret (v := .tuple #[.pointer (some ⟨b, 0, none⟩), .int .i64 0]) (by simp [results, Try.results39, go_sem]) rfl ?_
          exact ⟨b, rfl, HFI.out, HBL.out⟩
end Go.Proofs.Ytgefampdfhbmbaa
