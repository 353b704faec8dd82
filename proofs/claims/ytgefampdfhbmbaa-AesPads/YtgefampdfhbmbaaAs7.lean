/- What the document's mix answers. -/
import Derived.Test.YtgefampdfhbmbaaMe
namespace Go.Proofs.Ytgefampdfhbmbaa
open Go.RowKit
set_option linter.unusedVariables false

set_option maxRecDepth 100000 in
set_option maxHeartbeats 1600000 in
theorem refMixB_any (s : Nat → UInt8) (w : World) : Calls Try.prog 47 #[.agg (bR s), .bool false] w fun e w' => e = .returned (.agg (bR (mcB mixM s))) ∧ Below w.heap.size w w' := by
  have HM := hidD (fun c w => refMix_any c w)
  obtain ⟨hz, hsz⟩ := zero_of_info Try.zero50
  obtain ⟨hz4, hsz4⟩ := zero_of_info Try.zero64'
  obtain ⟨b1, b2, b3, b4⟩ := two_blocks w (bR s) (rowZ .u8 16 (fun _ => 0)) 50
  have W1 := hidD b1
  have W2 := hidD b2
  have W3 := hidD b3
  clear b1 b2 b3 b4
  go_enter Try.func47, Try.ntmps47
  go_wp2_with fail
  generalize hW : World.alloc _ (Obj.cells (rowZ .u8 16 (fun _ => 0)) (50 : TypeId)) = W
  have V1 : Hid (RowZ W w.heap.size .u8 16 50 (fun i => ((s i).toNat : Int))) := by rw [← hW]; exact W1.out
  have V2 : Hid (RowZ W (w.heap.size + 1) .u8 16 50 (fun _ => 0)) := by rw [← hW]; exact W2.out
  have V3 : Hid (Below w.heap.size w W) := by rw [← hW]; exact W3.out
  clear hW W1 W2 W3
  generalize hg : w.heap.size = g at *
  have HG := hidD hg
  clear hg
  go_loopw [5] (fun i wr => ∃ k : Nat, k ≤ 4 ∧ i = .int .i64 k ∧ RowZ wr g .u8 16 50 (fun j => ((if j < 4 * k then mcB mixM s j else s j : UInt8).toNat : Int)) ∧ But g W wr) (fun i _ => 4 - (intOf i).toNat)
  case atStart => exact ⟨0, Nat.zero_le _, rfl, V1.out, But.refl _ _⟩
  case round =>
    obtain ⟨i, hi, rfl, hrow, hbut⟩ := hrel
    have HBU := hidD hbut
    have HRW := hidD hrow
    obtain ⟨wo, hwo⟩ : ∃ wo, wo = wr := ⟨_, rfl⟩
    subst hwo
    by_cases hlt : i < 4
    · have hlti : (i : Int) < 4 := by omega
      have e0 : IntKind.i64.wrap (4 * (i : Int)) = ((4 * i : Nat) : Int) := by rw [IntKind.wrap_i64]; omega
      have e1 : IntKind.i64.wrap (((4 * i : Nat) : Int) + 1) = ((4 * i + 1 : Nat) : Int) := by rw [IntKind.wrap_i64]; omega
      have e2 : IntKind.i64.wrap (((4 * i : Nat) : Int) + 2) = ((4 * i + 2 : Nat) : Int) := by rw [IntKind.wrap_i64]; omega
      have e3 : IntKind.i64.wrap (((4 * i : Nat) : Int) + 3) = ((4 * i + 3 : Nat) : Int) := by rw [IntKind.wrap_i64]; omega
      have l0 : ((4 * i : Nat) : Int) < 16 := by omega
      have l1 : ((4 * i + 1 : Nat) : Int) < 16 := by omega
      have l2 : ((4 * i + 2 : Nat) : Int) < 16 := by omega
      have l3 : ((4 * i + 3 : Nat) : Int) < 16 := by omega
      have cc : ∀ t, t < 4 → wo.cell? ⟨g, 4 * i + t, none⟩ = some (.int .u8 ((s (4 * i + t)).toNat : Int)) := fun t ht => by
        have := hrow.cell (k := 4 * i + t) (by omega)
        rw [if_neg (by omega)] at this; exact this
      have c0 : wo.cell? ⟨g, 4 * i, none⟩ = some (.int .u8 ((s (4 * i)).toNat : Int)) := cc 0 (by omega)
      have c1 := cc 1 (by omega)
      have c2 := cc 2 (by omega)
      have c3 := cc 3 (by omega)
      have hgl := hrow.lt
      have kk : ∀ o t, t < 4 → (wo.drew.alloc o).cell? ⟨g, 4 * i + t, none⟩ = some (.int .u8 ((s (4 * i + t)).toNat : Int)) := fun o t ht => ((((Below.refl wo.heap.size wo).drew).alloc (Nat.le_refl _) o).cell (p := ⟨g, 4 * i + t, none⟩) hgl).trans (cc t ht)
      have HK : Hid (∀ o, (wo.drew.alloc o).cell? ⟨g, 4 * i, none⟩ = some (.int .u8 ((s (4 * i)).toNat : Int)) ∧ (wo.drew.alloc o).cell? ⟨g, 4 * i + 1, none⟩ = some (.int .u8 ((s (4 * i + 1)).toNat : Int)) ∧ (wo.drew.alloc o).cell? ⟨g, 4 * i + 2, none⟩ = some (.int .u8 ((s (4 * i + 2)).toNat : Int)) ∧ (wo.drew.alloc o).cell? ⟨g, 4 * i + 3, none⟩ = some (.int .u8 ((s (4 * i + 3)).toNat : Int))) := fun o => ⟨kk o 0 (by omega), kk o 1 (by omega), kk o 2 (by omega), kk o 3 (by omega)⟩
      have HCO : Hid (colR (fun t => s (4 * i + t)) = #[.int .u8 ((s (4 * i)).toNat : Int), .int .u8 ((s (4 * i + 1)).toNat : Int), .int .u8 ((s (4 * i + 2)).toNat : Int), .int .u8 ((s (4 * i + 3)).toNat : Int)]) := rfl
      have HMC := hidD (fun w => HM.out (fun t => s (4 * i + t)) w)
      rw [HCO.out] at HMC
      have HONE : Hid ((colR (mixS (fun t => s (4 * i + t)) mixM)).all (·.oneCell') = true) := rowZ_one _ _ _
      have h4 : (colR (mixS (fun t => s (4 * i + t)) mixM)).size = 4 := rowZ_size _ _ _
      have HCE : Hid (∀ t, t < 4 → mixS (fun t => s (4 * i + t)) mixM t = mcB mixM s (4 * i + t)) := fun t ht => by
        unfold mcB
        rw [show (4 * i + t) / 4 = i by omega, show (4 * i + t) % 4 = t by omega]
      have HCR : Hid (∀ t, t < 4 → (colR (mixS (fun t => s (4 * i + t)) mixM))[t]? = some (.int .u8 ((mcB mixM s (4 * i + t)).toNat : Int))) := fun t ht => by
        show (rowZ .u8 4 _)[t]? = _
        rw [rowZ_get .u8 4 _ t ht, HCE.out t ht]
      clear HCE
      generalize colR (mixS (fun t => s (4 * i + t)) mixM) = C at *
      have hi4 : (Try.prog.info? 64).map (·.size) = some C.size := by rw [hsz4, h4]
      clear cc kk hrow hbut
      generalize ((s (4 * i)).toNat : Int) = s0 at *
      generalize ((s (4 * i + 1)).toNat : Int) = s1 at *
      generalize ((s (4 * i + 2)).toNat : Int) = s2 at *
      generalize ((s (4 * i + 3)).toNat : Int) = s3 at *
      generalize h43 : 4 * i + 3 = i3 at *
      generalize h42 : 4 * i + 2 = i2 at *
      generalize h41 : 4 * i + 1 = i1 at *
      generalize h40 : 4 * i = i00 at *
      have H40 := hidD h40
      clear h43 h42 h41 h40
      go_wp2_with fail
      go_region_held_law (fun w' => w'.cell? ⟨g, i00, none⟩ = some (.int .u8 s0) ∧ w'.cell? ⟨g, i1, none⟩ = some (.int .u8 s1) ∧ w'.cell? ⟨g, i2, none⟩ = some (.int .u8 s2) ∧ w'.cell? ⟨g, i3, none⟩ = some (.int .u8 s3)) (first | exact HK.out _ | go_keep) (fail)
      have HBN : Hid (Below wo.heap.size wo ((wo.alloc (.cells #[.int .u8 s0, .int .u8 s1, .int .u8 s2, .int .u8 s3] (64 : TypeId))).drew)) := ((Below.refl _ _).alloc (Nat.le_refl _) _).drew
      have HBC : Hid (((wo.alloc (.cells #[.int .u8 s0, .int .u8 s1, .int .u8 s2, .int .u8 s3] (64 : TypeId))).drew).heap[wo.heap.size]? = some (.cells #[.int .u8 s0, .int .u8 s1, .int .u8 s2, .int .u8 s3] (64 : TypeId) (0, 0))) := heap_alloc_last _ _
      have HSZ : Hid (wo.heap.size < ((wo.alloc (.cells #[.int .u8 s0, .int .u8 s1, .int .u8 s2, .int .u8 s3] (64 : TypeId))).drew).heap.size) := by show _ < (wo.alloc _).heap.size; simp
      have HR2 := hidD (HRW.out.next HBN.out)
      have HU2 : Hid (But g W ((wo.alloc (.cells #[.int .u8 s0, .int .u8 s1, .int .u8 s2, .int .u8 s3] (64 : TypeId))).drew)) := HBU.out.trans (But.of HBN.out (Nat.le_of_lt hgl))
      generalize (wo.alloc (.cells #[.int .u8 s0, .int .u8 s1, .int .u8 s2, .int .u8 s3] (64 : TypeId))).drew = w2 at *
      have HGC : Hid (g < wo.heap.size) := hgl
      have HWG : Hid (W.heap.size ≤ wo.heap.size) := HBU.out.bel.size
      clear c0 c1 c2 c3 HK HBN e0 e1 e2 e3 l0 l1 l2 l3 hgl
      generalize hgc : wo.heap.size = gc at *
      clear hgc
      go_wp2_with (first
        | (refine wpList_load_row rfl 64 _ rfl gc rfl 64 #[.int .u8 s0, .int .u8 s1, .int .u8 s2, .int .u8 s3] (0, 0) _ HBC.out Try.underlying64 rfl (by rw [hsz4]; rfl) ?_)
        | (go_at_call 66; refine (HMC.out _).mono ?_; rintro e w3 ⟨rfl, hb3⟩; have HB3 := hidD hb3; clear hb3; have HC3 : Hid (w3.heap[gc]? = some (.cells #[.int .u8 s0, .int .u8 s1, .int .u8 s2, .int .u8 s3] (64 : TypeId) (0, 0))) := (HB3.out.block _ HSZ.out).trans HBC.out)
        | (refine wpList_store_row rfl 64 _ _ rfl gc C rfl rfl 64 #[.int .u8 s0, .int .u8 s1, .int .u8 s2, .int .u8 s3] HC3.out hi4 (by rw [h4]; rfl) HONE.out ?_))
      have HR3 := hidD (HR2.out.next HB3.out)
      have HU3 : Hid (But g W w3) := HU2.out.trans (But.of HB3.out (Nat.le_of_lt HR2.out.lt))
      have HC4 : Hid ((w3.setRow gc C).heap[gc]? = some (.cells C (64 : TypeId) (0, 0))) := setRow_heap _ _ #[.int .u8 s0, .int .u8 s1, .int .u8 s2, .int .u8 s3] C (64 : TypeId) (0, 0) HC3.out
      have HB4 : Hid (Below gc w3 (w3.setRow gc C)) := below_setRow (Below.refl _ _) (Nat.le_refl _) _
      have HR4 : Hid (RowZ (w3.setRow gc C) g .u8 16 50 (fun j => ((if j < i00 then mcB mixM s j else s j : UInt8).toNat : Int))) := HR3.out.below HB4.out HGC.out
      have HU4 : Hid (But g W (w3.setRow gc C)) := ⟨below_setRow HU3.out.bel (Nat.le_of_lt HGC.out) _, fun j hj hn => (HB4.out.block j (Nat.lt_of_lt_of_le hj HWG.out)).trans (HU3.out.rest j hj hn)⟩
      have HI00 : Hid (i00 ≤ 12) := by show _ ≤ _; have := H40.out; omega
      clear HR2 HR3 HU2 HU3 HC3 HB3 HB4 HBC HSZ HMC HONE
      generalize w3.setRow gc C = w4 at *
      go_loopw [7] (fun v wr => ∃ k : Nat, k ≤ 4 ∧ v = .int .i64 k ∧ RowZ wr g .u8 16 50 (fun j => ((if j < i00 + k then mcB mixM s j else s j : UInt8).toNat : Int)) ∧ wr.heap[gc]? = some (.cells C (64 : TypeId) (0, 0)) ∧ But g W wr) (fun v _ => 4 - (intOf v).toNat)
      case atStart => exact ⟨0, Nat.zero_le _, rfl, HR4.out, HC4.out, HU4.out⟩
      case round =>
        obtain ⟨k, hk, rfl, hrow, hcb, hbut⟩ := hrel
        have HU5 := hidD hbut
        have HR5 := hidD hrow
        by_cases hlk : k < 4
        · have hlki : (k : Int) < 4 := by omega
          have hmul : 4 * (i : Int) + (k : Int) = ((i00 + k : Nat) : Int) := by have := H40.out; omega
          have hidx : i00 + k < 16 := by have := HI00.out; omega
          have hidxi : ((i00 + k : Nat) : Int) < 16 := by omega
          have hcc : wr.cell? ⟨gc, k, none⟩ = some (.int .u8 ((mcB mixM s (i00 + k)).toNat : Int)) := by
            rw [cell_of_row _ _ _ _ _ _ hcb]; exact HCR.out k hlk
          have hcg := hrow.cell hidx
          have hfg := hrow.frozen (i00 + k)
          have HST : Hid (RowZ (wr.setCell ⟨g, i00 + k, none⟩ (.int .u8 ((mcB mixM s (i00 + k)).toNat : Int))) g .u8 16 50 (fun j => ((if j < i00 + (k + 1) then mcB mixM s j else s j : UInt8).toNat : Int))) := by
            refine (hrow.set hidx _).congr fun j hj => ?_
            by_cases he : j = i00 + k
            · subst he; rw [if_pos rfl, if_pos (by omega)]
            · rw [if_neg he]
              by_cases h2 : j < i00 + k
              · rw [if_pos h2, if_pos (by omega)]
              · rw [if_neg h2, if_neg (by omega)]
          have HCN : Hid (∀ u, (wr.setCell ⟨g, i00 + k, none⟩ u).heap[gc]? = some (.cells C (64 : TypeId) (0, 0))) := fun u => (((But.refl g wr).put (i00 + k) u).rest gc (row_lt hcb) (by have := HGC.out; omega)).trans hcb
          have HSB : Hid (∀ u, But g W (wr.setCell ⟨g, i00 + k, none⟩ u)) := fun u => hbut.put _ u
          generalize ((mcB mixM s (i00 + k)).toNat : Int) = Z at *
          generalize hie : i00 + k = ik at *
          have HIE := hidD hie
          clear hie hrow hbut hcb
          go_wp2_with fail
          go_roundw
          case rel => exact ⟨k + 1, by omega, by go_num, HST.out, HCN.out _, HSB.out _⟩
          case measure => simp [intOf]; omega
        · obtain rfl : k = 4 := by omega
          have HRN : Hid (RowZ wr g .u8 16 50 (fun j => ((if j < 4 * (i + 1) then mcB mixM s j else s j : UInt8).toNat : Int))) := by
            have := H40.out
            rw [show 4 * (i + 1) = i00 + 4 by omega]; exact hrow
          clear hrow hbut hcb
          go_wp2_with fail
          go_roundw
          case rel => exact ⟨i + 1, by omega, by go_num, HRN.out, HU5.out⟩
          case measure => simp [intOf]; omega
    · obtain rfl : i = 4 := by omega
      have HL : Hid (wo.heap[g]? = some (.cells (bR (mcB mixM s)) (50 : TypeId) (0, 0))) := hrow.congr fun j hj => by rw [if_pos (by omega)]
      have HO : Hid (wo.heap[g + 1]? = some (.cells (rowZ .u8 16 (fun _ => 0)) (50 : TypeId) (0, 0))) := (hbut.rest (g + 1) V2.out.lt (by omega)).trans V2.out
      have HONE : Hid ((bR (mcB mixM s)).all (·.oneCell') = true) := rowZ_one _ _ _
      have h4 : (bR (mcB mixM s)).size = 16 := rowZ_size _ _ _
      have h0 : (rowZ .u8 16 (fun _ => 0)).size = 16 := rowZ_size _ _ _
      have HBG : Hid (Below g w wo) := V3.out.trans hbut.bel
      clear hrow hbut
      generalize hC : bR (mcB mixM s) = C at *
      have HCE := hidD hC
      clear hC
      generalize rowZ .u8 16 (fun _ => 0) = C0 at *
      have hi : (Try.prog.info? 50).map (·.size) = some C.size := by rw [hsz, h4]
      go_wp2_with (first | (refine wpList_load_row rfl 50 _ rfl g rfl 50 C (0, 0) _ HL.out Try.underlying50 rfl hi ?_) | (refine wpList_store_row rfl 50 _ _ rfl (g + 1) C rfl rfl 50 C0 HO.out hi (by rw [h0, h4]) HONE.out ?_))
      refine bodyPost_ret (results_cell_row (P := Try.prog) (p := 4) (ty := 50) (by kernel_rfl) _ _ (g + 1) 50 C (0, 0) _ rfl (setRow_heap _ _ C0 C 50 (0, 0) HO.out) Try.underlying50 rfl hi) rfl ?_
      refine ⟨by rw [HCE.out], ?_⟩
      have hfin : Below g w (wo.setRow (g + 1) C) := below_setRow HBG.out (by omega) _
      rw [HG.out]; exact hfin
set_option maxRecDepth 100000 in
set_option maxHeartbeats 1600000 in
theorem refUnmixB_any (s : Nat → UInt8) (w : World) : Calls Try.prog 47 #[.agg (bR s), .bool true] w fun e w' => e = .returned (.agg (bR (mcB unmM s))) ∧ Below w.heap.size w w' := by
  have HM := hidD (fun c w => refUnmix_any c w)
  obtain ⟨hz, hsz⟩ := zero_of_info Try.zero50
  obtain ⟨hz4, hsz4⟩ := zero_of_info Try.zero64'
  obtain ⟨b1, b2, b3, b4⟩ := two_blocks w (bR s) (rowZ .u8 16 (fun _ => 0)) 50
  have W1 := hidD b1
  have W2 := hidD b2
  have W3 := hidD b3
  clear b1 b2 b3 b4
  go_enter Try.func47, Try.ntmps47
  go_wp2_with fail
  generalize hW : World.alloc _ (Obj.cells (rowZ .u8 16 (fun _ => 0)) (50 : TypeId)) = W
  have V1 : Hid (RowZ W w.heap.size .u8 16 50 (fun i => ((s i).toNat : Int))) := by rw [← hW]; exact W1.out
  have V2 : Hid (RowZ W (w.heap.size + 1) .u8 16 50 (fun _ => 0)) := by rw [← hW]; exact W2.out
  have V3 : Hid (Below w.heap.size w W) := by rw [← hW]; exact W3.out
  clear hW W1 W2 W3
  generalize hg : w.heap.size = g at *
  have HG := hidD hg
  clear hg
  go_loopw [5] (fun i wr => ∃ k : Nat, k ≤ 4 ∧ i = .int .i64 k ∧ RowZ wr g .u8 16 50 (fun j => ((if j < 4 * k then mcB unmM s j else s j : UInt8).toNat : Int)) ∧ But g W wr) (fun i _ => 4 - (intOf i).toNat)
  case atStart => exact ⟨0, Nat.zero_le _, rfl, V1.out, But.refl _ _⟩
  case round =>
    obtain ⟨i, hi, rfl, hrow, hbut⟩ := hrel
    have HBU := hidD hbut
    have HRW := hidD hrow
    obtain ⟨wo, hwo⟩ : ∃ wo, wo = wr := ⟨_, rfl⟩
    subst hwo
    by_cases hlt : i < 4
    · have hlti : (i : Int) < 4 := by omega
      have e0 : IntKind.i64.wrap (4 * (i : Int)) = ((4 * i : Nat) : Int) := by rw [IntKind.wrap_i64]; omega
      have e1 : IntKind.i64.wrap (((4 * i : Nat) : Int) + 1) = ((4 * i + 1 : Nat) : Int) := by rw [IntKind.wrap_i64]; omega
      have e2 : IntKind.i64.wrap (((4 * i : Nat) : Int) + 2) = ((4 * i + 2 : Nat) : Int) := by rw [IntKind.wrap_i64]; omega
      have e3 : IntKind.i64.wrap (((4 * i : Nat) : Int) + 3) = ((4 * i + 3 : Nat) : Int) := by rw [IntKind.wrap_i64]; omega
      have l0 : ((4 * i : Nat) : Int) < 16 := by omega
      have l1 : ((4 * i + 1 : Nat) : Int) < 16 := by omega
      have l2 : ((4 * i + 2 : Nat) : Int) < 16 := by omega
      have l3 : ((4 * i + 3 : Nat) : Int) < 16 := by omega
      have cc : ∀ t, t < 4 → wo.cell? ⟨g, 4 * i + t, none⟩ = some (.int .u8 ((s (4 * i + t)).toNat : Int)) := fun t ht => by
        have := hrow.cell (k := 4 * i + t) (by omega)
        rw [if_neg (by omega)] at this; exact this
      have c0 : wo.cell? ⟨g, 4 * i, none⟩ = some (.int .u8 ((s (4 * i)).toNat : Int)) := cc 0 (by omega)
      have c1 := cc 1 (by omega)
      have c2 := cc 2 (by omega)
      have c3 := cc 3 (by omega)
      have hgl := hrow.lt
      have kk : ∀ o t, t < 4 → (wo.drew.alloc o).cell? ⟨g, 4 * i + t, none⟩ = some (.int .u8 ((s (4 * i + t)).toNat : Int)) := fun o t ht => ((((Below.refl wo.heap.size wo).drew).alloc (Nat.le_refl _) o).cell (p := ⟨g, 4 * i + t, none⟩) hgl).trans (cc t ht)
      have HK : Hid (∀ o, (wo.drew.alloc o).cell? ⟨g, 4 * i, none⟩ = some (.int .u8 ((s (4 * i)).toNat : Int)) ∧ (wo.drew.alloc o).cell? ⟨g, 4 * i + 1, none⟩ = some (.int .u8 ((s (4 * i + 1)).toNat : Int)) ∧ (wo.drew.alloc o).cell? ⟨g, 4 * i + 2, none⟩ = some (.int .u8 ((s (4 * i + 2)).toNat : Int)) ∧ (wo.drew.alloc o).cell? ⟨g, 4 * i + 3, none⟩ = some (.int .u8 ((s (4 * i + 3)).toNat : Int))) := fun o => ⟨kk o 0 (by omega), kk o 1 (by omega), kk o 2 (by omega), kk o 3 (by omega)⟩
      have HCO : Hid (colR (fun t => s (4 * i + t)) = #[.int .u8 ((s (4 * i)).toNat : Int), .int .u8 ((s (4 * i + 1)).toNat : Int), .int .u8 ((s (4 * i + 2)).toNat : Int), .int .u8 ((s (4 * i + 3)).toNat : Int)]) := rfl
      have HMC := hidD (fun w => HM.out (fun t => s (4 * i + t)) w)
      rw [HCO.out] at HMC
      have HONE : Hid ((colR (mixS (fun t => s (4 * i + t)) unmM)).all (·.oneCell') = true) := rowZ_one _ _ _
      have h4 : (colR (mixS (fun t => s (4 * i + t)) unmM)).size = 4 := rowZ_size _ _ _
      have HCE : Hid (∀ t, t < 4 → mixS (fun t => s (4 * i + t)) unmM t = mcB unmM s (4 * i + t)) := fun t ht => by
        unfold mcB
        rw [show (4 * i + t) / 4 = i by omega, show (4 * i + t) % 4 = t by omega]
      have HCR : Hid (∀ t, t < 4 → (colR (mixS (fun t => s (4 * i + t)) unmM))[t]? = some (.int .u8 ((mcB unmM s (4 * i + t)).toNat : Int))) := fun t ht => by
        show (rowZ .u8 4 _)[t]? = _
        rw [rowZ_get .u8 4 _ t ht, HCE.out t ht]
      clear HCE
      generalize colR (mixS (fun t => s (4 * i + t)) unmM) = C at *
      have hi4 : (Try.prog.info? 64).map (·.size) = some C.size := by rw [hsz4, h4]
      clear cc kk hrow hbut
      generalize ((s (4 * i)).toNat : Int) = s0 at *
      generalize ((s (4 * i + 1)).toNat : Int) = s1 at *
      generalize ((s (4 * i + 2)).toNat : Int) = s2 at *
      generalize ((s (4 * i + 3)).toNat : Int) = s3 at *
      generalize h43 : 4 * i + 3 = i3 at *
      generalize h42 : 4 * i + 2 = i2 at *
      generalize h41 : 4 * i + 1 = i1 at *
      generalize h40 : 4 * i = i00 at *
      have H40 := hidD h40
      clear h43 h42 h41 h40
      go_wp2_with fail
      go_region_held_law (fun w' => w'.cell? ⟨g, i00, none⟩ = some (.int .u8 s0) ∧ w'.cell? ⟨g, i1, none⟩ = some (.int .u8 s1) ∧ w'.cell? ⟨g, i2, none⟩ = some (.int .u8 s2) ∧ w'.cell? ⟨g, i3, none⟩ = some (.int .u8 s3)) (first | exact HK.out _ | go_keep) (fail)
      have HBN : Hid (Below wo.heap.size wo ((wo.alloc (.cells #[.int .u8 s0, .int .u8 s1, .int .u8 s2, .int .u8 s3] (64 : TypeId))).drew)) := ((Below.refl _ _).alloc (Nat.le_refl _) _).drew
      have HBC : Hid (((wo.alloc (.cells #[.int .u8 s0, .int .u8 s1, .int .u8 s2, .int .u8 s3] (64 : TypeId))).drew).heap[wo.heap.size]? = some (.cells #[.int .u8 s0, .int .u8 s1, .int .u8 s2, .int .u8 s3] (64 : TypeId) (0, 0))) := heap_alloc_last _ _
      have HSZ : Hid (wo.heap.size < ((wo.alloc (.cells #[.int .u8 s0, .int .u8 s1, .int .u8 s2, .int .u8 s3] (64 : TypeId))).drew).heap.size) := by show _ < (wo.alloc _).heap.size; simp
      have HR2 := hidD (HRW.out.next HBN.out)
      have HU2 : Hid (But g W ((wo.alloc (.cells #[.int .u8 s0, .int .u8 s1, .int .u8 s2, .int .u8 s3] (64 : TypeId))).drew)) := HBU.out.trans (But.of HBN.out (Nat.le_of_lt hgl))
      generalize (wo.alloc (.cells #[.int .u8 s0, .int .u8 s1, .int .u8 s2, .int .u8 s3] (64 : TypeId))).drew = w2 at *
      have HGC : Hid (g < wo.heap.size) := hgl
      have HWG : Hid (W.heap.size ≤ wo.heap.size) := HBU.out.bel.size
      clear c0 c1 c2 c3 HK HBN e0 e1 e2 e3 l0 l1 l2 l3 hgl
      generalize hgc : wo.heap.size = gc at *
      clear hgc
      go_wp2_with (first
        | (refine wpList_load_row rfl 64 _ rfl gc rfl 64 #[.int .u8 s0, .int .u8 s1, .int .u8 s2, .int .u8 s3] (0, 0) _ HBC.out Try.underlying64 rfl (by rw [hsz4]; rfl) ?_)
        | (go_at_call 65; refine (HMC.out _).mono ?_; rintro e w3 ⟨rfl, hb3⟩; have HB3 := hidD hb3; clear hb3; have HC3 : Hid (w3.heap[gc]? = some (.cells #[.int .u8 s0, .int .u8 s1, .int .u8 s2, .int .u8 s3] (64 : TypeId) (0, 0))) := (HB3.out.block _ HSZ.out).trans HBC.out)
        | (refine wpList_store_row rfl 64 _ _ rfl gc C rfl rfl 64 #[.int .u8 s0, .int .u8 s1, .int .u8 s2, .int .u8 s3] HC3.out hi4 (by rw [h4]; rfl) HONE.out ?_))
      have HR3 := hidD (HR2.out.next HB3.out)
      have HU3 : Hid (But g W w3) := HU2.out.trans (But.of HB3.out (Nat.le_of_lt HR2.out.lt))
      have HC4 : Hid ((w3.setRow gc C).heap[gc]? = some (.cells C (64 : TypeId) (0, 0))) := setRow_heap _ _ #[.int .u8 s0, .int .u8 s1, .int .u8 s2, .int .u8 s3] C (64 : TypeId) (0, 0) HC3.out
      have HB4 : Hid (Below gc w3 (w3.setRow gc C)) := below_setRow (Below.refl _ _) (Nat.le_refl _) _
      have HR4 : Hid (RowZ (w3.setRow gc C) g .u8 16 50 (fun j => ((if j < i00 then mcB unmM s j else s j : UInt8).toNat : Int))) := HR3.out.below HB4.out HGC.out
      have HU4 : Hid (But g W (w3.setRow gc C)) := ⟨below_setRow HU3.out.bel (Nat.le_of_lt HGC.out) _, fun j hj hn => (HB4.out.block j (Nat.lt_of_lt_of_le hj HWG.out)).trans (HU3.out.rest j hj hn)⟩
      have HI00 : Hid (i00 ≤ 12) := by show _ ≤ _; have := H40.out; omega
      clear HR2 HR3 HU2 HU3 HC3 HB3 HB4 HBC HSZ HMC HONE
      generalize w3.setRow gc C = w4 at *
      go_loopw [7] (fun v wr => ∃ k : Nat, k ≤ 4 ∧ v = .int .i64 k ∧ RowZ wr g .u8 16 50 (fun j => ((if j < i00 + k then mcB unmM s j else s j : UInt8).toNat : Int)) ∧ wr.heap[gc]? = some (.cells C (64 : TypeId) (0, 0)) ∧ But g W wr) (fun v _ => 4 - (intOf v).toNat)
      case atStart => exact ⟨0, Nat.zero_le _, rfl, HR4.out, HC4.out, HU4.out⟩
      case round =>
        obtain ⟨k, hk, rfl, hrow, hcb, hbut⟩ := hrel
        have HU5 := hidD hbut
        have HR5 := hidD hrow
        by_cases hlk : k < 4
        · have hlki : (k : Int) < 4 := by omega
          have hmul : 4 * (i : Int) + (k : Int) = ((i00 + k : Nat) : Int) := by have := H40.out; omega
          have hidx : i00 + k < 16 := by have := HI00.out; omega
          have hidxi : ((i00 + k : Nat) : Int) < 16 := by omega
          have hcc : wr.cell? ⟨gc, k, none⟩ = some (.int .u8 ((mcB unmM s (i00 + k)).toNat : Int)) := by
            rw [cell_of_row _ _ _ _ _ _ hcb]; exact HCR.out k hlk
          have hcg := hrow.cell hidx
          have hfg := hrow.frozen (i00 + k)
          have HST : Hid (RowZ (wr.setCell ⟨g, i00 + k, none⟩ (.int .u8 ((mcB unmM s (i00 + k)).toNat : Int))) g .u8 16 50 (fun j => ((if j < i00 + (k + 1) then mcB unmM s j else s j : UInt8).toNat : Int))) := by
            refine (hrow.set hidx _).congr fun j hj => ?_
            by_cases he : j = i00 + k
            · subst he; rw [if_pos rfl, if_pos (by omega)]
            · rw [if_neg he]
              by_cases h2 : j < i00 + k
              · rw [if_pos h2, if_pos (by omega)]
              · rw [if_neg h2, if_neg (by omega)]
          have HCN : Hid (∀ u, (wr.setCell ⟨g, i00 + k, none⟩ u).heap[gc]? = some (.cells C (64 : TypeId) (0, 0))) := fun u => (((But.refl g wr).put (i00 + k) u).rest gc (row_lt hcb) (by have := HGC.out; omega)).trans hcb
          have HSB : Hid (∀ u, But g W (wr.setCell ⟨g, i00 + k, none⟩ u)) := fun u => hbut.put _ u
          generalize ((mcB unmM s (i00 + k)).toNat : Int) = Z at *
          generalize hie : i00 + k = ik at *
          have HIE := hidD hie
          clear hie hrow hbut hcb
          go_wp2_with fail
          go_roundw
          case rel => exact ⟨k + 1, by omega, by go_num, HST.out, HCN.out _, HSB.out _⟩
          case measure => simp [intOf]; omega
        · obtain rfl : k = 4 := by omega
          have HRN : Hid (RowZ wr g .u8 16 50 (fun j => ((if j < 4 * (i + 1) then mcB unmM s j else s j : UInt8).toNat : Int))) := by
            have := H40.out
            rw [show 4 * (i + 1) = i00 + 4 by omega]; exact hrow
          clear hrow hbut hcb
          go_wp2_with fail
          go_roundw
          case rel => exact ⟨i + 1, by omega, by go_num, HRN.out, HU5.out⟩
          case measure => simp [intOf]; omega
    · obtain rfl : i = 4 := by omega
      have HL : Hid (wo.heap[g]? = some (.cells (bR (mcB unmM s)) (50 : TypeId) (0, 0))) := hrow.congr fun j hj => by rw [if_pos (by omega)]
      have HO : Hid (wo.heap[g + 1]? = some (.cells (rowZ .u8 16 (fun _ => 0)) (50 : TypeId) (0, 0))) := (hbut.rest (g + 1) V2.out.lt (by omega)).trans V2.out
      have HONE : Hid ((bR (mcB unmM s)).all (·.oneCell') = true) := rowZ_one _ _ _
      have h4 : (bR (mcB unmM s)).size = 16 := rowZ_size _ _ _
      have h0 : (rowZ .u8 16 (fun _ => 0)).size = 16 := rowZ_size _ _ _
      have HBG : Hid (Below g w wo) := V3.out.trans hbut.bel
      clear hrow hbut
      generalize hC : bR (mcB unmM s) = C at *
      have HCE := hidD hC
      clear hC
      generalize rowZ .u8 16 (fun _ => 0) = C0 at *
      have hi : (Try.prog.info? 50).map (·.size) = some C.size := by rw [hsz, h4]
      go_wp2_with (first | (refine wpList_load_row rfl 50 _ rfl g rfl 50 C (0, 0) _ HL.out Try.underlying50 rfl hi ?_) | (refine wpList_store_row rfl 50 _ _ rfl (g + 1) C rfl rfl 50 C0 HO.out hi (by rw [h0, h4]) HONE.out ?_))
      refine bodyPost_ret (results_cell_row (P := Try.prog) (p := 4) (ty := 50) (by kernel_rfl) _ _ (g + 1) 50 C (0, 0) _ rfl (setRow_heap _ _ C0 C 50 (0, 0) HO.out) Try.underlying50 rfl hi) rfl ?_
      refine ⟨by rw [HCE.out], ?_⟩
      have hfin : Below g w (wo.setRow (g + 1) C) := below_setRow HBG.out (by omega) _
      rw [HG.out]; exact hfin
end Go.Proofs.Ytgefampdfhbmbaa
