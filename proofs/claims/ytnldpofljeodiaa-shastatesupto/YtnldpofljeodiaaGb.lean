/- Texts of one proof, one behind the other. -/
import Derived.Test.YtnldpofljeodiaaGa
import Derived.Test.YtnldpofljeodiaaSp
/- What Root of the document answers. -/
namespace Go.Proofs.Ytnldpofljeodiaa
open Go.RowKit
set_option linter.unusedVariables false

theorem Try.zero136w : (Try.prog.info? 136).map (fun i => (i.zero, i.size)) = some (some (.agg (wdR 0)), 8) := by kernel_rfl
theorem wdR_size (N : Nat) : (wdR N).size = 8 := rowZ_size _ _ _
theorem wdR_one (N : Nat) : (wdR N).all (·.oneCell') = true := rowZ_one _ _ _
def WdAt (w : World) (g N : Nat) : Prop := w.heap[g]? = some (.cells (wdR N) (136 : TypeId) (0, 0))
theorem WdAt.row {w : World} {g N : Nat} (h : WdAt w g N) : RowZ w g .u32 8 136 (fun j => (dgW N j : Int)) := h
theorem WdAt.next {w w' : World} {g N : Nat} (h : WdAt w g N) (hb : Below w.heap.size w w') : WdAt w' g N := (hb.block _ (row_lt h)).trans h
theorem WdAt.otherC {w : World} {g N g' : Nat} (h : WdAt w g N) (hne : g ≠ g') (q : Nat) (v : Value) : WdAt (w.setCell ⟨g', q, none⟩ v) g N := RowZ.other (h.row) hne q v
theorem WdAt.otherR {w : World} {g N g' : Nat} (h : WdAt w g N) (hne : g ≠ g') (C : Array Value) : WdAt (w.setRow g' C) g N := (setRow_other _ _ _ _ hne).trans h
theorem rt_step (p k b t : Nat) : rtG p k b (t + 1) = if zzS (rtG p k b t ||| 2 ^ (16 + b - t)) k ≤ shG p (k * b) 32 then rtG p k b t ||| 2 ^ (16 + b - t) else rtG p k b t := rfl
theorem zz_lt (y k : Nat) : zzS y k < B32 ^ 8 := by unfold zzS; split <;> exact Nat.mod_lt _ (b32_pos 8)
theorem wdR_sq (y : Nat) : wdR (y * y) = wdR (zzS y 2) := by unfold zzS; rw [if_neg (by omega), wdR_mod]
theorem wdR_cu (y : Nat) : wdR (zzS y 2 * y) = wdR (zzS y 3) := by unfold zzS; rw [if_neg (by omega), if_pos rfl, wdR_mod]
set_option maxRecDepth 100000 in
set_option maxHeartbeats 3200000 in
theorem root6_2 (p b : Nat) (hp : p < 4294967296) (hb1 : 1 ≤ b) (hb : b ≤ 64) (w : World) : Calls Try.prog 79 #[.int .u32 (p : Int), .int .i64 2, .int .i64 (b : Int)] w fun e w' => (∃ u, e = .returned (.tuple #[u, .int .u64 (fpS p 2 b : Int), .int .i64 0])) ∧ Below w.heap.size w w' := by
  obtain ⟨hz, hsz⟩ := zero_of_info Try.zero136w
  have HI : Hid (∀ N, (Try.prog.info? 136).map (·.size) = some (wdR N).size) := fun N => by rw [hsz, wdR_size]
  have HS : Hid (∀ N M, (wdR N).size = (wdR M).size) := fun N M => by rw [wdR_size, wdR_size]
  have HO : Hid (∀ N, (wdR N).all (·.oneCell') = true) := wdR_one
  have HSH : Hid (∀ n : Nat, n + 32 ≤ 256 → ∀ w, Calls Try.prog 87 #[.int .u32 (p : Int), .int .i64 (n : Int)] w fun e w' => e = .returned (.agg (wdR (shG p n 32))) ∧ Below w.heap.size w w') := fun n hn w => shifted6_any p n hp hn w
  have HSM := hidD (HSH.out (2 * b) (by omega))
  have HML := hidD (sh_lt p (2 * b) 32 (by omega))
  have HTM : Hid (∀ A B : Nat, A < B32 ^ 8 → ∀ w, Calls Try.prog 88 #[.agg (wdR A), .agg (wdR B)] w fun e w' => e = .returned (.agg (wdR (A * B))) ∧ Below w.heap.size w w') := fun A B hA w => times6_any A B hA w
  have HAB : Hid (∀ A B : Nat, A < B32 ^ 8 → B < B32 ^ 8 → ∀ w, Calls Try.prog 89 #[.agg (wdR A), .agg (wdR B)] w fun e w' => e = .returned (.bool (decide (B < A))) ∧ Below w.heap.size w w') := fun A B hA hB w => above6_any A B hA hB w
  have HRL : Hid (∀ t, rtG p 2 b t < B32 ^ 8) := rt_lt p 2 b hb
  have HRS := hidD (rt_step p 2 b)
  have hkb : (2 : Int) * (b : Int) = ((2 * b : Nat) : Int) := by omega
  have hb1i : ¬ (b : Int) < 1 := by omega
  have hb64 : ¬ (64 : Int) < (b : Int) := by omega
  have HBG := hidD hb1
  have HB0 := hidD hb
  clear hsz HSH
  obtain ⟨F, hF⟩ : ∃ F : Nat, fpS p 2 b = F := ⟨_, rfl⟩
  rw [hF]
  have HF := hidD hF
  clear hF
  generalize hX : rtG p 2 b = X at *
  have HX0 : Hid (X 0 = 0) := by show _ = _; rw [← hX]; rfl
  have HXF : Hid (F = ptG (X (17 + b)) b) := by show _ = _; rw [← HF.out, ← hX]; rfl
  clear hX HF
  generalize shG p (2 * b) 32 = M at *
  generalize hkb' : 2 * b = kb at *
  have HKB := hidD hkb'
  clear hkb'
  go_enter Try.func79, Try.ntmps79
  go_wp2_with (first
    | (go_at_call 87; refine (HSM.out _).mono ?_; rintro e w1 ⟨rfl, hbw1⟩; have HB1 := hidD hbw1; have HA1 : Hid ((w1.alloc (.cells (wdR 0) (136 : TypeId))).heap[w1.heap.size]? = some (.cells (wdR 0) (136 : TypeId) (0, 0))) := heap_alloc_last _ _; clear hbw1)
    | (refine wpList_store_row rfl 136 _ _ rfl w1.heap.size (wdR M) rfl rfl 136 (wdR 0) HA1.out (HI.out _) (HS.out _ _) (HO.out _) ?_; obtain ⟨lr, hbl, hs⟩ := laid_row w1 (wdR 0) (wdR M) 136; have HM2 := hidD lr; have HB2 : Hid (Below w.heap.size w _) := Below.next HB1.out hbl; clear lr hbl hs HA1; generalize World.setRow _ _ _ = w2 at *))
  have KM : Hid (WdAt (w2.alloc (.cells (wdR 0) (136 : TypeId))) w1.heap.size M) := WdAt.next HM2.out ((Below.refl _ _).alloc (Nat.le_refl _) _)
  have KX : Hid (WdAt (w2.alloc (.cells (wdR 0) (136 : TypeId))) w2.heap.size (X 0)) := by show WdAt _ _ _; rw [HX0.out]; exact heap_alloc_last _ _
  have KB0 : Hid (Below w.heap.size w (w2.alloc (.cells (wdR 0) (136 : TypeId)))) := HB2.out.alloc HB2.out.size _
  have KG : Hid (w.heap.size ≤ w1.heap.size ∧ w1.heap.size < w2.heap.size) := ⟨HB1.out.size, row_lt HM2.out⟩
  clear HM2 HB2 HB1 HX0
  generalize World.alloc w2 _ = w3 at *
  generalize hgm : w1.heap.size = gm at *
  generalize hgx : w2.heap.size = gx at *
  clear hgm hgx
  generalize hg : w.heap.size = g at *
  have HG := hidD hg
  clear hg
  go_loopw [11] (fun iv wr => ∃ t : Nat, t ≤ 17 + b ∧ iv = .int .i64 ((16 + b : Int) - (t : Int)) ∧ WdAt wr gm M ∧ WdAt wr gx (X t) ∧ Below g w wr) (fun iv _ => (intOf iv + 1).toNat)
  case atStart => exact ⟨0, by omega, by simp, KM.out, KX.out, KB0.out⟩
  case round =>
    clear KM KX KB0
    obtain ⟨t, ht, rfl, hm, hx, hbel⟩ := hrel
    have LM := hidD hm
    have LX := hidD hx
    have LB := hidD hbel
    clear hm hx hbel
    by_cases hlt : t < 17 + b
    · obtain ⟨i, hi⟩ : ∃ i : Nat, 16 + b - t = i := ⟨_, rfl⟩
      have hii : (16 + b : Int) - (t : Int) = (i : Int) := by omega
      have hig : (0 : Int) ≤ (i : Int) := by omega
      rw [hii]
      have hi256 : i < 256 := by have := HB0.out; omega
      have hRS := HRS.out t
      rw [hi] at hRS
      have HRT := hidD hRS
      have HXT := hidD (HRL.out t)
      have hXT1 := HRL.out (t + 1)
      clear hRS hXT1
      have HTI : Hid (t + i = 16 + b) := by show _ = _; omega
      clear hi
      obtain ⟨Y, hY⟩ : ∃ Y : Nat, X t ||| 2 ^ i = Y := ⟨_, rfl⟩
      have hYL : Y < B32 ^ 8 := by
        rw [← hY]
        have h := HXT.out
        rw [b32_two] at *
        exact Nat.or_lt_two_pow h (Nat.pow_lt_pow_right (by decide) (by omega))
      rw [hY] at HRT
      have hq1 : (i : Int).tdiv 32 = ((i / 32 : Nat) : Int) := by rw [Int.tdiv_eq_ediv_of_nonneg (by omega)]; omega
      have hr1' : (i : Int).tmod 32 = ((i % 32 : Nat) : Int) := by rw [Int.tmod_eq_emod_of_nonneg (by omega)]; omega
      have hq8 : i / 32 < 8 := by omega
      have hrl : i % 32 < 32 := by omega
      have hT := pow32 hrl
      have hsh : IntKind.u32.wrap ((2 : Int) ^ (i % 32)) = ((2 ^ (i % 32) : Nat) : Int) := by
        rw [show (2 : Int) ^ (i % 32) = ((2 ^ (i % 32) : Nat) : Int) by simp, IntKind.wrap_u32]
        generalize 2 ^ (i % 32) = T at hT
        omega
      have hor := u32_or_nat (dgW (X t) (i / 32)) (2 ^ (i % 32)) (dgW_lt _ _) hT
      have HYS : Hid (∀ w' : World, ∀ gy, WdAt w' gy (X t) → WdAt (w'.setCell ⟨gy, i / 32, none⟩ (.int .u32 ((dgW (X t) (i / 32) ||| 2 ^ (i % 32) : Nat) : Int))) gy Y) := fun w' gy h => by
        have h1 := (h.row.set (k := i / 32) hq8 ((dgW (X t) (i / 32) ||| 2 ^ (i % 32) : Nat) : Int)).congr (f' := fun j => (dgW Y j : Int)) fun j hj => by
          rw [← hY, dg_or]
          by_cases h : j = i / 32
          · rw [if_pos h, if_pos h, h]
          · rw [if_neg h, if_neg h]
        exact h1
      have HYC : Hid (∀ w' : World, ∀ gy, WdAt w' gy (X t) → w'.cell? ⟨gy, i / 32, none⟩ = some (.int .u32 (dgW (X t) (i / 32) : Int)) ∧ w'.frozen? ⟨gy, i / 32, none⟩ = false) := fun w' gy h => ⟨h.row.cell hq8, h.row.frozen _⟩
      have HYL := hidD hYL
      have HYY : Hid (X t ||| 2 ^ i = Y) := hidD hY
      have hdl := dgW_lt (X t) (i / 32)
      unfold B32 at hdl
      clear hY hYL
      generalize hO : dgW (X t) (i / 32) ||| 2 ^ (i % 32) = O at *
      clear hO
      generalize dgW (X t) (i / 32) = XQ at *
      generalize hTT : 2 ^ (i % 32) = T at *
      clear hTT
      generalize i / 32 = Q at *
      generalize i % 32 = R at *
      have HTY := hidD (HTM.out Y Y HYL.out)
      have VY : Hid ((wr.alloc (.cells (wdR 0) (136 : TypeId))).heap[wr.heap.size]? = some (.cells (wdR 0) (136 : TypeId) (0, 0))) := heap_alloc_last _ _
      have hgg : Hid (gm < wr.heap.size ∧ gx < wr.heap.size) := ⟨row_lt LM.out, row_lt LX.out⟩
      have HGY : Hid (g ≤ gm ∧ gm < wr.heap.size ∧ gx < wr.heap.size) := ⟨KG.out.1, hgg.out.1, hgg.out.2⟩
      have HTZ : Hid (∀ w, Calls Try.prog 88 #[.agg (wdR Y), .agg (wdR Y)] w fun e w' => e = .returned (.agg (wdR (zzS Y 2))) ∧ Below w.heap.size w w') := fun w => by have := HTY.out w; rw [wdR_sq] at this; exact this
      have HTC : Hid (∀ w, Calls Try.prog 88 #[.agg (wdR (zzS Y 2)), .agg (wdR Y)] w fun e w' => e = .returned (.agg (wdR (zzS Y 3))) ∧ Below w.heap.size w w') := fun w => by have := HTM.out (zzS Y 2) Y (zz_lt _ _) w; rw [wdR_cu] at this; exact this
      have HTA := hidD (HAB.out (zzS Y 2) M (zz_lt _ _) HML.out)
      clear HTY HTM HAB
      by_cases hle : zzS Y 2 ≤ M
      · have hdf : decide (M < zzS Y 2) = false := by simp; omega
        have HNX : Hid (X (t + 1) = Y) := by show _ = _; rw [HRT.out, if_pos hle]
        rw [hdf] at HTA
        clear hdf hle HRT
        generalize hZ2 : zzS Y 2 = Z2 at *
        generalize hZ3 : zzS Y 3 = Z3 at *
        clear hZ2 hZ3
        go_wp2_with (first
          | (refine wpList_load_row rfl 136 _ rfl gx rfl 136 (wdR (X t)) (0, 0) _ LX.out Try.underlying136 rfl (HI.out _) ?_)
          | (refine wpList_store_row rfl 136 _ _ rfl wr.heap.size (wdR (X t)) rfl rfl 136 (wdR 0) VY.out (HI.out _) (HS.out _ _) (HO.out _) ?_; obtain ⟨lr, hbl, hs⟩ := laid_row wr (wdR 0) (wdR (X t)) 136; have NY : Hid (WdAt _ wr.heap.size (X t)) := lr; have NM := hidD (LM.out.next hbl); have NX := hidD (LX.out.next hbl); have NB : Hid (Below g w _) := LB.out.trans (hbl.mono (by have := hgg.out; have := KG.out; omega)); clear lr hbl hs VY LX LM LB; generalize World.setRow _ _ _ = w4 at *; generalize hgy : wr.heap.size = gy at *; clear hgy; have hcy := (HYC.out _ _ NY.out).1; have hfy := (HYC.out _ _ NY.out).2; have PY := hidD (HYS.out _ _ NY.out); have PM := hidD (NM.out.otherC (g' := gy) (by have := HGY.out; omega) Q (.int .u32 (O : Int))); have PX := hidD (NX.out.otherC (g' := gy) (by have := HGY.out; omega) Q (.int .u32 (O : Int))); have PB := hidD (below_setCell NB.out (g := gy) (by have := HGY.out; omega) Q (.int .u32 (O : Int))); clear NY NM NX NB)
          | (refine wpList_load_row rfl 136 _ rfl gy rfl 136 (wdR Y) (0, 0) _ PY.out Try.underlying136 rfl (HI.out _) ?_)
          | (go_at_call 88; refine (HTZ.out _).mono ?_; rintro e w6 ⟨rfl, hb6⟩; have QY := hidD (PY.out.next hb6); have QM := hidD (PM.out.next hb6); have QX := hidD (PX.out.next hb6); have QB : Hid (Below g w w6) := PB.out.trans (hb6.mono (by have := row_lt PY.out; have := HGY.out; omega)); have VZ : Hid ((w6.alloc (.cells (wdR 0) (136 : TypeId))).heap[w6.heap.size]? = some (.cells (wdR 0) (136 : TypeId) (0, 0))) := heap_alloc_last _ _; clear hb6 PY PM PX PB HTZ)
          | (refine wpList_store_row rfl 136 _ _ rfl w6.heap.size (wdR Z2) rfl rfl 136 (wdR 0) VZ.out (HI.out _) (HS.out _ _) (HO.out _) ?_; obtain ⟨lr, hbl, hs⟩ := laid_row w6 (wdR 0) (wdR Z2) 136; have RZ : Hid (WdAt _ w6.heap.size Z2) := lr; have RY := hidD (QY.out.next hbl); have RM := hidD (QM.out.next hbl); have RX := hidD (QX.out.next hbl); have RG : Hid (gy < w6.heap.size) := row_lt QY.out; have RB : Hid (Below g w _) := QB.out.trans (hbl.mono (by have := row_lt QY.out; have := HGY.out; omega)); clear lr hbl hs VZ QY QM QX QB; generalize World.setRow _ _ _ = w7 at *; generalize hgz : w6.heap.size = gz at *; clear hgz)
          | (refine wpList_load_row rfl 136 _ rfl gz rfl 136 (wdR Z2) (0, 0) _ RZ.out Try.underlying136 rfl (HI.out _) ?_)
          | (refine wpList_load_row rfl 136 _ rfl gm rfl 136 (wdR M) (0, 0) _ RM.out Try.underlying136 rfl (HI.out _) ?_)
          | (go_at_call 89; refine (HTA.out _).mono ?_; rintro e w8 ⟨rfl, hb8⟩; have UY := hidD (RY.out.next hb8); have UM := hidD (RM.out.next hb8); have UX := hidD (RX.out.next hb8); have UB : Hid (Below g w w8) := RB.out.trans (hb8.mono (by have := row_lt RY.out; have := HGY.out; omega)); clear hb8 HTA)
          | (refine wpList_load_row rfl 136 _ rfl gy rfl 136 (wdR Y) (0, 0) _ UY.out Try.underlying136 rfl (HI.out _) ?_)
          | (refine wpList_store_row rfl 136 _ _ rfl gx (wdR Y) rfl rfl 136 (wdR (X t)) UX.out (HI.out _) (HS.out _ _) (HO.out _) ?_))
        have ZX : Hid (WdAt (w8.setRow gx (wdR Y)) gx (X (t + 1))) := by
          show WdAt _ _ _
          rw [HNX.out]; exact setRow_heap _ _ _ _ _ _ UX.out
        have ZM := hidD (UM.out.otherR (g' := gx) (by have := KG.out; omega) (wdR Y))
        have ZB : Hid (Below g w (w8.setRow gx (wdR Y))) := below_setRow UB.out (by have := KG.out; omega) _
        generalize w8.setRow gx (wdR Y) = w9 at *
        go_roundw
        case rel =>
          first
          | exact ⟨t + 1, by omega, by go_num, ZM.out, ZX.out, ZB.out⟩
          | ((repeat apply Exists.intro); refine And.intro ?_ rfl; exact ⟨t + 1, by omega, by go_num, ZM.out, ZX.out, ZB.out⟩)
        case measure => simp [intOf]
      · have hdf : decide (M < zzS Y 2) = true := by simp; omega
        have HNX : Hid (X (t + 1) = X t) := by show _ = _; rw [HRT.out, if_neg hle]
        rw [hdf] at HTA
        clear hdf hle HRT
        generalize hZ2 : zzS Y 2 = Z2 at *
        generalize hZ3 : zzS Y 3 = Z3 at *
        clear hZ2 hZ3
        go_wp2_with (first
          | (refine wpList_load_row rfl 136 _ rfl gx rfl 136 (wdR (X t)) (0, 0) _ LX.out Try.underlying136 rfl (HI.out _) ?_)
          | (refine wpList_store_row rfl 136 _ _ rfl wr.heap.size (wdR (X t)) rfl rfl 136 (wdR 0) VY.out (HI.out _) (HS.out _ _) (HO.out _) ?_; obtain ⟨lr, hbl, hs⟩ := laid_row wr (wdR 0) (wdR (X t)) 136; have NY : Hid (WdAt _ wr.heap.size (X t)) := lr; have NM := hidD (LM.out.next hbl); have NX := hidD (LX.out.next hbl); have NB : Hid (Below g w _) := LB.out.trans (hbl.mono (by have := hgg.out; have := KG.out; omega)); clear lr hbl hs VY LX LM LB; generalize World.setRow _ _ _ = w4 at *; generalize hgy : wr.heap.size = gy at *; clear hgy; have hcy := (HYC.out _ _ NY.out).1; have hfy := (HYC.out _ _ NY.out).2; have PY := hidD (HYS.out _ _ NY.out); have PM := hidD (NM.out.otherC (g' := gy) (by have := HGY.out; omega) Q (.int .u32 (O : Int))); have PX := hidD (NX.out.otherC (g' := gy) (by have := HGY.out; omega) Q (.int .u32 (O : Int))); have PB := hidD (below_setCell NB.out (g := gy) (by have := HGY.out; omega) Q (.int .u32 (O : Int))); clear NY NM NX NB)
          | (refine wpList_load_row rfl 136 _ rfl gy rfl 136 (wdR Y) (0, 0) _ PY.out Try.underlying136 rfl (HI.out _) ?_)
          | (go_at_call 88; refine (HTZ.out _).mono ?_; rintro e w6 ⟨rfl, hb6⟩; have QY := hidD (PY.out.next hb6); have QM := hidD (PM.out.next hb6); have QX := hidD (PX.out.next hb6); have QB : Hid (Below g w w6) := PB.out.trans (hb6.mono (by have := row_lt PY.out; have := HGY.out; omega)); have VZ : Hid ((w6.alloc (.cells (wdR 0) (136 : TypeId))).heap[w6.heap.size]? = some (.cells (wdR 0) (136 : TypeId) (0, 0))) := heap_alloc_last _ _; clear hb6 PY PM PX PB HTZ)
          | (refine wpList_store_row rfl 136 _ _ rfl w6.heap.size (wdR Z2) rfl rfl 136 (wdR 0) VZ.out (HI.out _) (HS.out _ _) (HO.out _) ?_; obtain ⟨lr, hbl, hs⟩ := laid_row w6 (wdR 0) (wdR Z2) 136; have RZ : Hid (WdAt _ w6.heap.size Z2) := lr; have RY := hidD (QY.out.next hbl); have RM := hidD (QM.out.next hbl); have RX := hidD (QX.out.next hbl); have RG : Hid (gy < w6.heap.size) := row_lt QY.out; have RB : Hid (Below g w _) := QB.out.trans (hbl.mono (by have := row_lt QY.out; have := HGY.out; omega)); clear lr hbl hs VZ QY QM QX QB; generalize World.setRow _ _ _ = w7 at *; generalize hgz : w6.heap.size = gz at *; clear hgz)
          | (refine wpList_load_row rfl 136 _ rfl gz rfl 136 (wdR Z2) (0, 0) _ RZ.out Try.underlying136 rfl (HI.out _) ?_)
          | (refine wpList_load_row rfl 136 _ rfl gm rfl 136 (wdR M) (0, 0) _ RM.out Try.underlying136 rfl (HI.out _) ?_)
          | (go_at_call 89; refine (HTA.out _).mono ?_; rintro e w8 ⟨rfl, hb8⟩; have UY := hidD (RY.out.next hb8); have UM := hidD (RM.out.next hb8); have UX := hidD (RX.out.next hb8); have UB : Hid (Below g w w8) := RB.out.trans (hb8.mono (by have := row_lt RY.out; have := HGY.out; omega)); clear hb8 HTA))
        have ZX : Hid (WdAt w8 gx (X (t + 1))) := by show WdAt _ _ _; rw [HNX.out]; exact UX.out
        go_roundw
        case rel =>
          first
          | exact ⟨t + 1, by omega, by go_num, UM.out, ZX.out, UB.out⟩
          | ((repeat apply Exists.intro); refine And.intro ?_ rfl; exact ⟨t + 1, by omega, by go_num, UM.out, ZX.out, UB.out⟩)
        case measure => simp [intOf]
    · obtain rfl : t = 17 + b := by omega
      have hii : (16 + b : Int) - ((17 + b : Nat) : Int) = -1 := by omega
      rw [hii]
      have HXL : Hid (∀ q, q < 8 → wr.cell? ⟨gx, q, none⟩ = some (.int .u32 (dgW (X (17 + b)) q : Int))) := fun q hq => LX.out.row.cell hq
      clear LX LM HRS HRL HTM HAB HSM HI HS HO hz KG
      generalize X (17 + b) = XF at *
      obtain ⟨wl, hwl⟩ : ∃ wl : World, wl = wr := ⟨_, rfl⟩
      subst hwl
      go_wp2_with fail
      go_loopw [14, 16] (fun wv iv wr => ∃ i W : Nat, i ≤ 32 ∧ iv = .int .i64 (i : Int) ∧ wv = .int .u32 (W : Int) ∧ W < 4294967296 ∧ wr = wl) (fun _ iv _ => 32 - (intOf iv).toNat)
      case atStart => exact ⟨0, 0, by omega, rfl, rfl, by omega, rfl⟩
      case round =>
        obtain ⟨i, W, hi, rfl, rfl, hW, rfl⟩ := hrel
        by_cases hlt2 : i < 32
        · have hlt2i : (i : Int) < 32 := by omega
          obtain ⟨m, hm⟩ : ∃ m : Nat, b + i = m := ⟨_, rfl⟩
          have hmi : (b : Int) + (i : Int) = (m : Int) := by omega
          have hq1 : (m : Int).tdiv 32 = ((m / 32 : Nat) : Int) := by rw [Int.tdiv_eq_ediv_of_nonneg (by omega)]; omega
          have hr1' : (m : Int).tmod 32 = ((m % 32 : Nat) : Int) := by rw [Int.tmod_eq_emod_of_nonneg (by omega)]; omega
          have hq8 : m / 32 < 8 := by omega
          have hrl : m % 32 < 32 := by omega
          have hmb : m < 9223372036854775808 := by omega
          have hcx := HXL.out (m / 32) hq8
          have hdl := dgW_lt XF (m / 32)
          unfold B32 at hdl
          clear hm
          generalize m / 32 = Q at *
          generalize m % 32 = R at *
          generalize dgW XF Q = D at *
          have hdv : (D : Int) / 2 ^ R = ((D / 2 ^ R : Nat) : Int) := by simp
          have hdl2 : D / 2 ^ R < 4294967296 := Nat.lt_of_le_of_lt (Nat.div_le_self _ _) hdl
          have han := and_one32 (D / 2 ^ R) hdl2
          have h2 : D / 2 ^ R % 2 < 2 := Nat.mod_lt _ (by omega)
          generalize D / 2 ^ R % 2 = E at *
          generalize D / 2 ^ R = G at *
          have hs1 : (E : Int) * 2 ^ i % 4294967296 = ((E * 2 ^ i % 4294967296 : Nat) : Int) := by simp
          have hs2 : IntKind.u32.wrap ((E : Int) * 2 ^ i) = ((E * 2 ^ i % 4294967296 : Nat) : Int) := by rw [IntKind.wrap_u32]; exact hs1
          have hsl : E * 2 ^ i % 4294967296 < 4294967296 := Nat.mod_lt _ (by omega)
          generalize E * 2 ^ i % 4294967296 = S at *
          have hor := u32_or_nat W S hW hsl
          have HOL : Hid (W ||| S < 4294967296) := Nat.or_lt_two_pow (n := 32) hW hsl
          generalize W ||| S = O at *
          go_wp2_with fail
          go_roundw
          case rel =>
            first
            | exact ⟨i + 1, O, by omega, by go_num, rfl, HOL.out, by first | rfl | trivial⟩
            | ((repeat apply Exists.intro); refine And.intro ?_ rfl; exact ⟨i + 1, O, by omega, by go_num, rfl, HOL.out, by first | rfl | trivial⟩)
          case measure => simp [intOf]; omega
        · obtain rfl : i = 32 := by omega
          obtain ⟨wk, hwk⟩ : ∃ wk : World, wk = wr := ⟨_, rfl⟩
          subst hwk
          go_wp2_with fail
          go_loopw [15, 17] (fun pv iv wr => ∃ i : Nat, i ≤ b ∧ iv = .int .i64 (i : Int) ∧ pv = .int .u64 (ptG XF i : Int) ∧ wr = wk) (fun _ iv _ => b - (intOf iv).toNat)
          case atStart => exact ⟨0, by omega, rfl, rfl, rfl⟩
          case round =>
            obtain ⟨i, hi, rfl, rfl, rfl⟩ := hrel
            by_cases hlt3 : i < b
            · have hlt3i : (i : Int) < (b : Int) := by omega
              have hq1 : (i : Int).tdiv 32 = ((i / 32 : Nat) : Int) := by rw [Int.tdiv_eq_ediv_of_nonneg (by omega)]; omega
              have hr1' : (i : Int).tmod 32 = ((i % 32 : Nat) : Int) := by rw [Int.tmod_eq_emod_of_nonneg (by omega)]; omega
              have hq8 : i / 32 < 8 := by omega
              have hrl : i % 32 < 32 := by omega
              have hcx := HXL.out (i / 32) hq8
              have hdl := dgW_lt XF (i / 32)
              unfold B32 at hdl
              have HPS : Hid (ptG XF (i + 1) = ptG XF i ||| (dgW XF (i / 32) / 2 ^ (i % 32) % 2) * 2 ^ i) := rfl
              have hpl : ptG XF i < 18446744073709551616 := Nat.lt_of_lt_of_le (pt_lt XF i) (show 2 ^ i ≤ 2 ^ 64 from Nat.pow_le_pow_right (by omega) (by omega))
              generalize i / 32 = Q at *
              generalize i % 32 = R at *
              generalize dgW XF Q = D at *
              have hdv : (D : Int) / 2 ^ R = ((D / 2 ^ R : Nat) : Int) := by simp
              have hdl2 : D / 2 ^ R < 4294967296 := Nat.lt_of_le_of_lt (Nat.div_le_self _ _) hdl
              have han := and_one32 (D / 2 ^ R) hdl2
              have h2 : D / 2 ^ R % 2 < 2 := Nat.mod_lt _ (by omega)
              generalize D / 2 ^ R % 2 = E at *
              generalize D / 2 ^ R = G at *
              have hsl : E * 2 ^ i < 18446744073709551616 := by
                have h3 : 2 ^ i ≤ 2 ^ 63 := Nat.pow_le_pow_right (by omega) (by omega)
                have h4 : E * 2 ^ i ≤ 1 * 2 ^ i := Nat.mul_le_mul_right _ (by omega)
                omega
              have hs0 : (E : Int) * 2 ^ i = ((E * 2 ^ i : Nat) : Int) := by simp
              have hs2 : IntKind.u64.wrap ((E : Int) * 2 ^ i) = ((E * 2 ^ i : Nat) : Int) := by
                rw [hs0, IntKind.wrap_u64]
                generalize E * 2 ^ i = S at hsl
                omega
              clear hs0
              generalize E * 2 ^ i = S at *
              generalize hPN : ptG XF (i + 1) = PN at *
              have HPN := hidD hPN
              clear hPN
              generalize hPI : ptG XF i = PI at *
              clear hPI
              have hor := u64_or_nat PI S hpl hsl
              rw [← HPS.out] at hor
              go_wp2_with fail
              go_roundw
              case rel =>
                first
                | exact ⟨i + 1, by omega, by go_num, by rw [HPN.out], by first | rfl | trivial⟩
                | ((repeat apply Exists.intro); refine And.intro ?_ rfl; exact ⟨i + 1, by omega, by go_num, by rw [HPN.out], by first | rfl | trivial⟩)
              case measure => simp [intOf]; omega
            · obtain rfl : i = b := by omega
              rw [← HXF.out]
              go_wp2_with fail
              refine bodyPost_ret (v := .tuple #[.int .u32 (W : Int), .int .u64 (F : Int), .int .i64 0]) (by simp [results, Try.results79, go_sem]) rfl ⟨⟨_, rfl⟩, ?_⟩
              rw [HG.out]; exact LB.out
set_option maxRecDepth 100000 in
set_option maxHeartbeats 3200000 in
theorem root6_3 (p b : Nat) (hp : p < 4294967296) (hb1 : 1 ≤ b) (hb : b ≤ 64) (w : World) : Calls Try.prog 79 #[.int .u32 (p : Int), .int .i64 3, .int .i64 (b : Int)] w fun e w' => (∃ u, e = .returned (.tuple #[u, .int .u64 (fpS p 3 b : Int), .int .i64 0])) ∧ Below w.heap.size w w' := by
  obtain ⟨hz, hsz⟩ := zero_of_info Try.zero136w
  have HI : Hid (∀ N, (Try.prog.info? 136).map (·.size) = some (wdR N).size) := fun N => by rw [hsz, wdR_size]
  have HS : Hid (∀ N M, (wdR N).size = (wdR M).size) := fun N M => by rw [wdR_size, wdR_size]
  have HO : Hid (∀ N, (wdR N).all (·.oneCell') = true) := wdR_one
  have HSH : Hid (∀ n : Nat, n + 32 ≤ 256 → ∀ w, Calls Try.prog 87 #[.int .u32 (p : Int), .int .i64 (n : Int)] w fun e w' => e = .returned (.agg (wdR (shG p n 32))) ∧ Below w.heap.size w w') := fun n hn w => shifted6_any p n hp hn w
  have HSM := hidD (HSH.out (3 * b) (by omega))
  have HML := hidD (sh_lt p (3 * b) 32 (by omega))
  have HTM : Hid (∀ A B : Nat, A < B32 ^ 8 → ∀ w, Calls Try.prog 88 #[.agg (wdR A), .agg (wdR B)] w fun e w' => e = .returned (.agg (wdR (A * B))) ∧ Below w.heap.size w w') := fun A B hA w => times6_any A B hA w
  have HAB : Hid (∀ A B : Nat, A < B32 ^ 8 → B < B32 ^ 8 → ∀ w, Calls Try.prog 89 #[.agg (wdR A), .agg (wdR B)] w fun e w' => e = .returned (.bool (decide (B < A))) ∧ Below w.heap.size w w') := fun A B hA hB w => above6_any A B hA hB w
  have HRL : Hid (∀ t, rtG p 3 b t < B32 ^ 8) := rt_lt p 3 b hb
  have HRS := hidD (rt_step p 3 b)
  have hkb : (3 : Int) * (b : Int) = ((3 * b : Nat) : Int) := by omega
  have hb1i : ¬ (b : Int) < 1 := by omega
  have hb64 : ¬ (64 : Int) < (b : Int) := by omega
  have HBG := hidD hb1
  have HB0 := hidD hb
  clear hsz HSH
  obtain ⟨F, hF⟩ : ∃ F : Nat, fpS p 3 b = F := ⟨_, rfl⟩
  rw [hF]
  have HF := hidD hF
  clear hF
  generalize hX : rtG p 3 b = X at *
  have HX0 : Hid (X 0 = 0) := by show _ = _; rw [← hX]; rfl
  have HXF : Hid (F = ptG (X (17 + b)) b) := by show _ = _; rw [← HF.out, ← hX]; rfl
  clear hX HF
  generalize shG p (3 * b) 32 = M at *
  generalize hkb' : 3 * b = kb at *
  have HKB := hidD hkb'
  clear hkb'
  go_enter Try.func79, Try.ntmps79
  go_wp2_with (first
    | (go_at_call 87; refine (HSM.out _).mono ?_; rintro e w1 ⟨rfl, hbw1⟩; have HB1 := hidD hbw1; have HA1 : Hid ((w1.alloc (.cells (wdR 0) (136 : TypeId))).heap[w1.heap.size]? = some (.cells (wdR 0) (136 : TypeId) (0, 0))) := heap_alloc_last _ _; clear hbw1)
    | (refine wpList_store_row rfl 136 _ _ rfl w1.heap.size (wdR M) rfl rfl 136 (wdR 0) HA1.out (HI.out _) (HS.out _ _) (HO.out _) ?_; obtain ⟨lr, hbl, hs⟩ := laid_row w1 (wdR 0) (wdR M) 136; have HM2 := hidD lr; have HB2 : Hid (Below w.heap.size w _) := Below.next HB1.out hbl; clear lr hbl hs HA1; generalize World.setRow _ _ _ = w2 at *))
  have KM : Hid (WdAt (w2.alloc (.cells (wdR 0) (136 : TypeId))) w1.heap.size M) := WdAt.next HM2.out ((Below.refl _ _).alloc (Nat.le_refl _) _)
  have KX : Hid (WdAt (w2.alloc (.cells (wdR 0) (136 : TypeId))) w2.heap.size (X 0)) := by show WdAt _ _ _; rw [HX0.out]; exact heap_alloc_last _ _
  have KB0 : Hid (Below w.heap.size w (w2.alloc (.cells (wdR 0) (136 : TypeId)))) := HB2.out.alloc HB2.out.size _
  have KG : Hid (w.heap.size ≤ w1.heap.size ∧ w1.heap.size < w2.heap.size) := ⟨HB1.out.size, row_lt HM2.out⟩
  clear HM2 HB2 HB1 HX0
  generalize World.alloc w2 _ = w3 at *
  generalize hgm : w1.heap.size = gm at *
  generalize hgx : w2.heap.size = gx at *
  clear hgm hgx
  generalize hg : w.heap.size = g at *
  have HG := hidD hg
  clear hg
  go_loopw [11] (fun iv wr => ∃ t : Nat, t ≤ 17 + b ∧ iv = .int .i64 ((16 + b : Int) - (t : Int)) ∧ WdAt wr gm M ∧ WdAt wr gx (X t) ∧ Below g w wr) (fun iv _ => (intOf iv + 1).toNat)
  case atStart => exact ⟨0, by omega, by simp, KM.out, KX.out, KB0.out⟩
  case round =>
    clear KM KX KB0
    obtain ⟨t, ht, rfl, hm, hx, hbel⟩ := hrel
    have LM := hidD hm
    have LX := hidD hx
    have LB := hidD hbel
    clear hm hx hbel
    by_cases hlt : t < 17 + b
    · obtain ⟨i, hi⟩ : ∃ i : Nat, 16 + b - t = i := ⟨_, rfl⟩
      have hii : (16 + b : Int) - (t : Int) = (i : Int) := by omega
      have hig : (0 : Int) ≤ (i : Int) := by omega
      rw [hii]
      have hi256 : i < 256 := by have := HB0.out; omega
      have hRS := HRS.out t
      rw [hi] at hRS
      have HRT := hidD hRS
      have HXT := hidD (HRL.out t)
      have hXT1 := HRL.out (t + 1)
      clear hRS hXT1
      have HTI : Hid (t + i = 16 + b) := by show _ = _; omega
      clear hi
      obtain ⟨Y, hY⟩ : ∃ Y : Nat, X t ||| 2 ^ i = Y := ⟨_, rfl⟩
      have hYL : Y < B32 ^ 8 := by
        rw [← hY]
        have h := HXT.out
        rw [b32_two] at *
        exact Nat.or_lt_two_pow h (Nat.pow_lt_pow_right (by decide) (by omega))
      rw [hY] at HRT
      have hq1 : (i : Int).tdiv 32 = ((i / 32 : Nat) : Int) := by rw [Int.tdiv_eq_ediv_of_nonneg (by omega)]; omega
      have hr1' : (i : Int).tmod 32 = ((i % 32 : Nat) : Int) := by rw [Int.tmod_eq_emod_of_nonneg (by omega)]; omega
      have hq8 : i / 32 < 8 := by omega
      have hrl : i % 32 < 32 := by omega
      have hT := pow32 hrl
      have hsh : IntKind.u32.wrap ((2 : Int) ^ (i % 32)) = ((2 ^ (i % 32) : Nat) : Int) := by
        rw [show (2 : Int) ^ (i % 32) = ((2 ^ (i % 32) : Nat) : Int) by simp, IntKind.wrap_u32]
        generalize 2 ^ (i % 32) = T at hT
        omega
      have hor := u32_or_nat (dgW (X t) (i / 32)) (2 ^ (i % 32)) (dgW_lt _ _) hT
      have HYS : Hid (∀ w' : World, ∀ gy, WdAt w' gy (X t) → WdAt (w'.setCell ⟨gy, i / 32, none⟩ (.int .u32 ((dgW (X t) (i / 32) ||| 2 ^ (i % 32) : Nat) : Int))) gy Y) := fun w' gy h => by
        have h1 := (h.row.set (k := i / 32) hq8 ((dgW (X t) (i / 32) ||| 2 ^ (i % 32) : Nat) : Int)).congr (f' := fun j => (dgW Y j : Int)) fun j hj => by
          rw [← hY, dg_or]
          by_cases h : j = i / 32
          · rw [if_pos h, if_pos h, h]
          · rw [if_neg h, if_neg h]
        exact h1
      have HYC : Hid (∀ w' : World, ∀ gy, WdAt w' gy (X t) → w'.cell? ⟨gy, i / 32, none⟩ = some (.int .u32 (dgW (X t) (i / 32) : Int)) ∧ w'.frozen? ⟨gy, i / 32, none⟩ = false) := fun w' gy h => ⟨h.row.cell hq8, h.row.frozen _⟩
      have HYL := hidD hYL
      have HYY : Hid (X t ||| 2 ^ i = Y) := hidD hY
      have hdl := dgW_lt (X t) (i / 32)
      unfold B32 at hdl
      clear hY hYL
      generalize hO : dgW (X t) (i / 32) ||| 2 ^ (i % 32) = O at *
      clear hO
      generalize dgW (X t) (i / 32) = XQ at *
      generalize hTT : 2 ^ (i % 32) = T at *
      clear hTT
      generalize i / 32 = Q at *
      generalize i % 32 = R at *
      have HTY := hidD (HTM.out Y Y HYL.out)
      have VY : Hid ((wr.alloc (.cells (wdR 0) (136 : TypeId))).heap[wr.heap.size]? = some (.cells (wdR 0) (136 : TypeId) (0, 0))) := heap_alloc_last _ _
      have hgg : Hid (gm < wr.heap.size ∧ gx < wr.heap.size) := ⟨row_lt LM.out, row_lt LX.out⟩
      have HGY : Hid (g ≤ gm ∧ gm < wr.heap.size ∧ gx < wr.heap.size) := ⟨KG.out.1, hgg.out.1, hgg.out.2⟩
      have HTZ : Hid (∀ w, Calls Try.prog 88 #[.agg (wdR Y), .agg (wdR Y)] w fun e w' => e = .returned (.agg (wdR (zzS Y 2))) ∧ Below w.heap.size w w') := fun w => by have := HTY.out w; rw [wdR_sq] at this; exact this
      have HTC : Hid (∀ w, Calls Try.prog 88 #[.agg (wdR (zzS Y 2)), .agg (wdR Y)] w fun e w' => e = .returned (.agg (wdR (zzS Y 3))) ∧ Below w.heap.size w w') := fun w => by have := HTM.out (zzS Y 2) Y (zz_lt _ _) w; rw [wdR_cu] at this; exact this
      have HTA := hidD (HAB.out (zzS Y 3) M (zz_lt _ _) HML.out)
      clear HTY HTM HAB
      by_cases hle : zzS Y 3 ≤ M
      · have hdf : decide (M < zzS Y 3) = false := by simp; omega
        have HNX : Hid (X (t + 1) = Y) := by show _ = _; rw [HRT.out, if_pos hle]
        rw [hdf] at HTA
        clear hdf hle HRT
        generalize hZ2 : zzS Y 2 = Z2 at *
        generalize hZ3 : zzS Y 3 = Z3 at *
        clear hZ2 hZ3
        go_wp2_with (first
          | (refine wpList_load_row rfl 136 _ rfl gx rfl 136 (wdR (X t)) (0, 0) _ LX.out Try.underlying136 rfl (HI.out _) ?_)
          | (refine wpList_store_row rfl 136 _ _ rfl wr.heap.size (wdR (X t)) rfl rfl 136 (wdR 0) VY.out (HI.out _) (HS.out _ _) (HO.out _) ?_; obtain ⟨lr, hbl, hs⟩ := laid_row wr (wdR 0) (wdR (X t)) 136; have NY : Hid (WdAt _ wr.heap.size (X t)) := lr; have NM := hidD (LM.out.next hbl); have NX := hidD (LX.out.next hbl); have NB : Hid (Below g w _) := LB.out.trans (hbl.mono (by have := hgg.out; have := KG.out; omega)); clear lr hbl hs VY LX LM LB; generalize World.setRow _ _ _ = w4 at *; generalize hgy : wr.heap.size = gy at *; clear hgy; have hcy := (HYC.out _ _ NY.out).1; have hfy := (HYC.out _ _ NY.out).2; have PY := hidD (HYS.out _ _ NY.out); have PM := hidD (NM.out.otherC (g' := gy) (by have := HGY.out; omega) Q (.int .u32 (O : Int))); have PX := hidD (NX.out.otherC (g' := gy) (by have := HGY.out; omega) Q (.int .u32 (O : Int))); have PB := hidD (below_setCell NB.out (g := gy) (by have := HGY.out; omega) Q (.int .u32 (O : Int))); clear NY NM NX NB)
          | (refine wpList_load_row rfl 136 _ rfl gy rfl 136 (wdR Y) (0, 0) _ PY.out Try.underlying136 rfl (HI.out _) ?_)
          | (go_at_call 88; refine (HTZ.out _).mono ?_; rintro e w6 ⟨rfl, hb6⟩; have QY := hidD (PY.out.next hb6); have QM := hidD (PM.out.next hb6); have QX := hidD (PX.out.next hb6); have QB : Hid (Below g w w6) := PB.out.trans (hb6.mono (by have := row_lt PY.out; have := HGY.out; omega)); have VZ : Hid ((w6.alloc (.cells (wdR 0) (136 : TypeId))).heap[w6.heap.size]? = some (.cells (wdR 0) (136 : TypeId) (0, 0))) := heap_alloc_last _ _; clear hb6 PY PM PX PB HTZ)
          | (refine wpList_store_row rfl 136 _ _ rfl w6.heap.size (wdR Z2) rfl rfl 136 (wdR 0) VZ.out (HI.out _) (HS.out _ _) (HO.out _) ?_; obtain ⟨lr, hbl, hs⟩ := laid_row w6 (wdR 0) (wdR Z2) 136; have RZ : Hid (WdAt _ w6.heap.size Z2) := lr; have RY := hidD (QY.out.next hbl); have RM := hidD (QM.out.next hbl); have RX := hidD (QX.out.next hbl); have RG : Hid (gy < w6.heap.size) := row_lt QY.out; have RB : Hid (Below g w _) := QB.out.trans (hbl.mono (by have := row_lt QY.out; have := HGY.out; omega)); clear lr hbl hs VZ QY QM QX QB; generalize World.setRow _ _ _ = w7 at *; generalize hgz : w6.heap.size = gz at *; clear hgz)
          | (refine wpList_load_row rfl 136 _ rfl gz rfl 136 (wdR Z2) (0, 0) _ RZ.out Try.underlying136 rfl (HI.out _) ?_)
          | (refine wpList_load_row rfl 136 _ rfl gy rfl 136 (wdR Y) (0, 0) _ RY.out Try.underlying136 rfl (HI.out _) ?_)
          | (go_at_call 88; refine (HTC.out _).mono ?_; rintro e wc ⟨rfl, hbc⟩; have CZ := hidD (RZ.out.next hbc); have CY := hidD (RY.out.next hbc); have CM := hidD (RM.out.next hbc); have CX := hidD (RX.out.next hbc); have CB : Hid (Below g w wc) := RB.out.trans (hbc.mono (by have := row_lt RY.out; have := HGY.out; omega)); clear hbc RZ RY RM RX RB HTC)
          | (refine wpList_store_row rfl 136 _ _ rfl gz (wdR Z3) rfl rfl 136 (wdR Z2) CZ.out (HI.out _) (HS.out _ _) (HO.out _) ?_; have SZ : Hid (WdAt (wc.setRow gz (wdR Z3)) gz Z3) := setRow_heap _ _ _ _ _ _ CZ.out; have SY := hidD (CY.out.otherR (g' := gz) (by have := RG.out; omega) (wdR Z3)); have SM := hidD (CM.out.otherR (g' := gz) (by have := RG.out; have := HGY.out; omega) (wdR Z3)); have SX := hidD (CX.out.otherR (g' := gz) (by have := RG.out; have := HGY.out; omega) (wdR Z3)); have SB : Hid (Below g w (wc.setRow gz (wdR Z3))) := below_setRow CB.out (by have := RG.out; have := HGY.out; omega) _; clear CZ CY CM CX CB; generalize wc.setRow gz (wdR Z3) = wd at *)
          | (refine wpList_load_row rfl 136 _ rfl gz rfl 136 (wdR Z3) (0, 0) _ SZ.out Try.underlying136 rfl (HI.out _) ?_)
          | (refine wpList_load_row rfl 136 _ rfl gm rfl 136 (wdR M) (0, 0) _ SM.out Try.underlying136 rfl (HI.out _) ?_)
          | (go_at_call 89; refine (HTA.out _).mono ?_; rintro e w8 ⟨rfl, hb8⟩; have UY := hidD (SY.out.next hb8); have UM := hidD (SM.out.next hb8); have UX := hidD (SX.out.next hb8); have UB : Hid (Below g w w8) := SB.out.trans (hb8.mono (by have := row_lt SY.out; have := HGY.out; omega)); clear hb8 HTA)
          | (refine wpList_load_row rfl 136 _ rfl gy rfl 136 (wdR Y) (0, 0) _ UY.out Try.underlying136 rfl (HI.out _) ?_)
          | (refine wpList_store_row rfl 136 _ _ rfl gx (wdR Y) rfl rfl 136 (wdR (X t)) UX.out (HI.out _) (HS.out _ _) (HO.out _) ?_))
        have ZX : Hid (WdAt (w8.setRow gx (wdR Y)) gx (X (t + 1))) := by
          show WdAt _ _ _
          rw [HNX.out]; exact setRow_heap _ _ _ _ _ _ UX.out
        have ZM := hidD (UM.out.otherR (g' := gx) (by have := KG.out; omega) (wdR Y))
        have ZB : Hid (Below g w (w8.setRow gx (wdR Y))) := below_setRow UB.out (by have := KG.out; omega) _
        generalize w8.setRow gx (wdR Y) = w9 at *
        go_roundw
        case rel =>
          first
          | exact ⟨t + 1, by omega, by go_num, ZM.out, ZX.out, ZB.out⟩
          | ((repeat apply Exists.intro); refine And.intro ?_ rfl; exact ⟨t + 1, by omega, by go_num, ZM.out, ZX.out, ZB.out⟩)
        case measure => simp [intOf]
      · have hdf : decide (M < zzS Y 3) = true := by simp; omega
        have HNX : Hid (X (t + 1) = X t) := by show _ = _; rw [HRT.out, if_neg hle]
        rw [hdf] at HTA
        clear hdf hle HRT
        generalize hZ2 : zzS Y 2 = Z2 at *
        generalize hZ3 : zzS Y 3 = Z3 at *
        clear hZ2 hZ3
        go_wp2_with (first
          | (refine wpList_load_row rfl 136 _ rfl gx rfl 136 (wdR (X t)) (0, 0) _ LX.out Try.underlying136 rfl (HI.out _) ?_)
          | (refine wpList_store_row rfl 136 _ _ rfl wr.heap.size (wdR (X t)) rfl rfl 136 (wdR 0) VY.out (HI.out _) (HS.out _ _) (HO.out _) ?_; obtain ⟨lr, hbl, hs⟩ := laid_row wr (wdR 0) (wdR (X t)) 136; have NY : Hid (WdAt _ wr.heap.size (X t)) := lr; have NM := hidD (LM.out.next hbl); have NX := hidD (LX.out.next hbl); have NB : Hid (Below g w _) := LB.out.trans (hbl.mono (by have := hgg.out; have := KG.out; omega)); clear lr hbl hs VY LX LM LB; generalize World.setRow _ _ _ = w4 at *; generalize hgy : wr.heap.size = gy at *; clear hgy; have hcy := (HYC.out _ _ NY.out).1; have hfy := (HYC.out _ _ NY.out).2; have PY := hidD (HYS.out _ _ NY.out); have PM := hidD (NM.out.otherC (g' := gy) (by have := HGY.out; omega) Q (.int .u32 (O : Int))); have PX := hidD (NX.out.otherC (g' := gy) (by have := HGY.out; omega) Q (.int .u32 (O : Int))); have PB := hidD (below_setCell NB.out (g := gy) (by have := HGY.out; omega) Q (.int .u32 (O : Int))); clear NY NM NX NB)
          | (refine wpList_load_row rfl 136 _ rfl gy rfl 136 (wdR Y) (0, 0) _ PY.out Try.underlying136 rfl (HI.out _) ?_)
          | (go_at_call 88; refine (HTZ.out _).mono ?_; rintro e w6 ⟨rfl, hb6⟩; have QY := hidD (PY.out.next hb6); have QM := hidD (PM.out.next hb6); have QX := hidD (PX.out.next hb6); have QB : Hid (Below g w w6) := PB.out.trans (hb6.mono (by have := row_lt PY.out; have := HGY.out; omega)); have VZ : Hid ((w6.alloc (.cells (wdR 0) (136 : TypeId))).heap[w6.heap.size]? = some (.cells (wdR 0) (136 : TypeId) (0, 0))) := heap_alloc_last _ _; clear hb6 PY PM PX PB HTZ)
          | (refine wpList_store_row rfl 136 _ _ rfl w6.heap.size (wdR Z2) rfl rfl 136 (wdR 0) VZ.out (HI.out _) (HS.out _ _) (HO.out _) ?_; obtain ⟨lr, hbl, hs⟩ := laid_row w6 (wdR 0) (wdR Z2) 136; have RZ : Hid (WdAt _ w6.heap.size Z2) := lr; have RY := hidD (QY.out.next hbl); have RM := hidD (QM.out.next hbl); have RX := hidD (QX.out.next hbl); have RG : Hid (gy < w6.heap.size) := row_lt QY.out; have RB : Hid (Below g w _) := QB.out.trans (hbl.mono (by have := row_lt QY.out; have := HGY.out; omega)); clear lr hbl hs VZ QY QM QX QB; generalize World.setRow _ _ _ = w7 at *; generalize hgz : w6.heap.size = gz at *; clear hgz)
          | (refine wpList_load_row rfl 136 _ rfl gz rfl 136 (wdR Z2) (0, 0) _ RZ.out Try.underlying136 rfl (HI.out _) ?_)
          | (refine wpList_load_row rfl 136 _ rfl gy rfl 136 (wdR Y) (0, 0) _ RY.out Try.underlying136 rfl (HI.out _) ?_)
          | (go_at_call 88; refine (HTC.out _).mono ?_; rintro e wc ⟨rfl, hbc⟩; have CZ := hidD (RZ.out.next hbc); have CY := hidD (RY.out.next hbc); have CM := hidD (RM.out.next hbc); have CX := hidD (RX.out.next hbc); have CB : Hid (Below g w wc) := RB.out.trans (hbc.mono (by have := row_lt RY.out; have := HGY.out; omega)); clear hbc RZ RY RM RX RB HTC)
          | (refine wpList_store_row rfl 136 _ _ rfl gz (wdR Z3) rfl rfl 136 (wdR Z2) CZ.out (HI.out _) (HS.out _ _) (HO.out _) ?_; have SZ : Hid (WdAt (wc.setRow gz (wdR Z3)) gz Z3) := setRow_heap _ _ _ _ _ _ CZ.out; have SY := hidD (CY.out.otherR (g' := gz) (by have := RG.out; omega) (wdR Z3)); have SM := hidD (CM.out.otherR (g' := gz) (by have := RG.out; have := HGY.out; omega) (wdR Z3)); have SX := hidD (CX.out.otherR (g' := gz) (by have := RG.out; have := HGY.out; omega) (wdR Z3)); have SB : Hid (Below g w (wc.setRow gz (wdR Z3))) := below_setRow CB.out (by have := RG.out; have := HGY.out; omega) _; clear CZ CY CM CX CB; generalize wc.setRow gz (wdR Z3) = wd at *)
          | (refine wpList_load_row rfl 136 _ rfl gz rfl 136 (wdR Z3) (0, 0) _ SZ.out Try.underlying136 rfl (HI.out _) ?_)
          | (refine wpList_load_row rfl 136 _ rfl gm rfl 136 (wdR M) (0, 0) _ SM.out Try.underlying136 rfl (HI.out _) ?_)
          | (go_at_call 89; refine (HTA.out _).mono ?_; rintro e w8 ⟨rfl, hb8⟩; have UY := hidD (SY.out.next hb8); have UM := hidD (SM.out.next hb8); have UX := hidD (SX.out.next hb8); have UB : Hid (Below g w w8) := SB.out.trans (hb8.mono (by have := row_lt SY.out; have := HGY.out; omega)); clear hb8 HTA))
        have ZX : Hid (WdAt w8 gx (X (t + 1))) := by show WdAt _ _ _; rw [HNX.out]; exact UX.out
        go_roundw
        case rel =>
          first
          | exact ⟨t + 1, by omega, by go_num, UM.out, ZX.out, UB.out⟩
          | ((repeat apply Exists.intro); refine And.intro ?_ rfl; exact ⟨t + 1, by omega, by go_num, UM.out, ZX.out, UB.out⟩)
        case measure => simp [intOf]
    · obtain rfl : t = 17 + b := by omega
      have hii : (16 + b : Int) - ((17 + b : Nat) : Int) = -1 := by omega
      rw [hii]
      have HXL : Hid (∀ q, q < 8 → wr.cell? ⟨gx, q, none⟩ = some (.int .u32 (dgW (X (17 + b)) q : Int))) := fun q hq => LX.out.row.cell hq
      clear LX LM HRS HRL HTM HAB HSM HI HS HO hz KG
      generalize X (17 + b) = XF at *
      obtain ⟨wl, hwl⟩ : ∃ wl : World, wl = wr := ⟨_, rfl⟩
      subst hwl
      go_wp2_with fail
      go_loopw [14, 16] (fun wv iv wr => ∃ i W : Nat, i ≤ 32 ∧ iv = .int .i64 (i : Int) ∧ wv = .int .u32 (W : Int) ∧ W < 4294967296 ∧ wr = wl) (fun _ iv _ => 32 - (intOf iv).toNat)
      case atStart => exact ⟨0, 0, by omega, rfl, rfl, by omega, rfl⟩
      case round =>
        obtain ⟨i, W, hi, rfl, rfl, hW, rfl⟩ := hrel
        by_cases hlt2 : i < 32
        · have hlt2i : (i : Int) < 32 := by omega
          obtain ⟨m, hm⟩ : ∃ m : Nat, b + i = m := ⟨_, rfl⟩
          have hmi : (b : Int) + (i : Int) = (m : Int) := by omega
          have hq1 : (m : Int).tdiv 32 = ((m / 32 : Nat) : Int) := by rw [Int.tdiv_eq_ediv_of_nonneg (by omega)]; omega
          have hr1' : (m : Int).tmod 32 = ((m % 32 : Nat) : Int) := by rw [Int.tmod_eq_emod_of_nonneg (by omega)]; omega
          have hq8 : m / 32 < 8 := by omega
          have hrl : m % 32 < 32 := by omega
          have hmb : m < 9223372036854775808 := by omega
          have hcx := HXL.out (m / 32) hq8
          have hdl := dgW_lt XF (m / 32)
          unfold B32 at hdl
          clear hm
          generalize m / 32 = Q at *
          generalize m % 32 = R at *
          generalize dgW XF Q = D at *
          have hdv : (D : Int) / 2 ^ R = ((D / 2 ^ R : Nat) : Int) := by simp
          have hdl2 : D / 2 ^ R < 4294967296 := Nat.lt_of_le_of_lt (Nat.div_le_self _ _) hdl
          have han := and_one32 (D / 2 ^ R) hdl2
          have h2 : D / 2 ^ R % 2 < 2 := Nat.mod_lt _ (by omega)
          generalize D / 2 ^ R % 2 = E at *
          generalize D / 2 ^ R = G at *
          have hs1 : (E : Int) * 2 ^ i % 4294967296 = ((E * 2 ^ i % 4294967296 : Nat) : Int) := by simp
          have hs2 : IntKind.u32.wrap ((E : Int) * 2 ^ i) = ((E * 2 ^ i % 4294967296 : Nat) : Int) := by rw [IntKind.wrap_u32]; exact hs1
          have hsl : E * 2 ^ i % 4294967296 < 4294967296 := Nat.mod_lt _ (by omega)
          generalize E * 2 ^ i % 4294967296 = S at *
          have hor := u32_or_nat W S hW hsl
          have HOL : Hid (W ||| S < 4294967296) := Nat.or_lt_two_pow (n := 32) hW hsl
          generalize W ||| S = O at *
          go_wp2_with fail
          go_roundw
          case rel =>
            first
            | exact ⟨i + 1, O, by omega, by go_num, rfl, HOL.out, by first | rfl | trivial⟩
            | ((repeat apply Exists.intro); refine And.intro ?_ rfl; exact ⟨i + 1, O, by omega, by go_num, rfl, HOL.out, by first | rfl | trivial⟩)
          case measure => simp [intOf]; omega
        · obtain rfl : i = 32 := by omega
          obtain ⟨wk, hwk⟩ : ∃ wk : World, wk = wr := ⟨_, rfl⟩
          subst hwk
          go_wp2_with fail
          go_loopw [15, 17] (fun pv iv wr => ∃ i : Nat, i ≤ b ∧ iv = .int .i64 (i : Int) ∧ pv = .int .u64 (ptG XF i : Int) ∧ wr = wk) (fun _ iv _ => b - (intOf iv).toNat)
          case atStart => exact ⟨0, by omega, rfl, rfl, rfl⟩
          case round =>
            obtain ⟨i, hi, rfl, rfl, rfl⟩ := hrel
            by_cases hlt3 : i < b
            · have hlt3i : (i : Int) < (b : Int) := by omega
              have hq1 : (i : Int).tdiv 32 = ((i / 32 : Nat) : Int) := by rw [Int.tdiv_eq_ediv_of_nonneg (by omega)]; omega
              have hr1' : (i : Int).tmod 32 = ((i % 32 : Nat) : Int) := by rw [Int.tmod_eq_emod_of_nonneg (by omega)]; omega
              have hq8 : i / 32 < 8 := by omega
              have hrl : i % 32 < 32 := by omega
              have hcx := HXL.out (i / 32) hq8
              have hdl := dgW_lt XF (i / 32)
              unfold B32 at hdl
              have HPS : Hid (ptG XF (i + 1) = ptG XF i ||| (dgW XF (i / 32) / 2 ^ (i % 32) % 2) * 2 ^ i) := rfl
              have hpl : ptG XF i < 18446744073709551616 := Nat.lt_of_lt_of_le (pt_lt XF i) (show 2 ^ i ≤ 2 ^ 64 from Nat.pow_le_pow_right (by omega) (by omega))
              generalize i / 32 = Q at *
              generalize i % 32 = R at *
              generalize dgW XF Q = D at *
              have hdv : (D : Int) / 2 ^ R = ((D / 2 ^ R : Nat) : Int) := by simp
              have hdl2 : D / 2 ^ R < 4294967296 := Nat.lt_of_le_of_lt (Nat.div_le_self _ _) hdl
              have han := and_one32 (D / 2 ^ R) hdl2
              have h2 : D / 2 ^ R % 2 < 2 := Nat.mod_lt _ (by omega)
              generalize D / 2 ^ R % 2 = E at *
              generalize D / 2 ^ R = G at *
              have hsl : E * 2 ^ i < 18446744073709551616 := by
                have h3 : 2 ^ i ≤ 2 ^ 63 := Nat.pow_le_pow_right (by omega) (by omega)
                have h4 : E * 2 ^ i ≤ 1 * 2 ^ i := Nat.mul_le_mul_right _ (by omega)
                omega
              have hs0 : (E : Int) * 2 ^ i = ((E * 2 ^ i : Nat) : Int) := by simp
              have hs2 : IntKind.u64.wrap ((E : Int) * 2 ^ i) = ((E * 2 ^ i : Nat) : Int) := by
                rw [hs0, IntKind.wrap_u64]
                generalize E * 2 ^ i = S at hsl
                omega
              clear hs0
              generalize E * 2 ^ i = S at *
              generalize hPN : ptG XF (i + 1) = PN at *
              have HPN := hidD hPN
              clear hPN
              generalize hPI : ptG XF i = PI at *
              clear hPI
              have hor := u64_or_nat PI S hpl hsl
              rw [← HPS.out] at hor
              go_wp2_with fail
              go_roundw
              case rel =>
                first
                | exact ⟨i + 1, by omega, by go_num, by rw [HPN.out], by first | rfl | trivial⟩
                | ((repeat apply Exists.intro); refine And.intro ?_ rfl; exact ⟨i + 1, by omega, by go_num, by rw [HPN.out], by first | rfl | trivial⟩)
              case measure => simp [intOf]; omega
            · obtain rfl : i = b := by omega
              rw [← HXF.out]
              go_wp2_with fail
              refine bodyPost_ret (v := .tuple #[.int .u32 (W : Int), .int .u64 (F : Int), .int .i64 0]) (by simp [results, Try.results79, go_sem]) rfl ⟨⟨_, rfl⟩, ?_⟩
              rw [HG.out]; exact LB.out
end Go.Proofs.Ytnldpofljeodiaa
/- What parts of the document answers. -/
namespace Go.Proofs.Ytnldpofljeodiaa
open Go.RowKit
set_option linter.unusedVariables false

theorem root6_any (k p b : Nat) (hk : k = 2 ∨ k = 3) (hp : p < 4294967296) (hb1 : 1 ≤ b) (hb : b ≤ 64) (w : World) : Calls Try.prog 79 #[.int .u32 (p : Int), .int .i64 (k : Int), .int .i64 (b : Int)] w fun e w' => (∃ u, e = .returned (.tuple #[u, .int .u64 (fpS p k b : Int), .int .i64 0])) ∧ Below w.heap.size w w' := by
  rcases hk with rfl | rfl
  · exact root6_2 p b hp hb1 hb w
  · exact root6_3 p b hp hb1 hb w
set_option maxRecDepth 100000 in
set_option maxHeartbeats 1000000 in
theorem parts6_any (k b n : Nat) (f : Nat → Nat) (hk : k = 2 ∨ k = 3) (hb1 : 1 ≤ b) (hb : b ≤ 64) (hn : n ≤ 80) (hf : ∀ j, f j < 4294967296) (sl : Value) (w : World) (hs : NsAt w .u32 sl n f) : Calls Try.prog 69 #[sl, .int .i64 (k : Int), .int .i64 (b : Int)] w fun e w' => ∃ v, e = .returned v ∧ w'.ownsRow w.heap.size 41 1 v n (rangeC .u64 (fun j => fpS (f j) k b) n) ∧ Below w.heap.size w w' := by
  have HRT : Hid (∀ p : Nat, p < 4294967296 → ∀ w, Calls Try.prog 79 #[.int .u32 (p : Int), .int .i64 (k : Int), .int .i64 (b : Int)] w fun e w' => (∃ u, e = .returned (.tuple #[u, .int .u64 (fpS p k b : Int), .int .i64 0])) ∧ Below w.heap.size w w') := fun p hp w => root6_any k p b hk hp hb1 hb w
  obtain ⟨i0, hi, hz0, hz1, hz2⟩ := info_parts Try.info41c
  obtain ⟨a, cap, rfl, hnc, hsc⟩ := hs
  have HSC := hidD hsc
  have HF := hidD hf
  clear hsc hk hb1 hb hf
  obtain ⟨F, hF⟩ : ∃ F : Nat → Nat, (fun j => fpS (f j) k b) = F := ⟨_, rfl⟩
  have HFF : Hid (∀ j, fpS (f j) k b = F j) := fun j => by rw [← hF]
  rw [hF]
  clear hF
  go_enter Try.func69, Try.ntmps69
  go_wp2_with fail
  go_loopw [7, 8] (fun o iv wr => ∃ i : Nat, i ≤ n ∧ iv = .int .i64 (i : Int) ∧ wr.ownsRow w.heap.size 41 1 o i (rangeC .u64 F i) ∧ Below w.heap.size w wr) (fun _ iv _ => n - (intOf iv).toNat)
  case atStart => exact ⟨0, Nat.zero_le _, rfl, World.ownsRow_nil _ _ _ _, Below.refl _ _⟩
  case round =>
    obtain ⟨i, hi', rfl, hown, hbel⟩ := hrel
    obtain ⟨ad, cd, hde⟩ := row_shape hown
    subst hde
    have HOW := hidD hown
    have HBL := hidD hbel
    have hwz := hbel.size
    clear hown
    by_cases hlt : i < n
    · have hlti : (i : Int) < (n : Int) := by omega
      obtain ⟨g1, o1, rfl, hg1, hc1⟩ := HSC.out i hlt
      have d1 := (hbel.cell (p := ⟨g1, o1 + i, none⟩) hg1).trans hc1
      have HR1 := hidD (HRT.out (f i) (HF.out i))
      have HRN : Hid (rangeC .u64 F (i + 1) = rangeC .u64 F i ++ [.int .u64 (fpS (f i) k b : Int)]) := by
        show _ = _
        rw [rangeC_next, HFF.out]
      clear hbel hc1
      generalize fpS (f i) k b = FI at *
      generalize f i = fi at *
      go_wp2_with (first
        | (go_at_call 79; refine (HR1.out _).mono ?_; rintro e w3 ⟨⟨u, rfl⟩, hb3⟩; have HB3 := hidD (Below.next HBL.out hb3); have HO3 := hidD (row_below HOW.out hb3); have hwz3 := hb3.size; clear hb3)
        | (at_builtin; refine wpList_append_own _ rfl _ _ 52 rfl w.heap.size 41 i0 (.int .u64 0) 1 8 Try.underlying52 hi hz0 hz1 hz2 rfl (by decide) (.slice ad i cd) i (rangeC .u64 F i) rfl (row_below HO3.out ((Below.refl _ _).alloc (Nat.le_refl _) _)) ⟨w3.heap.size, 0, none⟩ 1 1 [.int .u64 (FI : Int)] rfl rfl (new_cell1 w3 _ _) (by simp [Value.oneCell']) (by unfold maxLen; omega) (by omega) (by simp; omega) ?_; intro v4 w4 hown4 hg4 hnil4; have HB4 := hidD (row_grown (row_below HO3.out ((Below.refl _ _).alloc (Nat.le_refl _) _)) (HB3.out.alloc (Nat.le_trans hwz hwz3) _) hg4 (by simp; omega)); clear hg4 hnil4))
      go_roundw
      case rel =>
        first
        | exact ⟨i + 1, by omega, by go_num, by rw [HRN.out]; exact hown4, HB4.out⟩
        | ((repeat apply Exists.intro); refine And.intro ?_ rfl; exact ⟨i + 1, by omega, by go_num, by rw [HRN.out]; exact hown4, HB4.out⟩)
      case measure => simp [intOf]; omega
    · obtain rfl : i = n := by omega
      go_wp2_with fail
      refine bodyPost_ret (v := .slice ad i cd) (by simp [results, Try.results69, go_sem]) rfl ⟨_, rfl, HOW.out, hbel⟩
end Go.Proofs.Ytnldpofljeodiaa
/- The document's constants are the program's. -/
namespace Go.Proofs.Ytnldpofljeodiaa
open Go.RowKit
set_option linter.unusedVariables false

theorem con_k32 : ∀ j : Fin 64, fpS (prS j.val) 3 32 = coS 256 j.val ∧ coS 224 j.val = coS 256 j.val := by decide +kernel
theorem con_k64 : ∀ j : Fin 80, fpS (prS j.val) 3 64 = coS 512 j.val ∧ coS 384 j.val = coS 512 j.val := by decide +kernel
theorem con_h : ∀ j : Fin 8, fpS (prS j.val) 2 32 = coS 256 (80 + j.val) ∧ fpS (prS j.val) 2 64 = coS 512 (80 + j.val) ∧ fpS (prS (8 + j.val)) 2 64 = coS 384 (80 + j.val) ∧ fpS (prS (8 + j.val)) 2 64 % 4294967296 = coS 224 (80 + j.val) := by decide +kernel
end Go.Proofs.Ytnldpofljeodiaa
