/- Texts of one proof, one behind the other. -/
import Derived.Test.YtgmbkelmgolkpabDoorOfc
import Derived.Test.YtgmbkelmgolkpabDoorRqb
import Derived.WalkMore
import Derived.ScopeJumps
import Derived.Test.YtgmbkelmgolkpabDoorNwa
import Derived.Test.YtgmbkelmgolkpabDoorGma
/- What leastText answers, by what holds of its rounds. -/
namespace Go.Proofs.YtgmbkelmgolkpabDoor
open Go.RowKit
set_option linter.unusedVariables false

def boC (m : Nat) (A : Nat → Bool) : Array Value := ((List.range m).map fun i => Value.bool (A i)).toArray
theorem bo_size (m : Nat) (A : Nat → Bool) : (boC m A).size = m := by simp [boC]
theorem bo_get {m : Nat} (A : Nat → Bool) {i : Nat} (h : i < m) : (boC m A)[i]? = some (.bool (A i)) := by
  rw [boC, List.getElem?_toArray, List.getElem?_map, List.getElem?_range h]; rfl
def updA (A : Nat → Bool) (k : Nat) : Nat → Bool := fun y => if y = k then true else A y
theorem bo_put {m k : Nat} (A : Nat → Bool) (hk : k < m) : (boC m A).setIfInBounds k (.bool true) = boC m (updA A k) := by
  refine Array.ext_getElem? fun i => ?_
  rw [Array.getElem?_setIfInBounds]
  by_cases hi : k = i
  · subst hi
    rw [if_pos rfl, if_pos (by rw [bo_size]; exact hk), bo_get _ hk]; unfold updA; rw [if_pos rfl]
  · rw [if_neg hi]
    rcases Nat.lt_or_ge i m with h3 | h3
    · rw [bo_get _ h3, bo_get _ h3]; unfold updA; rw [if_neg (Ne.symm hi)]
    · rw [Array.getElem?_eq_none (by rw [bo_size]; exact h3), Array.getElem?_eq_none (by rw [bo_size]; exact h3)]
theorem bo_rep (m : Nat) : (List.replicate m (Value.bool false)).toArray = boC m (fun _ => false) := by
  refine Array.ext_getElem? fun i => ?_
  rcases Nat.lt_or_ge i m with h3 | h3
  · rw [bo_get _ h3, List.getElem?_toArray, List.getElem?_replicate, if_pos h3]
  · rw [Array.getElem?_eq_none (by simpa using h3), Array.getElem?_eq_none (by rw [bo_size]; exact h3)]
/-- The offers of the first k terminals. -/
def beO (k : Nat) : Nat → Of := fun s => if s < k then ⟨[UInt8.ofNat s], true, true⟩ else ⟨[], false, false⟩
theorem be_next (k : Nat) : updO (beO k) k ⟨[UInt8.ofNat k], true, true⟩ = beO (k + 1) := by
  funext y
  unfold updO beO
  by_cases h : y = k
  · rw [if_pos h, if_pos (by omega), h]
  · rw [if_neg h]
    by_cases h2 : y < k
    · rw [if_pos h2, if_pos (by omega)]
    · rw [if_neg h2, if_neg (by omega)]
theorem be_rep (n : Nat) : (madeCells (Value.agg #[.string ⟨#[]⟩, .bool false, .bool false]).cells (n * 3)) = ofC n (beO 0) := by
  refine Array.ext_getElem? fun i => ?_
  rcases Nat.lt_or_ge i (n * 3) with hi | hi
  · rw [of_get _ hi]
    unfold madeCells ofV beO
    rw [Array.getElem?_map, Array.getElem?_range, if_pos hi, Option.map_some, if_neg (Nat.not_lt_zero _)]
    have h3 : i % 3 = 0 ∨ i % 3 = 1 ∨ i % 3 = 2 := by omega
    rcases h3 with h | h | h
    · rw [if_pos h]
      show some ((#[Value.string ⟨#[]⟩, .bool false, .bool false] : Array Value)[i % 3]!) = _
      rw [h]; rfl
    · rw [if_neg (by omega), if_pos h]
      show some ((#[Value.string ⟨#[]⟩, .bool false, .bool false] : Array Value)[i % 3]!) = _
      rw [h]; rfl
    · rw [if_neg (by omega), if_neg (by omega)]
      show some ((#[Value.string ⟨#[]⟩, .bool false, .bool false] : Array Value)[i % 3]!) = _
      rw [h]; rfl
  · rw [of_none _ hi, Array.getElem?_eq_none (by rw [size_madeCells]; exact hi)]
theorem be_put {n k : Nat} (hk : k < n) : (((ofC n (beO k)).setIfInBounds (k * 3) (encT [UInt8.ofNat k])).setIfInBounds (k * 3 + 1) (.bool true)).setIfInBounds (k * 3 + 2) (.bool true) = ofC n (beO (k + 1)) := by
  rw [of_text _ _ hk, of_settle _ hk]
  refine of_ext fun s hs => ?_
  rw [← be_next]
  by_cases h : s = k
  · subst h; rw [updO_same, updO_same, updO_same]
  · rw [updO_other h, updO_other h, updO_other h]
/-- A byte as a text. -/
theorem conv_one (g : Nat) (b : UInt8) (w : World) (h : w.cell? ⟨g, 0, none⟩ = some (.int .u8 (b.toNat : Int))) : (convert 72 9 (.slice (some ⟨g, 0, none⟩) 1 1)).run Tryd.prog w = .ok (encT [b]) w := by
  refine run_convert_bytes_back w 72 9 5 _ 1 [b] Tryd.under72 (by kernel_rfl) Tryd.under9s fun j hj => ?_
  have hj1 : j < 1 := hj
  obtain rfl : j = 0 := by omega
  rw [Go.WideShapes.add_plain]
  exact h
theorem byte_of {s : Nat} (hs : s ≤ 255) : ((UInt8.ofNat s).toNat : Int) = (s : Int) := by
  rw [UInt8.toNat_ofNat']; omega
/-- How many are not settled. -/
def unS (F : Nat → Of) : Nat → Nat
  | 0 => 0
  | k + 1 => unS F k + (if (F k).se then 0 else 1)
def rdU (w : World) (g : Nat) : Nat → Nat
  | 0 => 0
  | k + 1 => rdU w g k + (match w.cell? ⟨g, k * 3 + 2, none⟩ with
    | some (.bool true) => 0
    | _ => 1)
theorem rdU_of {w : World} {g n : Nat} {F : Nat → Of} (h : CsAt w g (ofC n F) 92) : ∀ k, k ≤ n → rdU w g k = unS F k
  | 0, _ => rfl
  | k + 1, hk => by
    rw [rdU, unS, rdU_of h k (by omega), h.cell, of_se F (by omega)]
    cases (F k).se <;> rfl
theorem un_congr {F G : Nat → Of} : ∀ k, (∀ s, s < k → (F s).se = (G s).se) → unS F k = unS G k
  | 0, _ => rfl
  | k + 1, h => by rw [unS, unS, un_congr k (fun s hs => h s (by omega)), h k (by omega)]
theorem un_settle {F : Nat → Of} {s : Nat} (hs : (F s).se = false) : ∀ k, s < k → unS (updO F s { F s with se := true }) k < unS F k
  | 0, h => absurd h (by omega)
  | k + 1, h => by
    by_cases hk : k = s
    · subst hk
      have := un_congr (F := updO F k { F k with se := true }) (G := F) k (fun y hy => by rw [updO_other (by omega)])
      rw [unS, unS, this, updO_same, hs]
      simp
    · have ih := un_settle hs k (by omega)
      rw [unS, unS, updO_other hk]; omega
theorem OfIs.se {F F' : Nat → Of} {L : Nat} {x : Tx} (h : OfIs F L x F') (s : Nat) : (F' s).se = (F s).se := by
  rcases h with ⟨_, h⟩ | ⟨_, ⟨h, _⟩ | ⟨h, _⟩⟩
  · rw [h]
  · rw [h]
  · rw [h]
    by_cases hs : s = L
    · rw [hs, updO_same]
    · rw [updO_other hs]
/-- What holds of the rounds: I between them, J within one, behind so many rules. -/
structure Rounds (T n : Nat) (R : List (Nat × List Int)) (I : (Nat → Of) → (Nat → Bool) → Prop) (J : Nat → (Nat → Of) → (Nat → Bool) → Prop) : Prop where
  zero : I (beO T) (fun _ => false)
  len : ∀ k F A, J k F A → ∀ s, s < n → (F s).t.length ≤ 1048576
  lenI : ∀ F A, I F A → ∀ s, s < n → (F s).t.length ≤ 1048576
  start : ∀ F A, I F A → J 0 F A
  skip : ∀ k F A, k < R.length → J k F A → (A k = true ∨ (R.getD k (0, [])).2.all (fun x => (F x.toNat).se) = false) → J (k + 1) F A
  ask : ∀ k F A F', k < R.length → J k F A → A k = false → (R.getD k (0, [])).2.all (fun x => (F x.toNat).se) = true → OfIs F (R.getD k (0, [])).1 (catTo F (R.getD k (0, [])).2 (R.getD k (0, [])).2.length) F' → J (k + 1) F' (updA A k)
  settle : ∀ F A (s : Nat), J R.length F A → LoTo F n (s : Int) → I (updO F s { F s with se := true }) A
theorem CsAt.some {w : World} {g : Nat} {cs : Array Value} {t : TypeId} (h : CsAt w g cs t) {i : Nat} (hi : i < cs.size) : ∃ v, w.cell? ⟨g, i, none⟩ = some v := ⟨cs[i], (h.cell i).trans (Array.getElem?_eq_getElem hi)⟩
theorem Tryd.info92 : (Tryd.prog.info? 92).map (fun i => (i.zero, i.size, i.bytes)) = some (some (.agg #[.string ⟨#[]⟩, .bool false, .bool false]), 3, 24) := by kernel_rfl
theorem Tryd.size92 : (Tryd.prog.info? 92).map (·.size) = some 3 := by kernel_rfl
theorem Tryd.under90 : Tryd.prog.underlying 90 = some (.slice 92) := by kernel_rfl
theorem Tryd.info4 : (Tryd.prog.info? 4).map (fun i => (i.zero, i.size, i.bytes)) = some (some (.bool false), 1, 1) := by kernel_rfl
theorem Tryd.under93 : Tryd.prog.underlying 93 = some (.slice 4) := by kernel_rfl
theorem cs_of_full3 {w : World} {base e g n size : Nat} {xs : Array Value} (h : w.ownsRow base e size (.slice (some ⟨g, 0, none⟩) n n) n xs.toList) : CsAt w g xs e := by
  rcases h.2 with ⟨h1, _⟩ | ⟨g', cap, cur, hv, hb, hg, hnc, hcm, hcs, htk⟩
  · cases h1
  · cases hv
    have : cur = xs := by
      apply Array.toList_inj.1
      rw [← htk, List.take_of_length_le (by rw [Array.length_toList]; omega)]
    rw [← this]; exact hg
theorem bl_al (w : World) (o : Obj) : Below w.heap.size w (w.alloc o) := (Below.refl _ _).alloc (Nat.le_refl _) o
set_option maxRecDepth 100000 in
set_option maxHeartbeats 3200000 in
theorem leastText_any {p : Nat} (T n : Nat) (R : List (Nat × List Int)) (hR : RuOk R n) (hn : n ≤ 128) (hRl : R.length ≤ 128) (hT : T ≤ n) (I : (Nat → Of) → (Nat → Bool) → Prop) (J : Nat → (Nat → Of) → (Nat → Bool) → Prop) (hI : Rounds T n R I J) (wt : Nat) (hwt : wt < n) (vr : Value) (an : Option Addr) (cn : Nat) (w : World) (hp : p < w.heap.size) (hpn : w.cell? ⟨p, 0, none⟩ = some (.slice an n cn)) (hpt : w.cell? ⟨p, 2, none⟩ = some (.int .i64 (T : Int))) (hpc : w.cell? ⟨p, 4, none⟩ = some vr) (hr : RuAt w vr R) :
    Calls Tryd.prog 36 #[.pointer (some ⟨p, 0, none⟩), .int .i64 (wt : Int)] w fun e w' => ∃ F A, e = .returned (.tuple #[encT (F wt).t, .bool (F wt).se]) ∧ ((F wt).se = true → I F A) ∧ (F wt).t.length ≤ 1048576 ∧ Below w.heap.size w w' := by
  obtain ⟨ar, cr, rfl, hrc⟩ := hr
  have HRC := hidD hrc
  have HRO := hidD hR
  have HII := hidD hI
  have HPN := hidD hpn
  have HPT := hidD hpt
  have HPC := hidD hpc
  obtain ⟨i92, hi92, hz920, hz921, hz922⟩ := info_parts Tryd.info92
  obtain ⟨i4, hi4, hz40, hz41, hz42⟩ := info_parts Tryd.info4
  obtain ⟨hz76, hsz76⟩ := zero_of_info Tryd.zero76
  clear hrc hR hI
  generalize hrn : R.length = rn at *
  have HRN := hidD hrn
  clear hrn
  go_enter Tryd.func36, Tryd.ntmps36
  go_wp2_with fail
  go_step3
  go_wp2_with (refine wpList_make_full w rfl _ _ 90 rfl w.heap.size 92 i92 _ 3 Tryd.under90 hi92 hz920 hz921 .i64 .i64 (n : Int) (n : Int) n rfl rfl rfl rfl (by rw [hz922]; omega) (by unfold maxLen; omega) (Nat.le_refl _) ?_; intro w1 ho1 hg1; have HC1 := hidD (cs_of_full3 ho1); have HB1 := hidD (below_none hg1); have f1 : w1.cell? ⟨p, 2, none⟩ = some (.int .i64 (T : Int)) := (HB1.out.cell (p := ⟨p, 2, none⟩) hp).trans hpt; clear ho1 hg1)
  rw [be_rep] at HC1
  have HGL := HC1.out.lt
  have HGE : Hid (w.heap.size ≤ w1.heap.size) := HB1.out.size
  generalize hgg : w.heap.size = g at *
  have HGG := hidD hgg
  clear hgg hpn hpt hpc f1
  go_loopw [22] (fun i wr => ∃ k : Nat, k ≤ T ∧ i = .int .i64 (k : Int) ∧ CsAt wr g (ofC n (beO k)) 92 ∧ Below g w wr) (fun i _ => T - (intOf i).toNat)
  case atStart => exact ⟨0, Nat.zero_le _, rfl, HC1.out, HB1.out⟩
  case round =>
    obtain ⟨k, hk, rfl, hcs, hbel⟩ := hrel
    have HCS := hidD hcs
    have HBW := hidD hbel
    by_cases hlt : k < T
    · have hlti : (k : Int) < (T : Int) := by omega
      have hkn : (k : Int) < (n : Int) := by omega
      have hcv : (convert 72 9 (.slice (some ⟨wr.heap.size, 0, none⟩) 1 1)).run Tryd.prog (wr.alloc (.cells #[.int .u8 (k : Int)] (5 : TypeId))) = .ok (encT [UInt8.ofNat k]) (wr.alloc (.cells #[.int .u8 (k : Int)] (5 : TypeId))) := conv_one _ _ _ (by rw [byte_of (by omega)]; exact (cell_of_row _ _ _ _ _ _ (heap_alloc_last _ _)).trans rfl)
      have HCA : Hid (CsAt (wr.alloc (.cells #[.int .u8 (k : Int)] (5 : TypeId))) g (ofC n (beO k)) 92) := hcs.next ((Below.refl _ _).alloc (Nat.le_refl _) _)
      have hgw := hcs.lt
      have hth : (wr.alloc (.cells #[.int .u8 (k : Int)] (5 : TypeId))).there g (k * 3) 3 := HCA.out.there (by rw [of_size]; omega)
      have HBP := hidD (be_put (n := n) (k := k) (by omega))
      have HC3 : Hid (CsAt (((wr.setCell ⟨g, k * 3, none⟩ (encT [UInt8.ofNat k])).setCell ⟨g, k * 3 + 1, none⟩ (.bool true)).setCell ⟨g, k * 3 + 2, none⟩ (.bool true)) g (ofC n (beO (k + 1))) 92) := by
        have := ((hcs.put (k * 3) (encT [UInt8.ofNat k])).put (k * 3 + 1) (.bool true)).put (k * 3 + 2) (.bool true)
        rw [HBP.out] at this; exact this
      have HBW3 : Hid (Below g w (((wr.setCell ⟨g, k * 3, none⟩ (encT [UInt8.ofNat k])).setCell ⟨g, k * 3 + 1, none⟩ (.bool true)).setCell ⟨g, k * 3 + 2, none⟩ (.bool true))) := ((hbel.setCell (p := ⟨g, k * 3, none⟩) (Nat.le_refl _) _).setCell (p := ⟨g, k * 3 + 1, none⟩) (Nat.le_refl _) _).setCell (p := ⟨g, k * 3 + 2, none⟩) (Nat.le_refl _) _
      clear hcs hbel
      unfold encT at *
      generalize bA [UInt8.ofNat k] = tk at *
      obtain ⟨v0, hv0⟩ := HCS.out.some (i := k * 3) (by rw [of_size]; omega)
      obtain ⟨v1, hv1⟩ := HCS.out.some (i := k * 3 + 1) (by rw [of_size]; omega)
      obtain ⟨v2, hv2⟩ := HCS.out.some (i := k * 3 + 2) (by rw [of_size]; omega)
      have z0 := HCS.out.frz (k * 3)
      have z1 := HCS.out.frz (k * 3 + 1)
      have z2 := HCS.out.frz (k * 3 + 2)
      clear hth
      go_wp2_with fail
      go_roundw
      case rel => exact ⟨k + 1, by omega, by go_num, HC3.out.next ((Below.refl _ _).alloc (Nat.le_refl _) _), HBW3.out.alloc (Nat.le_of_lt HC3.out.lt) _⟩
      case measure => simp [intOf]; omega
    · obtain rfl : k = T := by omega
      have f4 : wr.cell? ⟨p, 4, none⟩ = some (.slice ar rn cr) := (hbel.cell (p := ⟨p, 4, none⟩) hp).trans HPC.out
      have HGR := hcs.lt
      obtain ⟨wq, hwq⟩ : ∃ wq, wq = wr := ⟨_, rfl⟩
      subst hwq
      go_wp2_with (refine wpList_make_full wq rfl _ _ 93 rfl wq.heap.size 4 i4 _ 1 Tryd.under93 hi4 hz40 hz41 .i64 .i64 (rn : Int) (rn : Int) rn rfl rfl rfl rfl (by rw [hz42]; omega) (by unfold maxLen; omega) (Nat.le_refl _) ?_; intro w2 ho2 hg2; have HA2 := hidD (cs_of_full ho2); have HB2 := hidD (below_none hg2); clear ho2 hg2)
      rw [show (madeCells (Value.bool false).cells (rn * 1)).toList = List.replicate rn (.bool false) by rw [Nat.mul_one]; exact toList_madeCells_one _ _, bo_rep] at HA2
      have HCS2 := hidD (HCS.out.next HB2.out)
      have HBW2 : Hid (Below g w w2) := HBW.out.trans (HB2.out.mono (Nat.le_of_lt HGR))
      generalize hga : wq.heap.size = ga at *
      have hgga : g < ga := HGR
      clear f4 hga hcs hbel
      go_step3
      go_wp2_with fail
      have HZ0 := hidD HII.out.zero
      go_loopw [11] (fun _ wr => ∃ F A, CsAt wr g (ofC n F) 92 ∧ CsAt wr ga (boC rn A) 4 ∧ I F A ∧ Below g w wr) (fun _ wr => rdU wr g n)
      case atStart => exact ⟨_, _, HCS2.out, HA2.out, HZ0.out, HBW2.out⟩
      case round =>
        obtain ⟨F, A, hcf, hca, hif, hbel⟩ := hrel
        have HCF := hidD hcf
        have HCA := hidD hca
        have HIF := hidD hif
        have HBL := hidD hbel
        have hgl := hcf.lt
        have f5 : wr.cell? ⟨g, wt * 3 + 2, none⟩ = some (.bool (F wt).se) := (hcf.cell _).trans (of_se F hwt)
        have f6 : wr.cell? ⟨g, wt * 3, none⟩ = some (encT (F wt).t) := (hcf.cell _).trans (of_t F hwt)
        have f4 : wr.cell? ⟨p, 4, none⟩ = some (.slice ar rn cr) := (hbel.cell (p := ⟨p, 4, none⟩) hp).trans HPC.out
        have hwti : (wt : Int) < (n : Int) := by omega
        have HLN := hidD (HII.out.lenI F A hif wt hwt)
        have HJ0 := hidD (HII.out.start F A hif)
        obtain ⟨wo, hwo⟩ : ∃ wo, wo = wr := ⟨_, rfl⟩
        subst hwo
        clear hcf hca hif hbel
        cases hse : (F wt).se with
        | true =>
          rw [hse] at f5
          have k0 : ∀ i : KB wo [g], i.v.cell? ⟨g, wt * 3, none⟩ = some (encT (F wt).t) := fun i => (i.cell (b := g) (by simp) _).trans f6
          have k1 : ∀ i : KB wo [g], i.v.cell? ⟨g, wt * 3 + 2, none⟩ = some (.bool true) := fun i => (i.cell (b := g) (by simp) _).trans f5
          unfold encT at *
          generalize htx : bA (F wt).t = tx at *
          go_wp2_with fail
          refine wp_region_seg [0, 0, 0, 0, 0, 0, 0, 0, 0, 0, 0, 0] 0 12 [g] (by kernel_rfl) (by kernel_rfl) (by kernel_rfl) (by kernel_rfl) (by kernel_rfl) (by kernel_rfl) (by kernel_rfl) (by kernel_rfl) (fun _ _ _ _ _ h => h) ?_
          simp only [SegW, pk, Nat.reduceMul, Nat.reduceBEq, cond_true, cond_false]
          repeat (go_big_quiet_step (fail))
          refine wpQuiet_nil ?_
          go_wp2_with fail
          rw [Exit.noGoto_ret]
          refine bodyPost_ret (v := .tuple #[.string tx, .bool true]) (by simp [results, Tryd.results36, go_sem]) rfl ?_
          exact ⟨F, A, by unfold encT; rw [htx, hse], fun _ => HIF.out, HLN.out, by rw [HGG.out]; exact HBL.out.drew⟩
        | false =>
          rw [hse] at f5
          have HUN : Hid (rdU wo g n = unS F n) := rdU_of HCF.out n (Nat.le_refl _)
          clear f6
          go_wp2_with fail
          go_loopw [51] (fun i wr => ∃ (k : Nat) (F' : Nat → Of) (A' : Nat → Bool), k ≤ rn ∧ i = .int .i64 (k : Int) ∧ CsAt wr g (ofC n F') 92 ∧ CsAt wr ga (boC rn A') 4 ∧ J k F' A' ∧ (∀ s, (F' s).se = (F s).se) ∧ Below g w wr) (fun i _ => rn - (intOf i).toNat)
          case atStart => exact ⟨0, F, A, Nat.zero_le _, rfl, HCF.out, HCA.out, HJ0.out, fun _ => rfl, HBL.out⟩
          case round =>
            obtain ⟨k, F', A', hk, rfl, hcf, hca, hj, hsame, hbel⟩ := hrel
            have HCF2 := hidD hcf
            have HCA2 := hidD hca
            have HJ := hidD hj
            have HSM := hidD hsame
            have HBW2 := hidD hbel
            have HLE := hidD (HII.out.len k F' A' hj)
            have hgl := hcf.lt
            have hal := hca.lt
            obtain ⟨wp, hwp⟩ : ∃ wp, wp = wr := ⟨_, rfl⟩
            subst hwp
            clear hcf hca hj hsame hbel
            by_cases hlt : k < rn
            · have hlti : (k : Int) < (rn : Int) := by omega
              have hkR : k < R.length := by rw [HRN.out]; exact hlt
              obtain ⟨gr, o, rv, rfl, hgr, hc1, hc2, hrv⟩ := HRC.out k hlt
              have f7 : wp.cell? ⟨gr, o + k * 2, none⟩ = some (.int .i64 ((R.getD k (0, [])).1 : Int)) := (HBW2.out.cell (p := ⟨gr, o + k * 2, none⟩) hgr).trans hc1
              have f8 : wp.cell? ⟨gr, o + k * 2 + 1, none⟩ = some rv := (HBW2.out.cell (p := ⟨gr, o + k * 2 + 1, none⟩) hgr).trans hc2
              have HIL := hidD (hrv.next (by rw [HGG.out]; exact HBW2.out))
              have HRV := hidD hrv
              obtain ⟨a2, c2, rfl, _⟩ := hrv
              have f9 : wp.cell? ⟨ga, k, none⟩ = some (.bool (A' k)) := (HCA2.out.cell _).trans (bo_get A' hlt)
              have HSK := hidD (HII.out.skip k F' A' hkR HJ.out)
              have HAS := hidD (fun F'' => HII.out.ask k F' A' F'' hkR HJ.out)
              obtain ⟨hL, hll, hsy⟩ := HRO.out k hkR
              have HSY := hidD hsy
              clear hc1 hc2 hsy
              generalize (R.getD k (0, [])).1 = LF at *
              generalize (R.getD k (0, [])).2 = RR at *
              generalize hmm : RR.length = m at *
              have HMM := hidD hmm
              clear hmm
              cases hak : A' k with
              | true =>
                rw [hak] at f9
                have HS := hidD (HSK.out (.inl hak))
                clear hak
                go_wp2_with fail
                go_roundw
                case rel => exact ⟨k + 1, F', A', by omega, by go_num, HCF2.out.next (bl_al _ _), HCA2.out.next (bl_al _ _), HS.out, HSM.out, HBW2.out.trans ((bl_al _ _).mono (Nat.le_of_lt hgl))⟩
                case measure => simp [intOf]; omega
              | false =>
                rw [hak] at f9
                go_upto_region 12 with fail
                have HB5 := hidD (bl_al wp (.cells #[.int .i64 (LF : Int), .slice a2 m c2] (76 : TypeId)))
                have HC5 : Hid (CsAt (wp.alloc (.cells #[.int .i64 (LF : Int), .slice a2 m c2] (76 : TypeId))) wp.heap.size #[.int .i64 (LF : Int), .slice a2 m c2] 76) := heap_alloc_last _ _
                generalize hw5 : wp.alloc (.cells #[.int .i64 (LF : Int), .slice a2 m c2] (76 : TypeId)) = w5 at *
                have HCF5 := hidD (HCF2.out.next HB5.out)
                have HCA5 := hidD (HCA2.out.next HB5.out)
                have HIL5 := hidD (HIL.out.next HB5.out)
                have HBW5 : Hid (Below g w w5) := HBW2.out.trans (HB5.out.mono (Nat.le_of_lt hgl))
                have g9 : w5.cell? ⟨ga, k, none⟩ = some (.bool false) := (HB5.out.cell (p := ⟨ga, k, none⟩) hal).trans f9
                have hb9 : wp.heap.size < w5.heap.size := HC5.out.lt
                have hb9g : g < wp.heap.size := hgl
                have hb9a : ga < wp.heap.size := hal
                generalize wp.heap.size = b9 at *
                have g7 : w5.cell? ⟨b9, 0, none⟩ = some (.int .i64 (LF : Int)) := HC5.out.cell 0
                have g8 : w5.cell? ⟨b9, 1, none⟩ = some (.slice a2 m c2) := HC5.out.cell 1
                have HSET := hidD (allSettled_any F' hn RR (by rw [HMM.out]; exact hll) (by rw [HMM.out]; exact HSY.out) (.slice a2 m c2) w5 HIL5.out HCF5.out)
                clear hw5 f7 f8 f9
                cases hall : RR.all (fun x => (F' x.toNat).se) with
                | false =>
                  rw [hall] at HSET
                  have HS := hidD (HSK.out (.inr hall))
                  clear hall
                  go_wp2_with (go_at_call 52; refine HSET.out.mono ?_; rintro e w6 ⟨rfl, hw⟩; subst w6)
                  go_roundw
                  case rel => exact ⟨k + 1, F', A', by omega, by go_num, HCF5.out, HCA5.out, HS.out, HSM.out, HBW5.out⟩
                  case measure => simp [intOf]; omega
                | true =>
                  rw [hall] at HSET
                  have HS := hidD (fun F'' => HAS.out F'' hak hall)
                  have z9 := HCA5.out.frz k
                  clear hall hak
                  go_upto_region 14 with (go_at_call 52; refine HSET.out.mono ?_; rintro e w6 ⟨rfl, hw⟩; subst w6)
                  have HA6 : Hid (CsAt (w5.setCell ⟨ga, k, none⟩ (.bool true)) ga (boC rn (updA A' k)) 4) := by
                    have := HCA5.out.put k (.bool true)
                    rwa [bo_put A' hlt] at this
                  have HBT : Hid (But ga w5 (w5.setCell ⟨ga, k, none⟩ (.bool true))) := (But.refl _ _).put _ _
                  generalize hw6 : w5.setCell ⟨ga, k, none⟩ (.bool true) = w6 at *
                  have HF6 : Hid (CsAt w6 g (ofC n F') 92) := (HBT.out.rest g HCF5.out.lt (by omega)).trans HCF5.out
                  have HBW6 : Hid (Below g w w6) := HBW5.out.trans (HBT.out.bel.mono (Nat.le_of_lt hgga))
                  have k7 : ∀ i : KB w6 [b9], i.v.cell? ⟨b9, 0, none⟩ = some (.int .i64 (LF : Int)) := fun i => (i.cell (b := b9) (by simp) _).trans ((HBT.out.cell hb9 (by omega)).trans g7)
                  have k8 : ∀ i : KB w6 [b9], i.v.cell? ⟨b9, 1, none⟩ = some (.slice a2 m c2) := fun i => (i.cell (b := b9) (by simp) _).trans ((HBT.out.cell hb9 (by omega)).trans g8)
                  have HOF := hidD (offerText_any F' hn hL HLE.out RR (by rw [HMM.out]; exact hll) (by rw [HMM.out]; exact HSY.out) (.slice a2 m c2) w6.drew (HRV.out.next (by rw [HGG.out]; exact HBW6.out.drew)) (show CsAt w6.drew g (ofC n F') 92 from HF6.out))
                  rw [HMM.out] at HOF
                  have hLi : (LF : Int) < (n : Int) := by omega
                  have HLTA : Hid (ga < w6.drew.heap.size) := HA6.out.lt
                  clear hw6 g7 g8 g9 z9
                  refine wp_region_seg [0, 0, 0, 0, 0, 0, 0, 99] 0 7 [b9] (by kernel_rfl) (by kernel_rfl) (by kernel_rfl) (by kernel_rfl) (by kernel_rfl) (by kernel_rfl) (by kernel_rfl) (by kernel_rfl) (fun _ _ _ _ _ h => h) ?_
                  simp only [SegW, pk, Nat.reduceMul, Nat.reduceBEq, cond_true, cond_false]
                  repeat (go_big_quiet_step (fail))
                  refine wpQuiet_nil ?_
                  go_wp2_with (go_at_call 53; refine HOF.out.mono ?_; rintro e w7 ⟨F7, rfl, hc7, ho7, hb7⟩; have HC7 := hidD hc7; have HO7 := hidD ho7; have HB7 := hidD hb7; clear hc7 ho7 hb7)
                  go_roundw
                  case rel => exact ⟨k + 1, F7, updA A' k, by omega, by go_num, HC7.out, (HB7.out.rest ga HLTA.out (by omega)).trans HA6.out, HS.out F7 HO7.out, fun s => (HO7.out.se s).trans (HSM.out s), HBW6.out.drew.trans HB7.out.bel⟩
                  case measure => simp [intOf]; omega
            · obtain rfl : k = rn := by omega
              have HLO := hidD (leastOpen_any F' hn HLE.out wp HCF2.out)
              have HSE := hidD (fun s => HII.out.settle F' A' s (by rw [HRN.out]; exact HJ.out))
              have f5 : wp.cell? ⟨g, wt * 3 + 2, none⟩ = some (.bool (F' wt).se) := (HCF2.out.cell _).trans (of_se F' hwt)
              have f6 : wp.cell? ⟨g, wt * 3, none⟩ = some (encT (F' wt).t) := (HCF2.out.cell _).trans (of_t F' hwt)
              have HWS : Hid ((F' wt).se = false) := (HSM.out wt).trans hse
              have HLW := hidD (HLE.out wt hwt)
              go_upto_region 17 with (go_at_call 54; refine HLO.out.mono ?_; rintro e w6 ⟨x, rfl, hx, hb6⟩; have HX := hidD hx; have HB6 := hidD hb6; clear hx hb6)
              have HCF6 := hidD (HCF2.out.next HB6.out)
              have HCA6 := hidD (HCA2.out.next HB6.out)
              have HBW6 : Hid (Below g w w6) := HBW2.out.trans (HB6.out.mono (Nat.le_of_lt hgl))
              rcases HX.out.lt with rfl | ⟨s, rfl, hs⟩
              · have k0 : ∀ i : KB w6 [g], i.v.cell? ⟨g, wt * 3, none⟩ = some (encT (F' wt).t) := fun i => (i.cell (b := g) (by simp) _).trans ((HCF6.out.cell _).trans (of_t F' hwt))
                have k1 : ∀ i : KB w6 [g], i.v.cell? ⟨g, wt * 3 + 2, none⟩ = some (.bool false) := fun i => (i.cell (b := g) (by simp) _).trans ((HCF6.out.cell _).trans (by rw [of_se F' hwt, HWS.out]))
                unfold encT at *
                generalize htx : bA (F' wt).t = tx at *
                go_wp2_with fail
                refine wp_region_seg [0, 0, 0, 0, 0, 0, 0, 0, 0, 0, 0, 0] 0 12 [g] (by kernel_rfl) (by kernel_rfl) (by kernel_rfl) (by kernel_rfl) (by kernel_rfl) (by kernel_rfl) (by kernel_rfl) (by kernel_rfl) (fun _ _ _ _ _ h => h) ?_
                simp only [SegW, pk, Nat.reduceMul, Nat.reduceBEq, cond_true, cond_false]
                repeat (go_big_quiet_step (fail))
                refine wpQuiet_nil ?_
                go_wp2_with fail
                rw [Exit.noGoto_ret]
                refine bodyPost_ret (v := .tuple #[.string tx, .bool false]) (by simp [results, Tryd.results36, go_sem]) rfl ?_
                exact ⟨F', A', by unfold encT; rw [htx, HWS.out], (fun h => absurd h (by rw [HWS.out]; decide)), HLW.out, by rw [HGG.out]; exact HBW6.out.drew⟩
              · have hsi : (s : Int) < (n : Int) := by omega
                have hsd : decide ((s : Int) < 0) = false := decide_eq_false (by omega)
                have g5 : w6.cell? ⟨g, s * 3 + 2, none⟩ = some (.bool (F' s).se) := (HCF6.out.cell _).trans (of_se F' hs)
                have z5 := HCF6.out.frz (s * 3 + 2)
                have HC9 : Hid (CsAt (w6.setCell ⟨g, s * 3 + 2, none⟩ (.bool true)) g (ofC n (updO F' s { F' s with se := true })) 92) := by
                  have := HCF6.out.put (s * 3 + 2) (.bool true)
                  rwa [of_settle F' hs] at this
                have HBT : Hid (But g w6 (w6.setCell ⟨g, s * 3 + 2, none⟩ (.bool true))) := (But.refl _ _).put _ _
                have HI9 := hidD (HSE.out s HX.out)
                have HOS : Hid ((F' s).se = false) := by
                  show (F' s).se = false
                  rcases HX.out with ⟨h1, _⟩ | ⟨y, h1, _, h3, _⟩
                  · omega
                  · obtain rfl : y = s := by omega
                    unfold opn at h3
                    rw [Bool.and_eq_true] at h3
                    simpa using h3.2
                have HMS : Hid (rdU (w6.setCell ⟨g, s * 3 + 2, none⟩ (.bool true)) g n < rdU wo g n) := by
                  show _ < _
                  rw [rdU_of HC9.out n (Nat.le_refl _), HUN.out, ← un_congr (F := F') (G := F) n (fun y _ => HSM.out y)]
                  exact un_settle HOS.out n hs
                have HA9 : Hid (CsAt (w6.setCell ⟨g, s * 3 + 2, none⟩ (.bool true)) ga (boC k A') 4) := (HBT.out.rest ga HCA6.out.lt (by omega)).trans HCA6.out
                have HB9 : Hid (Below g w (w6.setCell ⟨g, s * 3 + 2, none⟩ (.bool true))) := HBW6.out.trans HBT.out.bel
                clear f5 f6
                go_wp2_with fail
                go_roundw
                case rel => exact ⟨_, A', HC9.out, HA9.out, HI9.out, HB9.out⟩
                case measure => exact HMS.out
end Go.Proofs.YtgmbkelmgolkpabDoor
/- What Least answers. -/
namespace Go.Proofs.YtgmbkelmgolkpabDoor
open Go.RowKit
set_option linter.unusedVariables false

/-- The bytes of a text as numbers. -/
def nbS (t : Tx) : List Int := t.map fun b => (b.toNat : Int)
def byC (t : Tx) (k : Nat) : Array Value := ((List.range t.length).map fun i => Value.int .i64 (if i < k then ((t.getD i 0).toNat : Int) else 0)).toArray
theorem by_size (t : Tx) (k : Nat) : (byC t k).size = t.length := by simp [byC]
theorem by_get {t : Tx} {k i : Nat} (h : i < t.length) : (byC t k)[i]? = some (.int .i64 (if i < k then ((t.getD i 0).toNat : Int) else 0)) := by
  rw [byC, List.getElem?_toArray, List.getElem?_map, List.getElem?_range h]; rfl
theorem by_none {t : Tx} {k i : Nat} (h : t.length ≤ i) : (byC t k)[i]? = none := Array.getElem?_eq_none (by rw [by_size]; exact h)
theorem by_put {t : Tx} {k : Nat} (hk : k < t.length) : (byC t k).setIfInBounds k (.int .i64 ((t.getD k 0).toNat : Int)) = byC t (k + 1) := by
  refine Array.ext_getElem? fun i => ?_
  rw [Array.getElem?_setIfInBounds]
  by_cases hi : k = i
  · subst hi
    rw [if_pos rfl, if_pos (by rw [by_size]; exact hk), by_get hk, if_pos (by omega)]
  · rw [if_neg hi]
    rcases Nat.lt_or_ge i t.length with h3 | h3
    · rw [by_get h3, by_get h3]
      by_cases h : i < k
      · rw [if_pos h, if_pos (by omega)]
      · rw [if_neg h, if_neg (by omega)]
    · rw [by_none h3, by_none h3]
theorem by_rep (t : Tx) : (List.replicate t.length (Value.int .i64 0)).toArray = byC t 0 := by
  refine Array.ext_getElem? fun i => ?_
  rcases Nat.lt_or_ge i t.length with h3 | h3
  · rw [by_get h3, List.getElem?_toArray, List.getElem?_replicate, if_pos h3, if_neg (by omega)]
  · rw [by_none h3, Array.getElem?_eq_none (by simpa using h3)]
theorem il_of_by {w : World} {g : Nat} {t : Tx} (h : CsAt w g (byC t t.length) 3) (hl : t.length ≤ 1048576) : IlAt w (.slice (some ⟨g, 0, none⟩) t.length t.length) (nbS t) := by
  refine ⟨some ⟨g, 0, none⟩, t.length, by rw [nbS, List.length_map], by rw [nbS, List.length_map]; exact Nat.le_refl _, by omega, fun k hk => ⟨g, 0, rfl, h.lt, ?_⟩⟩
  rw [nbS, List.length_map] at hk
  rw [Nat.zero_add, h.cell, by_get hk, if_pos hk]
  simp [nbS, List.getD, List.getElem?_map, List.getElem?_eq_getElem hk]
set_option maxRecDepth 100000 in
set_option maxHeartbeats 1600000 in
theorem least_any {p : Nat} {w : World} {T O : List Tx} {st nul : Nat} {R : List (Nat × List Int)} {bg fo : Nat → Nat} (h : GfAt w p T O st R nul bg fo) (I : (Nat → Of) → (Nat → Bool) → Prop) (J : Nat → (Nat → Of) → (Nat → Bool) → Prop) (hI : Rounds (T.length + 1) (allN T O).length R I J) (s : Nat) (hs : s < (allN T O).length) :
    Calls Tryd.prog 11 #[.pointer (some ⟨p, 0, none⟩), .int .i64 (s : Int)] w fun e w' => ∃ F A, ((F s).se = false → e = .returned (.tuple #[.slice none 0 0, .bool false])) ∧ ((F s).se = true → I F A ∧ ∃ u, e = .returned (.tuple #[u, .bool true]) ∧ IlAt w' u (nbS (F s).t) ∧ (F s).t.length ≤ 1048576) ∧ Below w.heap.size w w' := by
  have HHA := hidD (has_any (s : Int) w h.gm)
  rw [show hasS (gsOf T O st nul bg fo) (s : Int) = true from by
    unfold hasS gsOf
    rw [decide_eq_true (show (0 : Int) ≤ (s : Int) by omega), decide_eq_true (show (s : Int) < (((allN T O).length : Nat) : Int) by omega)]; rfl] at HHA
  have hlen := allN_len T O
  have HLT : Hid (Calls Tryd.prog 36 #[.pointer (some ⟨p, 0, none⟩), .int .i64 (s : Int)] w fun e w' => ∃ F A, e = .returned (.tuple #[encT (F s).t, .bool (F s).se]) ∧ ((F s).se = true → I F A) ∧ (F s).t.length ≤ 1048576 ∧ Below w.heap.size w w') := by
    obtain ⟨cs, h1, ⟨nv, B, e1, e2⟩, _, h2, _, ⟨vr, h4, h5⟩, _⟩ := h.cs
    obtain ⟨na, nc, rfl, _⟩ := e2
    exact leastText_any (T.length + 1) _ R h.ok h.few h.len (by omega) I J hI s hs vr na nc w h1.lt (by rw [h1.cell]; exact e1) (by rw [h1.cell]; exact h2) (by rw [h1.cell]; exact h4) h5
  obtain ⟨i3, hi3, hz30, hz31, hz32⟩ := info_parts Tryd.info3
  clear h hI
  go_enter Tryd.func11, Tryd.ntmps11
  go_upto_region 4 with first
    | (go_at_call 35; refine HHA.out.mono ?_; rintro e w1 ⟨rfl, hw⟩; subst w1)
    | (go_at_call 36; refine HLT.out.mono ?_; rintro e w1 ⟨F, A, rfl, hi, hl, hb⟩; have HI1 := hidD hi; have HB1 := hidD hb; have HL1 := hidD hl; clear hi hb hl)
  unfold encT
  cases hse : (F s).se with
  | false =>
    go_wp2_with fail
    refine bodyPost_ret (v := .tuple #[.slice none 0 0, .bool false]) (by simp [results, Tryd.results11, go_sem]) rfl ?_
    exact ⟨F, A, fun _ => rfl, fun h => absurd h (by rw [hse]; decide), HB1.out⟩
  | true =>
    have hfl := HL1.out
    have hsz : ((bA (F s).t).size : Int) = ((F s).t.length : Int) := by rw [ba_size]
    have HGT := hidD (fun k h => ba_get (F s).t k h)
    have HSZ := hidD (ba_size (F s).t)
    generalize hb : bA (F s).t = b at *
    go_wp2_with (refine wpList_make_full w1 rfl _ _ 27 rfl w1.heap.size 3 i3 _ 1 Tryd.underlying27' hi3 hz30 hz31 .i64 .i64 ((F s).t.length : Int) ((F s).t.length : Int) (F s).t.length rfl rfl rfl rfl (by rw [hz32]; omega) (by unfold maxLen; omega) (Nat.le_refl _) ?_; intro w2 ho2 hg2; have HC2 := hidD (cs_of_full ho2); have HB2 := hidD (below_none hg2); clear ho2 hg2)
    rw [show (madeCells (Value.int .i64 0).cells ((F s).t.length * 1)).toList = List.replicate (F s).t.length (.int .i64 0) by rw [Nat.mul_one]; exact toList_madeCells_one _ _, by_rep] at HC2
    generalize hgl : w1.heap.size = gl at *
    have HGLL := hidD hgl
    have HPU := hidD (fun k hk => by_put (t := (F s).t) (k := k) hk)
    generalize hm : (F s).t.length = m at *
    go_loopw [27] (fun i wr => ∃ k : Nat, k ≤ m ∧ i = .int .i64 (k : Int) ∧ CsAt wr gl (byC (F s).t k) 3 ∧ Below gl w1 wr) (fun i _ => m - (intOf i).toNat)
    case atStart => exact ⟨0, Nat.zero_le _, rfl, HC2.out, HB2.out⟩
    case round =>
      obtain ⟨k, hk, rfl, hcs, hbel⟩ := hrel
      have HCS := hidD hcs
      have HBW := hidD hbel
      by_cases hlt : k < m
      · have hlti : (k : Int) < (m : Int) := by omega
        have hltb : k < b.size := by have := HSZ.out; omega
        have hltc : (k : Int) < (b.size : Int) := by omega
        have HG := hidD (HGT.out k hltb)
        obtain ⟨v0, hv0⟩ := hcs.some (i := k) (by rw [by_size, hm]; exact hlt)
        have z0 := hcs.frz k
        have HP := hidD (HPU.out k hlt)
        have HC3 : Hid (CsAt (wr.setCell ⟨gl, k, none⟩ (.int .i64 (((F s).t.getD k 0).toNat : Int))) gl (byC (F s).t (k + 1)) 3) := by
          have := hcs.put k (.int .i64 (((F s).t.getD k 0).toNat : Int))
          rwa [HP.out] at this
        have HB3 : Hid (Below gl w1 (wr.setCell ⟨gl, k, none⟩ (.int .i64 (((F s).t.getD k 0).toNat : Int)))) := hbel.setCell (p := ⟨gl, k, none⟩) (Nat.le_refl _) _
        rw [← HG.out] at HC3 HB3
        have HWR : Hid (wrap64 ((b[k].toNat : Nat) : Int) = ((b[k].toNat : Nat) : Int)) := by have := b[k].toNat_lt; show _ = _; unfold wrap64; omega
        clear hcs hbel
        go_wp2_with fail
        go_roundw
        case rel => exact ⟨k + 1, by omega, by go_num, by rw [HWR.out]; exact HC3.out, by rw [HWR.out]; exact HB3.out⟩
        case measure => simp [intOf]; omega
      · obtain rfl : k = m := by omega
        have HIL : Hid (IlAt wr (.slice (some ⟨gl, 0, none⟩) k k) (nbS (F s).t)) := by
          have := il_of_by (w := wr) (g := gl) (t := (F s).t) (by rw [hm]; exact HCS.out) (by rw [hm]; exact hfl)
          rwa [hm] at this
        go_wp2_with fail
        refine bodyPost_ret (v := .tuple #[.slice (some ⟨gl, 0, none⟩) k k, .bool true]) (by simp [results, Tryd.results11, go_sem]) rfl ?_
        exact ⟨F, A, fun h => absurd h (by rw [hse]; decide), fun _ => ⟨HI1.out hse, _, rfl, HIL.out, by rw [hm]; exact hfl⟩, HB1.out.trans (HBW.out.mono (by rw [← HGLL.out]; exact HB1.out.size))⟩
end Go.Proofs.YtgmbkelmgolkpabDoor
