/- Texts of one proof, one behind the other. -/
import Derived.Test.YtgmbkelmgolkpaaDoorGw
import Derived.Test.YtgmbkelmgolkpaaDoorGz
import Derived.Test.YtgmbkelmgolkpaaDoorFld
import Derived.Test.YtgmbkelmgolkpaaDoorShelf
/- What Parse answers. -/
namespace Go.Proofs.YtgmbkelmgolkpaaDoor
open Go.RowKit Go.Maps Go.Lib
set_option linter.unusedVariables false

set_option maxRecDepth 100000 in
theorem isBlank_any (r : Nat) (w : World) : Calls Tryd.prog 39 #[.int .i32 (r : Int)] w fun e w' => e = .returned (.bool (isBl r)) ∧ w' = w := by
  have HB : Hid (isBl r = (r == 32 || r == 9)) := rfl
  by_cases h1 : (r : Int) = 32
  · have HF : Hid (isBl r = true) := by show _ = _; rw [HB.out, show r = 32 by omega]; rfl
    rw [h1]
    go_enter Tryd.func39, Tryd.ntmps39
    go_wp2
    go_ret
    exact ⟨ret_bool HF.out.symm, rfl⟩
  · by_cases h2 : (r : Int) = 9
    · have HF : Hid (isBl r = true) := by show _ = _; rw [HB.out, show r = 9 by omega]; rfl
      rw [h2]
      go_enter Tryd.func39, Tryd.ntmps39
      go_wp2
      go_ret
      exact ⟨ret_bool HF.out.symm, rfl⟩
    · have HF : Hid (isBl r = false) := by show _ = _; rw [HB.out, beq_eq_false_iff_ne.2 (show r ≠ 32 by omega), beq_eq_false_iff_ne.2 (show r ≠ 9 by omega)]; rfl
      have h1b : ((r : Int) == 32) = false := beq_eq_false_iff_ne.2 h1
      have h2b : ((r : Int) == 9) = false := beq_eq_false_iff_ne.2 h2
      go_enter Tryd.func39, Tryd.ntmps39
      go_wp2
      go_ret
      exact ⟨ret_bool HF.out.symm, rfl⟩
theorem fieldsOf_any (l : Tx) (hl : l.length ≤ 4294967296) (w : World) : Calls Tryd.prog 38 #[.string (bA l), .func (.func 39) #[] #[]] w fun e w' => ∃ u, e = .returned u ∧ w'.ownsRow w.heap.size 9 1 u (fldS l).length ((fldS l).map encT) ∧ Below w.heap.size w w' := by
  have hp : PredAt Tryd.prog 39 #[] encR isBl w := fun W x _ => (isBlank_any x W).mono fun e w' ⟨h1, h2⟩ => ⟨h1, 0, h2⟩
  refine (Tryd.strings_FieldsFunc 39 #[] (enters_of Tryd.func39 (by kernel_rfl) rfl) isBl (bA l) w (by rw [ba_size]; exact hl) hp).mono fun e w' ⟨A, h1, _, h2, h3⟩ => ⟨_, h1, ?_, h3⟩
  have he : (fldS l).map encT = (Lib.goFieldsP isBl (bA l)).map Value.string := by
    unfold fldS
    rw [List.map_map]
    rfl
  have hn : (fldS l).length = (Lib.goFieldsP isBl (bA l)).length := by unfold fldS; rw [List.length_map]; rfl
  rw [he, hn]
  exact h2
theorem split_any (x : Tx) (hx : x.length ≤ 1048576) (m : Int) (w : World) (hm : w.cell? ⟨0, 0, none⟩ = some (.int .i64 m)) : Calls Tryd.prog 37 #[.string (bA x), .string ⟨#[10]⟩] w fun e w' => ∃ u, e = .returned u ∧ w'.ownsRow w.heap.size 9 1 u (lnsS x).length ((lnsS x).map encT) ∧ Below w.heap.size w w' := by
  refine (Tryd.strings_Split (bA x) nlB m w (by rw [ba_size]; omega) hm (by decide)).mono fun e w' ⟨h1, h2⟩ => ⟨_, h1, ?_, ?_⟩
  · have he : (lnsS x).map encT = (Lib.splitB nlB 0 (Lib.countB (bA x) nlB) (bA x)).map Value.string := by
      unfold lnsS
      rw [List.map_map]
      rfl
    have hl := lns_len x
    rw [h2, he]
    have hll : ((Lib.splitB nlB 0 (Lib.countB (bA x) nlB) (bA x)).map Value.string).length = (lnsS x).length := by rw [← he, List.length_map]
    have hc : Lib.countB (bA x) nlB + 1 = (lnsS x).length := hl.1.symm
    rw [hc]
    refine ⟨by rw [hll]; omega, .inr ⟨w.heap.size, _, _, rfl, Nat.le_refl _, heap_alloc_new _ _, Nat.le_refl _, by unfold maxLen; omega, ?_, ?_⟩⟩
    · rw [List.size_toArray, hll]; omega
    · rw [List.take_of_length_le]
      rw [hll]; omega
  · rw [h2]; exact (Below.refl _ _).alloc (Nat.le_refl _) _
/-- Rows that are put behind rows. -/
theorem wpList_append_rows {ops : Array Oper} {rest : List Oper} {o : Oper} {a : Act} {Q : Exit → Act → World → Prop} {w : World} (hgd : o.guard = none) (s x : Operand)
    (ho : o.op = .call { callee := .builtin .append, args := #[s, x], argTypes := #[36, 36] }) (base : Nat) (v : Value) (n : Nat) (xs : List Value)
    (hs : a.eval s = v) (hown : w.ownsRow base 35 1 v n xs) (b2 : Nat) (u : Value) (m : Nat) (ys : List Value) (hx : a.eval x = u) (hu : w.ownsRow b2 35 1 u m ys) (h1c : ∀ y ∈ ys, y.oneCell' = true) (hl : n + m ≤ 4398046511104) (hbase : base ≤ w.heap.size)
    (h : ∀ v' w', w'.ownsRow base 35 1 v' (n + m) (xs ++ ys) → Below base w w' → Kept 35 w w' → wpList Tryd.prog ops Q rest (a.put o.dst v') w') : wpList Tryd.prog ops Q (o :: rest) a w := by
  obtain ⟨i0, hi, hz0, hz1, hz2⟩ := info_parts Tryd.info35
  have hu' := hu
  rcases hu'.2 with ⟨rfl, rfl⟩ | ⟨g, cap, cur, rfl, hb, hg, _⟩
  · have hy : ys = [] := List.eq_nil_of_length_eq_zero (by simpa using hu.1)
    subst hy
    refine wpList_append_own_none hgd s x 36 ho base 35 i0 1 Tryd.under50 hi v n xs hs hown hx ?_
    exact h v w (by simpa using hown) (Below.refl _ _) fun _ _ _ => rfl
  · refine wpList_append_own w hgd s x 36 ho base 35 i0 _ 1 24 Tryd.under50 hi hz0 hz1 hz2 rfl (by decide) v n xs hs hown ⟨g, 0, none⟩ m cap ys hx (by rw [hu.1]) (hu.cells (g := g) rfl) h1c (by unfold maxLen; omega) (by omega) hbase ?_
    intro v' w' h1 h2 _
    exact h v' w' h1 (row_grown hown (Below.refl _ _) h2 hbase) (kept_of_grown hown h2)
theorem RvAt.one_cell {w : World} {B : Nat} {vs : List Value} {L : List (List Tx)} (h : RvAt w B vs L) : ∀ y ∈ vs, y.oneCell' = true := by
  intro y hy
  obtain ⟨k, hk, rfl⟩ := List.mem_iff_getElem.1 hy
  obtain ⟨u, h1, h2⟩ := h.2 k (by rw [← h.1]; exact hk)
  obtain ⟨a, c, rfl⟩ := h2.shape
  rw [List.getElem?_eq_getElem hk, Option.some.injEq] at h1
  rw [h1]; rfl
end Go.Proofs.YtgmbkelmgolkpaaDoor
/- What Parse answers. -/
namespace Go.Proofs.YtgmbkelmgolkpaaDoor
open Go.RowKit Go.Maps Go.Lib
set_option linter.unusedVariables false

theorem filter_two (p : Tx → Bool) : ∀ l : List Tx, (l.filter fun x => !p x).length + (l.filter p).length = l.length
  | [] => rfl
  | a :: l => by
    have := filter_two p l
    cases h : p a <;> simp [h] <;> omega
theorem te_ot_len (L : List (List Tx)) : (teS L).length + (otS L).length ≤ L.flatten.length := by
  unfold teS otS
  rw [filter_two (fun x => (leftsS L).contains x)]
  exact fr_len _ _
theorem te_small {L : List (List Tx)} {M : Nat} (h : ∀ r ∈ L, ∀ x ∈ r, x.length ≤ M) : (∀ x ∈ teS L, x.length ≤ M) ∧ ∀ x ∈ otS L, x.length ≤ M := by
  have hf : ∀ x ∈ frTo L.flatten L.flatten.length, x.length ≤ M := fun x hx => by
    rcases fr_mem _ _ x hx with h1 | h1
    · obtain ⟨r, hr, hx2⟩ := List.mem_flatten.1 h1
      exact h r hr x hx2
    · rw [h1]; exact Nat.zero_le _
  exact ⟨fun x hx => hf x ((List.mem_filter.1 hx).1), fun x hx => hf x ((List.mem_filter.1 hx).1)⟩
def stS (L : List (List Tx)) : Tx := (L.getD 0 []).getD 0 []
def parsL (x : Tx) : List (List Tx) := rdTo (lnsS x) (lnsS x).length
def prG (x : Tx) : Bool := (List.range (lnsS x).length).all (goodL (lnsS x))
def prK (x : Tx) : Nat := ((List.range (lnsS x).length).find? (fun k => !goodL (lnsS x) k)).getD 0
def prE (x : Tx) : Int := newE (teS (parsL x)) (otS (parsL x)) (stS (parsL x)) (parsL x)
/-- The error, and its number. -/
def prR (x : Tx) : Int × Int := if 1048576 < x.length then (0, 3) else if prG x then (if prE x = 0 then (0, 0) else (((lnsS x).length : Int), prE x)) else ((prK x : Int), 130)
theorem prK_at {x : Tx} {k : Nat} (hk : k < (lnsS x).length) (h : ∀ j, j < k → goodL (lnsS x) j = true) (hb : goodL (lnsS x) k = false) : prG x = false ∧ prK x = k := by
  constructor
  · unfold prG
    cases ha : (List.range (lnsS x).length).all (goodL (lnsS x)) with
    | false => rfl
    | true =>
      rw [List.all_eq_true] at ha
      rw [ha k (List.mem_range.2 hk)] at hb; cases hb
  · unfold prK
    have : (List.range (lnsS x).length).find? (fun k => !goodL (lnsS x) k) = some k := by
      rw [List.find?_range_eq_some]
      exact ⟨by rw [hb]; rfl, List.mem_range.2 hk, fun j hj => by rw [h j hj]; rfl⟩
    rw [this]; rfl
theorem prG_true {x : Tx} (h : ∀ j, j < (lnsS x).length → goodL (lnsS x) j = true) : prG x = true := by
  unfold prG
  rw [List.all_eq_true]
  exact fun j hj => h j (List.mem_range.1 hj)
theorem skip_empty {ws : List Tx} (h : ws.length = 0) : skipS ws = true := by
  rw [List.eq_nil_of_length_eq_zero h]; rfl
theorem skip_some {ws : List Tx} (h : 1 ≤ ws.length) : skipS ws = ((ws.getD 0 []).getD 0 0 == 35) := by
  unfold skipS
  cases ws with
  | nil => simp at h
  | cons a l => rfl
/-- What Parse answers. -/
def PrIs (x : Tx) (w w' : World) (e : Ending) : Prop := ((prR x).2 ≠ 0 → e = .returned (.tuple #[.pointer none, .int .i64 (prR x).1, .int .i64 (prR x).2])) ∧ ((prR x).2 = 0 → ∃ p nul bg fo, e = .returned (.tuple #[.pointer (some ⟨p, 0, none⟩), .int .i64 0, .int .i64 0]) ∧ w.heap.size ≤ p ∧ GfAt w' p (teS (parsL x)) (otS (parsL x)) (vaF (nuF (teS (parsL x)) (otS (parsL x))) (stS (parsL x))).toNat ((parsL x).map (rnF (nuF (teS (parsL x)) (otS (parsL x))))) nul bg fo) ∧ Below w.heap.size w w'
set_option maxRecDepth 100000 in
set_option maxHeartbeats 3200000 in
theorem parse_any (x : Tx) (hx : x.length ≤ maxLen) (mx : Int) (w : World) (h00 : 0 < w.heap.size) (hm : w.cell? ⟨0, 0, none⟩ = some (.int .i64 mx)) : Calls Tryd.prog 9 #[encT x] w fun e w' => PrIs x w w' e := by
  have hsz := ba_size x
  have HR : Hid (prR x = if 1048576 < x.length then (0, 3) else if prG x then (if prE x = 0 then (0, 0) else (((lnsS x).length : Int), prE x)) else ((prK x : Int), 130)) := rfl
  unfold maxLen at hx
  unfold encT
  by_cases hbig : 1048576 < x.length
  · rw [if_pos hbig] at HR
    have hbi : (1048576 : Int) < ((bA x).size : Int) := by rw [hsz]; omega
    have hb2 : (bA x).size ≤ 9223372036854775807 := by rw [hsz]; omega
    clear hsz hbig
    generalize bA x = b at *
    go_enter Tryd.func9, Tryd.ntmps9
    go_wp2
    refine bodyPost_ret (v := .tuple #[.pointer none, .int .i64 0, .int .i64 3]) (by simp [results, Tryd.results9, go_sem]) rfl ?_
    exact ⟨fun _ => by rw [HR.out], fun h => (by rw [HR.out] at h; cases h), Below.refl _ _⟩
  · rw [if_neg hbig] at HR
    have hbi : ¬ (1048576 : Int) < ((bA x).size : Int) := by rw [hsz]; omega
    have HSP := hidD (split_any x (by omega) mx w hm)
    have hxm : x.length ≤ 1048576 := by omega
    have HXM := hidD hxm
    have HLL := hidD (lns_len x)
    have HLE := hidD (lns_le x)
    have HPK := hidD (fun k => prK_at (x := x) (k := k))
    have HPG := hidD (prG_true (x := x))
    have HPE : Hid (prE x = newE (teS (parsL x)) (otS (parsL x)) (stS (parsL x)) (parsL x)) := rfl
    have HPL : Hid (parsL x = rdTo (lnsS x) (lnsS x).length) := rfl
    have HRD := hidD (rd_ok (lnsS x) x.length (lns_le x))
    have HRN : Hid (∀ k, rdTo (lnsS x) (k + 1) = if skipS (fldS ((lnsS x).getD k [])) then rdTo (lnsS x) k else rdTo (lnsS x) k ++ alS (fldS ((lnsS x).getD k []))) := fun _ => rfl
    have HR0 : Hid (rdTo (lnsS x) 0 = []) := rfl
    have HGL : Hid (∀ k, goodL (lnsS x) k = (skipS (fldS ((lnsS x).getD k [])) || lnS (fldS ((lnsS x).getD k [])))) := fun _ => rfl
    have HFE : Hid (∀ k, k < (lnsS x).length → ((lnsS x).getD k []).length ≤ 1048576) := fun k hk => Nat.le_trans (lns_le x _ (by rw [List.getD_eq_getElem?_getD, List.getElem?_eq_getElem hk]; exact List.getElem_mem hk)) hxm
    have hb2 : (bA x).size ≤ 9223372036854775807 := by rw [hsz]; omega
    have HBM : Hid (∀ k, k ≤ (lnsS x).length → k * x.length ≤ 1099512676352 ∧ k * (2 * x.length) ≤ 2199025352704) := fun k hk => by
      have h1 : k ≤ 1048577 := by have := (lns_len x).2; omega
      have h2 : k * x.length ≤ 1048577 * 1048576 := Nat.mul_le_mul h1 hxm
      have h3 : k * (2 * x.length) ≤ 1048577 * (2 * 1048576) := Nat.mul_le_mul h1 (by omega)
      exact ⟨h2, h3⟩
    clear hsz hbig hm
    generalize hls : lnsS x = ls at *
    generalize hlsn : ls.length = n at *
    have HLS := hidD hls
    have HLN := hidD hlsn
    have hnb : n ≤ 1048577 := by have := HLL.out.2; omega
    clear hls hlsn hxm
    go_enter Tryd.func9, Tryd.ntmps9
    go_wp2_with (go_at_call 37; refine HSP.out.mono ?_; rintro e w2 ⟨u2, rfl, ho2, hb2⟩; obtain ⟨a2, c2, h2⟩ := row_shape ho2; subst h2; have HS2 := hidD (sr_of_own ho2 HLN.out.symm); have HB2 := hidD hb2; clear ho2 hb2)
    go_loopw [6, 22] (fun r i wr => ∃ (k : Nat) (vs : List Value), k ≤ n ∧ i = .int .i64 k ∧ wr.ownsRow w.heap.size 35 1 r (rdTo ls k).length vs ∧ RvAt wr wr.heap.size vs (rdTo ls k) ∧ SrAt wr wr.heap.size (.slice a2 n c2) ls ∧ (∀ j, j < k → goodL ls j = true) ∧ Below w.heap.size w wr) (fun _ i _ => n - (intOf i).toNat)
    case atStart => exact ⟨0, [], Nat.zero_le _, rfl, by rw [HR0.out]; exact World.ownsRow_nil _ _ _ _, by rw [HR0.out]; exact RvAt.nil _ _, HS2.out, fun j hj => absurd hj (by omega), HB2.out⟩
    case round =>
      obtain ⟨k, vs, hk, rfl, hown, hrv, hsr, hall, hbel⟩ := hrel
      have HOW := hidD hown
      have HRV := hidD hrv
      have HSR := hidD hsr
      have HAL := hidD hall
      have HBW := hidD hbel
      obtain ⟨a6, c6, h6⟩ := row_shape hown
      subst h6
      have HRK := hidD (HRD.out k hk HAL.out)
      have HBK := hidD (HBM.out k hk)
      by_cases hlt : k < n
      · have hlti : (k : Int) < n := by omega
        obtain ⟨g2, o2, rfl, hg2, _, f0⟩ := hsr.cell (k := k) (by rw [HLN.out]; exact hlt)
        have hll := HFE.out k hlt
        have HFL := hidD (fun w' => fieldsOf_any (ls.getD k []) (by omega) w')
        have HF1 := hidD (fld_one (ls.getD k []))
        have HFN := hidD (fld_len (ls.getD k []))
        have HNK := hidD (HRN.out k)
        have HGK := hidD (HGL.out k)
        have HBAD := hidD (HPK.out k hlt HAL.out)
        have HST : Hid (goodL ls k = true → ∀ j, j < k + 1 → goodL ls j = true) := fun h j hj => by
          by_cases hjk : j = k
          · rw [hjk]; exact h
          · exact HAL.out j (by omega)
        unfold encT at f0
        clear hown hrv hsr hall hbel
        generalize ls.getD k [] = l at *
        generalize hws : fldS l = ws at *
        clear hws
        generalize hwn : ws.length = wn at *
        have HWN := hidD hwn
        have hwb : wn ≤ 1048576 := by have := HFN.out; omega
        clear hwn
        generalize hrl : (rdTo ls k).length = rl at *
        have HRL := hidD hrl
        have hrb : rl ≤ 1099512676352 := by have := HRK.out.1; have := HBK.out.1; omega
        clear hrl
        by_cases hw0 : wn = 0
        · have HSK : Hid (skipS ws = true) := skip_empty (by rw [HWN.out]; exact hw0)
          rw [HSK.out, Bool.true_or] at HGK
          rw [HSK.out, if_pos rfl] at HNK
          subst hw0
          go_wp2_with (go_at_call 38; refine (HFL.out _).mono ?_; rintro e w3 ⟨u3, rfl, ho3, hb3⟩; obtain ⟨a3, c3, h3⟩ := row_shape ho3; subst h3; have HB3 := hidD hb3; clear ho3 hb3)
          go_roundw
          case rel => exact ⟨k + 1, vs, by omega, by go_num, by rw [HNK.out, HRL.out]; exact row_below HOW.out HB3.out, by rw [HNK.out]; exact (HRV.out.next HB3.out).mono HB3.out.size, (HSR.out.next HB3.out).mono HB3.out.size, HST.out HGK.out, Below.next HBW.out HB3.out⟩
          case measure => simp [intOf]; omega
        · have hx1 := (HF1.out (ws.getD 0 []) (by rw [List.getD_eq_getElem?_getD, List.getElem?_eq_getElem (by rw [HWN.out]; omega)]; exact List.getElem_mem _)).1
          have HSK := hidD (skip_some (ws := ws) (by rw [HWN.out]; omega))
          have hb0 : 0 < (bA (ws.getD 0 [])).size := by rw [ba_size]; omega
          have hb0m : (bA (ws.getD 0 [])).size ≤ 9223372036854775807 := by
            rw [ba_size]
            have := (HF1.out (ws.getD 0 []) (by rw [List.getD_eq_getElem?_getD, List.getElem?_eq_getElem (by rw [HWN.out]; omega)]; exact List.getElem_mem _)).2
            omega
          obtain ⟨b0, hb0e⟩ : ∃ b0, bA (ws.getD 0 []) = b0 := ⟨_, rfl⟩
          have HX0E := hidD hb0e
          have HIL := hidD (fun B v w' h => isLine_any ws (fun y hy => by have := (HF1.out y hy).2; unfold maxLen; omega) (by rw [HWN.out]; omega) B v w' h)
          have HALT := hidD (fun h2 v w' h => alternatives_any ws h2 (by rw [HWN.out]; omega) v w' h)
          have h0i : ((wn : Int) == 0) = false := beq_eq_false_iff_ne.2 (by omega)
          have h0d : decide ((wn : Int) = 0) = false := decide_eq_false (by omega)
          have h0n : ¬ (wn : Int) = 0 := by omega
          have h1i : (1 : Int) ≤ (wn : Int) := by omega
          rw [hb0e] at hb0 hb0m
          have hBG : b0[0] = (ws.getD 0 []).getD 0 0 := by
            subst hb0e
            exact ba_get _ 0 hb0
          have hCC : ((b0[0]).toNat : Int) = 35 ↔ (ws.getD 0 []).getD 0 0 = 35 := by
            rw [hBG]
            constructor
            · intro h
              have : ((ws.getD 0 []).getD 0 0).toNat = (35 : UInt8).toNat := by show _ = 35; omega
              exact UInt8.toNat_inj.1 this
            · intro h; rw [h]; rfl
          have HCC := hidD hCC
          clear hCC hBG hb0e hx1
          generalize hx00 : (ws.getD 0 []).getD 0 0 = x00 at *
          clear hx00
          by_cases c35 : ((b0[0]).toNat : Int) = 35
          · rw [HCC.out.1 c35] at HSK
            rw [HSK.out, show ((35 : UInt8) == 35) = true from rfl, Bool.true_or] at HGK
            rw [HSK.out, show ((35 : UInt8) == 35) = true from rfl, if_pos rfl] at HNK
            have c35b : (((b0[0]).toNat : Int) == 35) = true := beq_iff_eq.2 c35
            go_wp2_with (go_at_call 38; refine (HFL.out _).mono ?_; rintro e w3 ⟨u3, rfl, ho3, hb3⟩; obtain ⟨a3, c3, h3⟩ := row_shape ho3; subst h3; have hs3 := sr_of_own ho3 HWN.out.symm; obtain ⟨g3, o3, h3a, _, _, f3⟩ := hs3.cell (k := 0) (by rw [HWN.out]; omega); subst h3a; unfold encT at f3; rw [HX0E.out, Nat.add_zero] at f3; have HS3 := hidD hs3; have HB3 := hidD hb3; clear ho3 hb3 hs3)
            go_roundw
            case rel => exact ⟨k + 1, vs, by omega, by go_num, by rw [HNK.out, HRL.out]; exact row_below HOW.out HB3.out, by rw [HNK.out]; exact (HRV.out.next HB3.out).mono HB3.out.size, (HSR.out.next HB3.out).mono HB3.out.size, HST.out HGK.out, Below.next HBW.out HB3.out⟩
            case measure => simp [intOf]; omega
          · rw [beq_eq_false_iff_ne.2 (fun h => c35 (HCC.out.2 h))] at HSK
            rw [HSK.out, Bool.false_or] at HGK
            rw [HSK.out, if_neg (by decide)] at HNK
            have c35b : (((b0[0]).toNat : Int) == 35) = false := beq_eq_false_iff_ne.2 c35
            have c35d : decide (((b0[0]).toNat : Int) = 35) = false := decide_eq_false c35
            cases hln : lnS ws with
            | false =>
              rw [hln] at HGK
              obtain ⟨e1, e2⟩ := HBAD.out HGK.out
              have HRE : Hid (prR x = ((k : Int), 130)) := by show _ = _; rw [HR.out, e1, if_neg (by decide), e2]
              have HIF := hidD (fun B v w' h => HIL.out B v w' h)
              rw [hln] at HIF
              clear hln e1 e2
              go_wp2_with (first
                | (go_at_call 38; refine (HFL.out _).mono ?_; rintro e w3 ⟨u3, rfl, ho3, hb3⟩; obtain ⟨a3, c3, h3⟩ := row_shape ho3; subst h3; have hs3 := sr_of_own ho3 HWN.out.symm; obtain ⟨g3, o3, h3a, _, _, f3⟩ := hs3.cell (k := 0) (by rw [HWN.out]; omega); subst h3a; unfold encT at f3; rw [HX0E.out, Nat.add_zero] at f3; have HS3 := hidD hs3; have HB3 := hidD hb3; clear ho3 hb3 hs3)
                | (go_at_call 40; refine (HIF.out _ _ _ HS3.out).mono ?_; rintro e w4 ⟨rfl, hw4⟩; subst w4))
              refine bodyPost_ret (v := .tuple #[.pointer none, .int .i64 (k : Int), .int .i64 130]) (by simp [results, Tryd.results9, go_sem]) rfl ?_
              exact ⟨fun _ => by rw [HRE.out], fun h => (by rw [HRE.out] at h; cases h), Below.next HBW.out HB3.out⟩
            | true =>
              rw [hln] at HGK
              have h2w : 2 ≤ ws.length := by
                have : decide (2 ≤ ws.length) = true := by
                  unfold lnS at hln
                  simp only [Bool.and_eq_true] at hln
                  exact hln.1.1.1
                exact of_decide_eq_true this
              have HIF := hidD (fun B v w' h => HIL.out B v w' h)
              rw [hln] at HIF
              have HAF := hidD (HALT.out h2w)
              have hal := alS_len h2w
              rw [HWN.out] at hal
              clear hln h2w
              generalize hAS : alS ws = AS at *
              clear hAS
              generalize hasn : AS.length = asn at *
              have HASN := hidD hasn
              clear hasn
              go_wp2_with (first
                | (go_at_call 38; refine (HFL.out _).mono ?_; rintro e w3 ⟨u3, rfl, ho3, hb3⟩; obtain ⟨a3, c3, h3⟩ := row_shape ho3; subst h3; have hs3 := sr_of_own ho3 HWN.out.symm; obtain ⟨g3, o3, h3a, _, _, f3⟩ := hs3.cell (k := 0) (by rw [HWN.out]; omega); subst h3a; unfold encT at f3; rw [HX0E.out, Nat.add_zero] at f3; have HS3 := hidD hs3; have HB3 := hidD hb3; clear ho3 hb3 hs3)
                | (go_at_call 40; refine (HIF.out _ _ _ HS3.out).mono ?_; rintro e w4 ⟨rfl, hw4⟩; subst w4)
                | (go_at_call 41; refine (HAF.out _ _ HS3.out).mono ?_; rintro e w5 ⟨u5, vs5, rfl, ho5, hr5, hb5⟩; obtain ⟨a5, c5, h5⟩ := row_shape ho5; subst h5; have HO5 := hidD ho5; have HR5 := hidD hr5; have HB5 := hidD (Below.next HB3.out hb5); clear ho5 hr5 hb5)
                | (at_builtin; refine wpList_append_rows rfl _ _ rfl w.heap.size (.slice a6 rl c6) rl vs rfl (row_below HOW.out HB5.out) w3.heap.size (.slice a5 asn c5) asn vs5 rfl HO5.out HR5.out.one_cell (by omega) (by have := HBW.out.size; have := HB5.out.size; omega) ?_; intro v8 w8 h81 h82 h83; have HX1 := hidD h81; have HX2 := hidD (Below.trans (Below.next HBW.out HB5.out) h82); have HX3 := hidD ((((HRV.out.next HB5.out).mono HB5.out.size).more HR5.out).stay h83 (by decide)); have HX4 := hidD ((HSR.out.next HB5.out).stay h83 (by decide)); have HX5 : Hid (w5.heap.size ≤ w8.heap.size) := h82.size; clear h81 h82 h83))
              go_roundw
              case rel => exact ⟨k + 1, _, by omega, by go_num, by rw [HNK.out, List.length_append, HRL.out, HASN.out]; exact HX1.out, by rw [HNK.out]; exact HX3.out.mono HX5.out, HX4.out.all, HST.out HGK.out, HX2.out⟩
              case measure => simp [intOf]; omega
      · obtain rfl : n = k := by omega
        have HGT := hidD (HPG.out HAL.out)
        rw [← HPL.out] at HRK
        have HLX : Hid (LxOk (rdTo ls n)) := fun r hr y hy => by
          have h1 := (HRK.out.2.2 r (by rw [HPL.out]; exact hr)).2.2 y hy
          have h2 := HXM.out
          unfold maxLen; omega
        have HRLW := hidD (rl_of_own hown rfl hrv)
        have HPOS : Hid (∀ r ∈ rdTo ls n, 1 ≤ r.length) := fun r hr => (HRK.out.2.2 r (by rw [HPL.out]; exact hr)).1
        have hlb : (rdTo ls n).length ≤ 1099512676352 := by have := HRK.out.1; have := HBK.out.1; rw [HPL.out] at *; omega
        have hfb : (rdTo ls n).flatten.length ≤ 2199025352704 := by have := HRK.out.2.1; have := HBK.out.2; rw [HPL.out] at *; omega
        have HSM := hidD (te_small (L := rdTo ls n) (M := x.length) (fun r hr => (HRK.out.2.2 r (by rw [HPL.out]; exact hr)).2.2))
        have hto := te_ot_len (rdTo ls n)
        have HPT := hidD (parted_any (rdTo ls n) HLX.out HPOS.out (by omega) (by omega) _ wr HRLW.out)
        have HSTL : Hid ((stS (rdTo ls n)).length ≤ maxLen) := by
          show _ ≤ _
          unfold stS
          by_cases h0 : 0 < (rdTo ls n).length
          · have hr : (rdTo ls n).getD 0 [] ∈ rdTo ls n := by rw [List.getD_eq_getElem?_getD, List.getElem?_eq_getElem h0]; exact List.getElem_mem h0
            have h1 := HPOS.out _ hr
            exact HLX.out _ hr _ (getD_mem (by omega))
          · rw [List.eq_nil_of_length_eq_zero (show (rdTo ls n).length = 0 by omega)]; decide
        have HNEW := hidD (fun Bt Bo t o w' (ht : SrAt w' Bt t (teS (rdTo ls n))) (ho : SrAt w' Bo o (otS (rdTo ls n))) (hv : RlAt w' (.slice a6 (rdTo ls n).length c6) (rdTo ls n)) => new_any (teS (rdTo ls n)) (otS (rdTo ls n)) (fun y hy => by have h1 := HSM.out.1 y hy; have h2 := HXM.out; unfold maxLen; omega) (fun y hy => by have h1 := HSM.out.2 y hy; have h2 := HXM.out; unfold maxLen; omega) (by omega) (stS (rdTo ls n)) HSTL.out (rdTo ls n) HLX.out (by omega) (fun r hr => by have h1 := (HRK.out.2.2 r (by rw [HPL.out]; exact hr)).2.1; have h2 := HXM.out; omega) Bt Bo t o _ w' ht ho hv)
        have HROW : Hid (∀ h0 : 0 < (rdTo ls n).length, ∃ g o a2 c2, a6 = some ⟨g, o, none⟩ ∧ wr.cell? ⟨g, o, none⟩ = some (.slice a2 ((rdTo ls n).getD 0 []).length c2) ∧ SrAt wr wr.heap.size (.slice a2 ((rdTo ls n).getD 0 []).length c2) ((rdTo ls n).getD 0 [])) := fun h0 => by
          obtain ⟨g, o, a2, c2, e1, _, e3, e4⟩ := HRLW.out.row (k := 0) h0
          exact ⟨g, o, a2, c2, e1, by rw [Nat.add_zero] at e3; exact e3, e4⟩
        have HPG0 : Hid (∀ h0 : 0 < (rdTo ls n).length, 1 ≤ ((rdTo ls n).getD 0 []).length) := fun h0 => HPOS.out _ (by rw [List.getD_eq_getElem?_getD, List.getElem?_eq_getElem h0]; exact List.getElem_mem h0)
        have HST0 : Hid (∀ L : List (List Tx), stS L = (L.getD 0 []).getD 0 []) := fun _ => rfl
        rw [HPL.out] at HPE
        unfold encT at HNEW
        clear hown hrv hsr hall hbel hto hfb
        generalize hLL : rdTo ls n = LL at *
        have HLLE := hidD hLL
        clear hLL
        generalize hrl : LL.length = rl at *
        have HRL := hidD hrl
        clear hrl
        by_cases hr0 : 0 < rl
        · obtain ⟨g7, o7, a7, c7, rfl, f7, hs7⟩ := HROW.out hr0
          have hp7 := HPG0.out hr0
          obtain ⟨g8, o8, rfl, hg8, _, f8⟩ := hs7.cell (k := 0) (by omega)
          rw [Nat.add_zero, ← HST0.out] at f8
          unfold encT at f8
          have hr0i : (0 : Int) < (rl : Int) := by omega
          have hp7i : (1 : Int) ≤ ((LL.getD 0 []).length : Int) := by omega
          clear hs7 hp7
          generalize (LL.getD 0 []).length = l7 at *
          by_cases hE : newE (teS LL) (otS LL) (stS LL) LL = 0
          · have HRE : Hid (prR x = (0, 0)) := by show _ = _; rw [HR.out, HGT.out, if_pos rfl, HPE.out, if_pos hE]
            go_wp2_with (first
              | (go_at_call 42; refine HPT.out.mono ?_; rintro e w4 ⟨t4, o4, rfl, ht4, ho4, hb4⟩; obtain ⟨at4, ct4, h4⟩ := row_shape ht4; subst h4; obtain ⟨ao4, co4, h4⟩ := row_shape ho4; subst h4; have HT4 := hidD (sr_of_own ht4 rfl); have HO4 := hidD (sr_of_own ho4 rfl); have HB4 := hidD hb4; clear ht4 ho4 hb4)
              | (go_at_call 15; refine (HNEW.out _ _ _ _ _ HT4.out HO4.out (HRLW.out.next HB4.out)).mono ?_; rintro e w5 ⟨hb5, hn5, hz5⟩; obtain ⟨p, nul, bg, fo, h5, hp5, hg5⟩ := hz5 hE; subst h5; have HG5 := hidD hg5; have HP5 := hidD hp5; have HB5 := hidD (Below.next HB4.out hb5); clear hb5 hn5 hz5 hg5 hp5))
            refine bodyPost_ret (v := .tuple #[.pointer (some ⟨p, 0, none⟩), .int .i64 0, .int .i64 0]) (by simp [results, Tryd.results9, go_sem]) rfl ?_
            refine ⟨fun h => (by rw [HRE.out] at h; exact absurd rfl h), fun _ => ⟨p, nul, bg, fo, rfl, Nat.le_trans (Nat.le_trans HBW.out.size HB4.out.size) HP5.out, ?_⟩, Below.next HBW.out HB5.out⟩
            rw [HPL.out]
            exact HG5.out
          · have HRE : Hid (prR x = ((n : Int), newE (teS LL) (otS LL) (stS LL) LL)) := by show _ = _; rw [HR.out, HGT.out, if_pos rfl, HPE.out, if_neg hE]
            have HEN := hidD hE
            have hEb : (newE (teS LL) (otS LL) (stS LL) LL == 0) = false := beq_eq_false_iff_ne.2 hE
            go_wp2_with (first
              | (go_at_call 42; refine HPT.out.mono ?_; rintro e w4 ⟨t4, o4, rfl, ht4, ho4, hb4⟩; obtain ⟨at4, ct4, h4⟩ := row_shape ht4; subst h4; obtain ⟨ao4, co4, h4⟩ := row_shape ho4; subst h4; have HT4 := hidD (sr_of_own ht4 rfl); have HO4 := hidD (sr_of_own ho4 rfl); have HB4 := hidD hb4; clear ht4 ho4 hb4)
              | (go_at_call 15; refine (HNEW.out _ _ _ _ _ HT4.out HO4.out (HRLW.out.next HB4.out)).mono ?_; rintro e w5 ⟨hb5, hn5, hz5⟩; have h5 := hn5 hE; subst h5; have HB5 := hidD (Below.next HB4.out hb5); clear hb5 hn5 hz5))
            refine bodyPost_ret (v := .tuple #[.pointer none, .int .i64 (n : Int), .int .i64 (newE (teS LL) (otS LL) (stS LL) LL)]) (by simp [results, Tryd.results9, go_sem]) rfl ?_
            exact ⟨fun _ => by rw [HRE.out], fun h => (by rw [HRE.out] at h; exact absurd h HEN.out), Below.next HBW.out HB5.out⟩
        · obtain rfl : rl = 0 := by omega
          have HSE : Hid (bA (stS LL) = ⟨#[]⟩) := by show _ = _; rw [HST0.out, List.eq_nil_of_length_eq_zero HRL.out]; rfl
          rw [HSE.out] at HNEW
          by_cases hE : newE (teS LL) (otS LL) (stS LL) LL = 0
          · have HRE : Hid (prR x = (0, 0)) := by show _ = _; rw [HR.out, HGT.out, if_pos rfl, HPE.out, if_pos hE]
            go_wp2_with (first
              | (go_at_call 42; refine HPT.out.mono ?_; rintro e w4 ⟨t4, o4, rfl, ht4, ho4, hb4⟩; obtain ⟨at4, ct4, h4⟩ := row_shape ht4; subst h4; obtain ⟨ao4, co4, h4⟩ := row_shape ho4; subst h4; have HT4 := hidD (sr_of_own ht4 rfl); have HO4 := hidD (sr_of_own ho4 rfl); have HB4 := hidD hb4; clear ht4 ho4 hb4)
              | (go_at_call 15; refine (HNEW.out _ _ _ _ _ HT4.out HO4.out (HRLW.out.next HB4.out)).mono ?_; rintro e w5 ⟨hb5, hn5, hz5⟩; obtain ⟨p, nul, bg, fo, h5, hp5, hg5⟩ := hz5 hE; subst h5; have HG5 := hidD hg5; have HP5 := hidD hp5; have HB5 := hidD (Below.next HB4.out hb5); clear hb5 hn5 hz5 hg5 hp5))
            refine bodyPost_ret (v := .tuple #[.pointer (some ⟨p, 0, none⟩), .int .i64 0, .int .i64 0]) (by simp [results, Tryd.results9, go_sem]) rfl ?_
            refine ⟨fun h => (by rw [HRE.out] at h; exact absurd rfl h), fun _ => ⟨p, nul, bg, fo, rfl, Nat.le_trans (Nat.le_trans HBW.out.size HB4.out.size) HP5.out, ?_⟩, Below.next HBW.out HB5.out⟩
            rw [HPL.out]
            exact HG5.out
          · have HRE : Hid (prR x = ((n : Int), newE (teS LL) (otS LL) (stS LL) LL)) := by show _ = _; rw [HR.out, HGT.out, if_pos rfl, HPE.out, if_neg hE]
            have HEN := hidD hE
            have hEb : (newE (teS LL) (otS LL) (stS LL) LL == 0) = false := beq_eq_false_iff_ne.2 hE
            go_wp2_with (first
              | (go_at_call 42; refine HPT.out.mono ?_; rintro e w4 ⟨t4, o4, rfl, ht4, ho4, hb4⟩; obtain ⟨at4, ct4, h4⟩ := row_shape ht4; subst h4; obtain ⟨ao4, co4, h4⟩ := row_shape ho4; subst h4; have HT4 := hidD (sr_of_own ht4 rfl); have HO4 := hidD (sr_of_own ho4 rfl); have HB4 := hidD hb4; clear ht4 ho4 hb4)
              | (go_at_call 15; refine (HNEW.out _ _ _ _ _ HT4.out HO4.out (HRLW.out.next HB4.out)).mono ?_; rintro e w5 ⟨hb5, hn5, hz5⟩; have h5 := hn5 hE; subst h5; have HB5 := hidD (Below.next HB4.out hb5); clear hb5 hn5 hz5))
            refine bodyPost_ret (v := .tuple #[.pointer none, .int .i64 (n : Int), .int .i64 (newE (teS LL) (otS LL) (stS LL) LL)]) (by simp [results, Tryd.results9, go_sem]) rfl ?_
            exact ⟨fun _ => by rw [HRE.out], fun h => (by rw [HRE.out] at h; exact absurd h HEN.out), Below.next HBW.out HB5.out⟩
end Go.Proofs.YtgmbkelmgolkpaaDoor
