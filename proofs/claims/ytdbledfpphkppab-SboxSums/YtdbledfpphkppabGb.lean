/- Texts of one proof, one behind the other. -/
import Derived.Test.YtdbledfpphkppabPgd
import Derived.Test.YtdbledfpphkppabRwb
import Derived.Test.YtdbledfpphkppabCyq
import Derived.Sort.Row
import Derived.Sort.Grow
/- What the program's hasAll and Cycles answer (over contracts of sorting and of turning round). -/
namespace Go.Proofs.Ytdbledfpphkppab
open Go.RowKit
set_option linter.unusedVariables false

theorem Try.zero42 : (Try.prog.info? 42).map (fun i => (i.zero, i.size)) = some (some (.agg (rowB 256 (fun _ => false))), 256) := by kernel_rfl
theorem Try.info4 : (Try.prog.info? 4).map (fun i => (i.zero, i.size, i.bytes)) = some (some (.bool false), 1, 1) := by kernel_rfl
theorem index256t (C : Array Value) (k : Nat) (u : Value) (hk : k < 256) (h : C[k]? = some u) (w : World) : (Instr.index 42 (.agg C) (.int .i64 (k : Int))).run Try.prog w = .ok u w := by
  have hu : Try.prog.underlying 42 = some (.array 256 4) := by kernel_rfl
  have hpk : Try.prog.plainKey 4 = true := by kernel_rfl
  have hc : Try.prog.cellsOf 4 = 1 := by kernel_rfl
  obtain ⟨i0, hi, _⟩ := info_parts Try.info4
  have hn : (0 : Int) ≤ (k : Int) ∧ (k : Int) < ((256 : Nat) : Int) := by omega
  have hp := run_part_plain (P := Try.prog) (w := w) hpk (xs := C) (off := k) (v := u) h
  simp only [Instr.index, asIntOf, Sem.run_bind, Sem.run_pure, Result.andThen_ok, run_underlying hu, if_pos hn, run_sizeOf w hi, hc, Nat.mul_one, Int.toNat_natCast, hp]
def hdS (t : Nat → Nat) (k v : Nat) : Bool := decide (0 < cnV t k v)
set_option maxRecDepth 100000 in
set_option maxHeartbeats 800000 in
theorem hasAll_any (l : List UInt8) (hl : l.length = 256) (v : Value) (w : World) (hv : ByAt w v l) : Calls Try.prog 16 #[v] w fun e w' => e = .returned (.bool (onceB (tbN l))) ∧ Below w.heap.size w w' := by
  obtain ⟨a', cap, rfl, _⟩ := hv.shape
  have HT0 := hidD (fun wr (hb : Below w.heap.size w wr) x (hx : x < 256) => tab_cell0 hv hl hb hx)
  have HL := hidD (fun x => tbN_lt l x)
  rw [hl] at *
  clear hv hl
  generalize tbN l = t at *
  obtain ⟨hz, hsz⟩ := zero_of_info Try.zero42
  go_enter Try.func16, Try.ntmps16
  go_wp2_with fail
  have HRZ := hidD (RowB.new w 256 42 (fun _ => false))
  have HB1 : Hid (Below w.heap.size w (w.alloc (.cells (rowB 256 (fun _ => false)) 42))) := (Below.refl _ _).alloc (Nat.le_refl _) _
  generalize w.alloc (.cells (rowB 256 (fun _ => false)) 42) = w1 at *
  generalize hg : w.heap.size = g at *
  have HG := hidD hg
  clear hg
  go_loopw [10] (fun i wr => ∃ k : Nat, k ≤ 256 ∧ i = .int .i64 k ∧ RowB wr g 256 42 (hdS t k) ∧ Below g w wr) (fun i _ => 256 - (intOf i).toNat)
  case atStart => exact ⟨0, Nat.zero_le _, rfl, HRZ.out, HB1.out⟩
  case round =>
    obtain ⟨k, hk, rfl, hrow, hbel⟩ := hrel
    have HBL := hidD hbel
    have HRW := hidD hrow
    by_cases hlt : k < 256
    · have hlti : (k : Int) < 256 := by omega
      obtain ⟨g', o, rfl, hg', hc1⟩ := HT0.out wr hbel k hlt
      have hT := HL.out k
      have hco := hrow.cell hT
      have hfo := hrow.frozen (t k)
      have HST : Hid (RowB (wr.setCell ⟨g, t k, none⟩ (.bool true)) g 256 42 (hdS t (k + 1))) := (hrow.set hT true).congr fun j _ => by
        unfold hdS cnV; rw [ct_succ]
        by_cases he : j = t k
        · rw [if_pos he, ← he]; simp
        · rw [if_neg he, show (t k == j) = false by simpa using Ne.symm he]; simp
      have HSB : Hid (∀ v, Below g w (wr.setCell ⟨g, t k, none⟩ v)) := fun v => below_setCell hbel (Nat.le_refl _) _ v
      generalize hdS t k (t k) = N at *
      generalize t k = T at *
      have hTi : (T : Int) < 256 := by omega
      clear hbel hrow
      go_wp2_with fail
      go_roundw
      case rel => exact ⟨k + 1, by omega, by go_num, HST.out, HSB.out _⟩
      case measure => simp [intOf]; omega
    · obtain rfl : k = 256 := by omega
      have HIX : Hid (∀ k : Nat, k < 256 → ∀ w, (Instr.index 42 (.agg (rowB 256 (hdS t 256))) (.int .i64 (k : Int))).run Try.prog w = .ok (.bool (hdS t 256 k)) w) := fun k hk w => index256t _ k _ hk (rowB_get 256 _ k hk) w
      have HLD : Hid (wr.heap[g]? = some (.cells (rowB 256 (hdS t 256)) (42 : TypeId) (0, 0))) := hrow
      have h4 : (rowB 256 (hdS t 256)).size = 256 := rowB_size _ _
      clear hbel hrow
      generalize rowB 256 (hdS t 256) = C at *
      have hi : (Try.prog.info? 42).map (·.size) = some C.size := by rw [hsz, h4]
      go_wp2_with (refine wpList_load_row rfl 42 _ rfl g rfl 42 C (0, 0) _ HLD.out Try.underlying42 rfl hi ?_)
      go_loopw [18] (fun i wr' => ∃ k : Nat, k ≤ 256 ∧ i = .int .i64 k ∧ (∀ v, v < k → 0 < cnV t 256 v) ∧ wr' = wr) (fun i _ => 256 - (intOf i).toNat)
      case atStart => exact ⟨0, Nat.zero_le _, rfl, fun v h => absurd h (by omega), rfl⟩
      case round =>
        obtain ⟨k, hk, rfl, hall, rfl⟩ := hrel
        have HALL := hidD hall
        clear hall
        by_cases hlt : k < 256
        · have hlti : (k : Int) < 256 := by omega
          have hix := fun w => HIX.out k hlt w
          by_cases h1 : 0 < cnV t 256 k
          · have HN : Hid (∀ v, v < k + 1 → 0 < cnV t 256 v) := fun v hv => by
              by_cases he : v = k
              · rw [he]; exact h1
              · exact HALL.out v (by omega)
            rw [show hdS t 256 k = true by unfold hdS; simpa using h1] at hix
            clear h1
            go_wp2_with fail
            go_roundw
            case rel => exact ⟨k + 1, by omega, by go_num, HN.out, by first | trivial | rfl⟩
            case measure => simp [intOf]; omega
          · have HON : Hid (onceB t = false) := once_neg hlt (by omega)
            rw [show hdS t 256 k = false by unfold hdS; simpa using h1] at hix
            clear h1
            go_wp2_with fail
            refine bodyPost_ret (v := .bool false) (by simp [results, Try.results16, go_sem]) rfl ?_
            refine ⟨by rw [HON.out], ?_⟩
            rw [HG.out]; exact HBL.out
        · obtain rfl : k = 256 := by omega
          have HON : Hid (onceB t = true) := once_pos (fun x _ => HL.out x) HALL.out
          go_wp2_with fail
          refine bodyPost_ret (v := .bool true) (by simp [results, Try.results16, go_sem]) rfl ?_
          refine ⟨by rw [HON.out], ?_⟩
          rw [HG.out]; exact HBL.out
set_option maxRecDepth 100000 in
theorem pCyc_out (l : List UInt8) (hl : l.length ≠ 256) (v : Value) (w : World) (hv : ByAt w v l) : Calls Try.prog 6 #[v] w fun e w' => e = .returned (.tuple #[.slice none 0 0, .int .i64 91]) ∧ Below w.heap.size w w' := by
  obtain ⟨a', cap, rfl, _⟩ := hv.shape
  have HI := hidD (fun w => right_any l.length cap a' w)
  rw [show decide (l.length = 256) = false by simpa using hl] at HI
  generalize l.length = n at *
  clear hl hv
  go_enter Try.func6, Try.ntmps6
  go_wp2_with (go_at_call 14; refine (HI.out _).mono ?_; rintro e w1 ⟨rfl, rfl⟩)
  refine bodyPost_ret (v := .tuple #[.slice none 0 0, .int .i64 91]) (by simp [results, Try.results6, go_sem]) rfl ?_
  exact ⟨rfl, Below.refl _ _⟩
set_option maxRecDepth 100000 in
theorem pCyc_not (l : List UInt8) (hl : l.length = 256) (ho : onceB (tbN l) = false) (v : Value) (w : World) (hv : ByAt w v l) : Calls Try.prog 6 #[v] w fun e w' => e = .returned (.tuple #[.slice none 0 0, .int .i64 1]) ∧ Below w.heap.size w w' := by
  obtain ⟨a', cap, rfl, _⟩ := hv.shape
  have HI := hidD (fun w => right_any l.length cap a' w)
  rw [show decide (l.length = 256) = true by simpa using hl] at HI
  have HH := hidD (hasAll_any l hl _ w hv)
  rw [ho] at HH
  generalize l.length = n at *
  clear hl hv ho
  go_enter Try.func6, Try.ntmps6
  go_wp2_with (first | (go_at_call 14; refine (HI.out _).mono ?_; rintro e w1 ⟨rfl, rfl⟩) | (go_at_call 16; refine HH.out.mono ?_; rintro e w2 ⟨rfl, hb2⟩))
  refine bodyPost_ret (v := .tuple #[.slice none 0 0, .int .i64 1]) (by simp [results, Try.results6, go_sem]) rfl ?_
  exact ⟨rfl, hb2⟩
theorem len_pos (t : Nat → Nat) : ∀ k, 0 < (lenTo t (k + 1)).2.length
  | 0 => by
    have h : 1 ≤ (walkC t 257 (fun _ => true) 0 0).2 := by
      rw [show walkC t 257 (fun _ => true) 0 0 = walkC t 256 (fun z => if z = 0 then false else true) (t 0) 1 from rfl]
      exact walk_le t 256 _ _ 1
    show 0 < (if 0 < (walkC t 257 (fun _ => true) 0 0).2 then [] ++ [((walkC t 257 (fun _ => true) 0 0).2 : Int)] else []).length
    rw [if_pos (by omega)]
    simp
  | k + 1 => by
    have := len_pos t k
    rw [lenTo]
    dsimp only
    split
    · rw [List.length_append]; omega
    · exact this
/-- The cells of a row that grew by appending. -/
theorem own_holds {w : World} {base g cap : Nat} {L : List Int} (h : w.ownsRow base 3 1 (.slice (some ⟨g, 0, none⟩) L.length cap) L.length (L.map encI)) : Go.Sort.Holds (Value.int .i64) w g 0 L.toArray ∧ g < w.heap.size ∧ base ≤ g := by
  rcases h.2 with ⟨hc, _⟩ | ⟨g', cap', cur, he, hb, hg, hc, hm, hs, ht⟩
  · cases hc
  · cases he
    refine ⟨fun j hj => ?_, row_lt hg, hb⟩
    have hjl : j < L.length := by simpa using hj
    refine ⟨?_, frozen_of_row _ _ _ _ _ hg⟩
    rw [Nat.zero_add, cell_of_row _ _ _ _ _ _ hg]
    have h1 : cur.toList[j]? = (L.map encI)[j]? := by
      rw [← ht, List.getElem?_take, if_pos (by rw [Nat.mul_one]; exact hjl)]
    rw [← Array.getElem?_toList, h1, List.getElem?_map, List.getElem?_eq_getElem hjl]
    simp [hjl, encI]
theorem holds_is {w : World} {g cap : Nat} {L : List Int} (h : Go.Sort.Holds (Value.int .i64) w g 0 L.toArray) (hg : g < w.heap.size) : IsAt w (.slice (some ⟨g, 0, none⟩) L.length cap) L := by
  refine .inr ⟨g, 0, cap, rfl, hg, fun j hj => ?_⟩
  rw [(h j (by simpa using hj)).1]
  simp [hj]; rfl
/-- What is asked of sorting, and of turning round. -/
def SortC : Prop := ∀ (L : List Int) (g cap : Nat) (w : World), Go.Sort.Holds (Value.int .i64) w g 0 L.toArray → g < w.heap.size → L.length ≤ 1000 → Calls Try.prog 17 #[.slice (some ⟨g, 0, none⟩) L.length cap] w fun e w' => e = .returned (.tuple #[]) ∧ Go.Sort.Holds (Value.int .i64) w' g 0 (L.mergeSort fun x y => decide (x ≤ y)).toArray ∧ Below g w w' ∧ g < w'.heap.size
def TurnC : Prop := ∀ (L : List Int) (g cap : Nat) (w : World), Go.Sort.Holds (Value.int .i64) w g 0 L.toArray → g < w.heap.size → L.length ≤ 1000 → Calls Try.prog 18 #[.slice (some ⟨g, 0, none⟩) L.length cap] w fun e w' => e = .returned (.tuple #[]) ∧ Go.Sort.Holds (Value.int .i64) w' g 0 L.reverse.toArray ∧ Below g w w' ∧ g < w'.heap.size
set_option maxRecDepth 100000 in
set_option maxHeartbeats 1600000 in
theorem pCyc_gen (hS : SortC) (hT : TurnC) (l : List UInt8) (hl : l.length = 256) (ho : onceB (tbN l) = true) (v : Value) (w : World) (hv : ByAt w v l) : Calls Try.prog 6 #[v] w fun e w' => (∃ vo, e = .returned (.tuple #[vo, .int .i64 0]) ∧ IsAt w' vo (cycS (tbN l))) ∧ Below w.heap.size w w' := by
  obtain ⟨a', cap, rfl, _⟩ := hv.shape
  have HI := hidD (fun w => right_any 256 cap a' w)
  rw [show decide (256 = 256) = true by decide] at HI
  have HH := hidD (hasAll_any l hl _ w hv)
  rw [ho] at HH
  have HT0 := hidD (fun wr (hb : Below w.heap.size w wr) x (hx : x < 256) => tab_cell0 hv hl hb hx)
  have HL := hidD (fun x => tbN_lt l x)
  have HSO := hidD hS
  have HTU := hidD hT
  rw [hl] at *
  clear hv hl ho hS hT
  have HAL : Hid (∀ (w' : World) o, Below w'.heap.size w' (w'.alloc o)) := fun w' o => (Below.refl _ _).alloc (Nat.le_refl _) o
  have HCS := hidD (cyc_sorted (tbN l))
  generalize tbN l = t at *
  generalize hcy : cycS t = CY at *
  clear hcy
  obtain ⟨hz, hsz⟩ := zero_of_info Try.zero42
  go_enter Try.func6, Try.ntmps6
  go_wp2_with (first | (go_at_call 14; refine (HI.out _).mono ?_; rintro e w1 ⟨rfl, rfl⟩; clear HI) | (go_at_call 16; refine HH.out.mono ?_; rintro e w2 ⟨rfl, hb2⟩; have HB0 := hidD hb2; clear hb2))
  clear HH
  have HRZ := hidD (RowB.new w2 256 42 (fun _ => false))
  have HB1 : Hid (Below w2.heap.size w2 (w2.alloc (.cells (rowB 256 (fun _ => false)) 42))) := (Below.refl _ _).alloc (Nat.le_refl _) _
  generalize w2.alloc (.cells (rowB 256 (fun _ => false)) 42) = w3 at *
  have HGE : Hid (w1.heap.size ≤ w2.heap.size) := HB0.out.size
  have HBB : Hid (∀ wr, Below w2.heap.size w2 wr → Below w1.heap.size w1 wr) := fun wr h => Below.next HB0.out h
  generalize hg : w2.heap.size = g at *
  clear hg
  go_loopw [4, 15] (fun o i wr => ∃ k : Nat, k ≤ 256 ∧ i = .int .i64 k ∧ wr.ownsRow (g + 1) 3 1 o (lenTo t k).2.length ((lenTo t k).2.map encI) ∧ RowB wr g 256 42 (fun z => !(lenTo t k).1 z) ∧ Below g w2 wr) (fun _ i _ => 256 - (intOf i).toNat)
  case atStart => exact ⟨0, Nat.zero_le _, rfl, World.ownsRow_nil _ _ _ _, HRZ.out, HB1.out⟩
  case round =>
    obtain ⟨k, hk, rfl, hown, hrow, hbel⟩ := hrel
    have HBL := hidD hbel
    have HRW := hidD hrow
    have HOW := hidD hown
    clear hbel hrow hown
    by_cases hlt : k < 256
    · have hlti : (k : Int) < 256 := by omega
      have HCL := hidD (len_len t k)
      have HC1 : Hid ((lenTo t (k + 1)).1 = (walkC t 257 (lenTo t k).1 k 0).1) := rfl
      have HC2 : Hid ((lenTo t (k + 1)).2 = if 0 < (walkC t 257 (lenTo t k).1 k 0).2 then (lenTo t k).2 ++ [((walkC t 257 (lenTo t k).1 k 0).2 : Int)] else (lenTo t k).2) := rfl
      have HCT := hidD (ct_le (lenTo t k).1 256)
      generalize hL : (lenTo t k).2 = L at *
      generalize hM : (lenTo t k).1 = M0 at *
      generalize hW : walkC t 257 M0 k 0 = W at *
      have HWQ := hidD hW
      clear hL hM hW
      go_wp2_with fail
      go_loopw [7, 8] (fun n y wr' => ∃ (m : Nat → Bool) (yn nn : Nat), y = .int .i64 yn ∧ n = .int .i64 nn ∧ yn < 256 ∧ nn + ct m 256 ≤ 256 ∧ walkC t (257 - nn) m yn nn = W ∧ RowB wr' g 256 42 (fun z => !m z) ∧ But g wr wr') (fun n _ _ => 256 - (intOf n).toNat)
      case atStart => exact ⟨M0, k, 0, rfl, rfl, hlt, by have := HCT.out; omega, HWQ.out, HRW.out, But.refl _ _⟩
      case round =>
        obtain ⟨m, yn, nn, rfl, rfl, hy, hct, hwk, hrow, hbut⟩ := hrel
        have HBU := hidD hbut
        have hbel := HBL.out.trans hbut.bel
        have hown := row_but HOW.out hbut
        have HBL := hidD hbel
        have HRW := hidD hrow
        have HOW := hidD hown
        have HWK := hidD hwk
        have hco := hrow.cell hy
        have hfo := hrow.frozen yn
        have hyi : (yn : Int) < 256 := by omega
        cases hm : m yn with
        | true =>
          rw [hm] at hco
          have hco : wr.cell? ⟨g, yn, none⟩ = some (.bool false) := hco
          have hpos := ct_pos m hm hy
          have hcl := ct_clear m hm hy
          have HCT2 : Hid (nn + 1 + ct (fun z => if z = yn then false else m z) 256 ≤ 256) := by show _ ≤ _; omega
          have HNX : Hid (walkC t (257 - (nn + 1)) (fun z => if z = yn then false else m z) (t yn) (nn + 1) = W) := by
            show _ = _
            rw [← HWK.out, show 257 - nn = (257 - (nn + 1)) + 1 by omega, walkC, if_pos hm]
          have HR2 : Hid (RowB (wr.setCell ⟨g, yn, none⟩ (.bool true)) g 256 42 (fun z => !(if z = yn then false else m z))) :=
            (hrow.set hy true).congr fun j _ => by
              by_cases he : j = yn
              · rw [if_pos he, if_pos he]; rfl
              · rw [if_neg he, if_neg he]
          have HB2 : Hid (Below g w2 (wr.setCell ⟨g, yn, none⟩ (.bool true))) := below_setCell hbel (Nat.le_refl _) _ _
          have HO2 := hidD (hbut.put yn (.bool true))
          obtain ⟨g', o, rfl, hg', hc1⟩ := HT0.out _ (HBB.out _ HB2.out) yn hy
          have HTY := hidD (HL.out yn)
          have HNN : Hid (nn < 256) := by show nn < 256; omega
          have hnn : (nn : Int) < 256 := by omega
          generalize hty : t yn = T at *
          have hTY : T < 256 := HTY.out
          clear hbel hrow hown hwk hm hty hbut
          go_wp2_with fail
          go_roundw
          case rel => exact ⟨_, T, nn + 1, by go_num, by go_num, HTY.out, HCT2.out, HNX.out, HR2.out, HO2.out⟩
          case measure => have := HNN.out; simp [intOf]; omega
        | false =>
          rw [hm] at hco
          have hco : wr.cell? ⟨g, yn, none⟩ = some (.bool true) := hco
          have HWE : Hid (W = (m, nn)) := by
            show _ = _
            rw [← HWK.out, show 257 - nn = (256 - nn) + 1 by omega, walkC, if_neg (by rw [hm]; simp)]
          clear hbel hrow hown hwk hm hbut
          have hcl := HCL.out
          by_cases hn0 : 0 < nn
          · have hn0i : (0 : Int) < nn := by omega
            have HN2 : Hid ((lenTo t (k + 1)).2 = L ++ [(nn : Int)]) := by show _ = _; rw [HC2.out, HWE.out]; exact if_pos hn0
            have HN1 : Hid ((lenTo t (k + 1)).1 = m) := by show _ = _; rw [HC1.out, HWE.out]
            have HLE : Hid (L.length ≤ 256) := by show _ ≤ _; omega
            go_wp2_with (at_builtin; refine wpList_append_is rfl _ _ rfl (g + 1) u4 L.length (L.map encI) rfl (HOW.out.alloc _) (.slice (some ⟨wr.heap.size, 0, none⟩) 1 1) [(nn : Int)] rfl (is_new _ _) (by have := HLE.out; simp; omega) (by have := HRW.out.lt; simp; omega) ?_; intro v8 w8 hown8 hg8; have HO8 := hidD hown8; have HB8 := hidD (row_grown (a := wr) (HOW.out.alloc _) ((HAL.out wr _).mono (Nat.succ_le_of_lt HRW.out.lt)) hg8 (by have := HRW.out.lt; simp; omega)); clear hown8 hg8)
            go_roundw
            case rel =>
              first
              | exact ⟨k + 1, by omega, by go_num, by rw [HN2.out, List.map_append, List.length_append]; exact HO8.out, by rw [HN1.out]; exact HRW.out.below HB8.out (Nat.lt_succ_self _), HBL.out.trans (HB8.out.mono (Nat.le_succ _))⟩
              | (repeat apply Exists.intro
                 refine And.intro (a := _) (b := _) ?_ ?_
                 rotate_left
                 · rfl
                 exact ⟨k + 1, by omega, by go_num, by rw [HN2.out, List.map_append, List.length_append]; exact HO8.out, by rw [HN1.out]; exact HRW.out.below HB8.out (Nat.lt_succ_self _), HBL.out.trans (HB8.out.mono (Nat.le_succ _))⟩)
            case measure => simp [intOf]; omega
          · obtain rfl : nn = 0 := by omega
            have HN2 : Hid ((lenTo t (k + 1)).2 = L) := by show _ = _; rw [HC2.out, HWE.out]; exact if_neg (by simp)
            have HN1 : Hid ((lenTo t (k + 1)).1 = m) := by show _ = _; rw [HC1.out, HWE.out]
            go_wp2_with fail
            go_roundw
            case rel => exact ⟨k + 1, by omega, by go_num, by rw [HN2.out]; exact HOW.out, by rw [HN1.out]; exact HRW.out, HBL.out⟩
            case measure => simp [intOf]; omega
    · obtain rfl : k = 256 := by omega
      have HLP := hidD (len_pos t 255)
      have HLL := hidD (len_len t 256)
      generalize hL : (lenTo t 256).2 = L at *
      clear hL
      obtain ⟨gl, cl, hve, _⟩ := row_shapeC HOW.out HLP.out
      have HV := hidD hve
      have ho := HOW.out
      rw [hve] at ho
      obtain ⟨hH, hgl, hge⟩ := own_holds ho
      have HS := hidD (HSO.out L gl cl wr hH hgl (by have := HLL.out; omega))
      have HGL := hidD hge
      clear ho hve hH hgl hge
      have HML : Hid ((L.mergeSort fun x y => decide (x ≤ y)).length = L.length) := List.length_mergeSort _
      have HRL : Hid ((L.mergeSort fun x y => decide (x ≤ y)).reverse.length = L.length) := by show _ = _; rw [List.length_reverse, HML.out]
      rw [HV.out]
      go_wp2_with (first
        | (go_at_call 17; refine HS.out.mono ?_; rintro e w5 ⟨rfl, hH5, hb5, hg5⟩; have HT := hidD (HTU.out _ gl cl w5 hH5 hg5 (by rw [HML.out]; have := HLL.out; omega)); rw [HML.out] at HT; have HB5 := hidD hb5; clear hH5 hb5 hg5)
        | (go_at_call 18; refine HT.out.mono ?_; rintro e w6 ⟨rfl, hH6, hb6, hg6⟩; have HH6 := hidD hH6; have HB6 := hidD hb6; have HG6 := hidD hg6; clear hH6 hb6 hg6))
      refine bodyPost_ret (v := .tuple #[.slice (some ⟨gl, 0, none⟩) L.length cl, .int .i64 0]) (by simp [results, Try.results6, go_sem]) rfl ?_
      refine ⟨⟨_, rfl, ?_⟩, ?_⟩
      · have := holds_is (cap := cl) HH6.out HG6.out
        rw [HRL.out, HCS.out] at this; exact this
      · exact (HBB.out _ HBL.out).trans ((HB5.out.trans HB6.out).mono (by have := HGE.out; have := HGL.out; omega))
theorem pCyc_any' (hS : SortC) (hT : TurnC) (l : List UInt8) (hl : l.length = 256) (v : Value) (w : World) (hv : ByAt w v l) : Calls Try.prog 6 #[v] w fun e w' => ((onceB (tbN l) = true ∧ ∃ vo, e = .returned (.tuple #[vo, .int .i64 0]) ∧ IsAt w' vo (cycS (tbN l))) ∨ (onceB (tbN l) = false ∧ e = .returned (.tuple #[.slice none 0 0, .int .i64 1]))) ∧ Below w.heap.size w w' := by
  cases h : onceB (tbN l) with
  | true => exact (pCyc_gen hS hT l hl h v w hv).mono fun e w' ⟨h1, h2⟩ => ⟨.inl ⟨rfl, h1⟩, h2⟩
  | false => exact (pCyc_not l hl h v w hv).mono fun e w' ⟨h1, h2⟩ => ⟨.inr ⟨rfl, h1⟩, h2⟩
end Go.Proofs.Ytdbledfpphkppab
/- What a row that is written in place, and new memory behind it, leave as it was. -/
namespace Go.Proofs.Ytdbledfpphkppab
open Go.RowKit
set_option linter.unusedVariables false

theorem put_size (w : World) (n g : Nat) (d : Array Int) : (Go.Sort.putRow (Value.int .i64) (Go.Sort.ahead w n) g 0 d).heap.size = w.heap.size := by
  simp [Go.Sort.putRow, Go.Sort.mapBlock, Go.Sort.ahead]
theorem put_below (w : World) (n g : Nat) (d : Array Int) (os : Array Obj) (hg : g < w.heap.size) : Below g w (Go.Sort.grow (Go.Sort.putRow (Value.int .i64) (Go.Sort.ahead w n) g 0 d) os) := by
  refine ⟨rfl, rfl, rfl, ?_, fun i hi => ?_⟩
  · rw [Go.Sort.size_grow, put_size]; omega
  · rw [Go.Sort.heap_grow_old _ _ (by rw [put_size]; omega)]
    show (w.heap.modify g _)[i]? = w.heap[i]?
    rw [Array.getElem?_modify, if_neg (by omega)]
theorem put_holds {w : World} {g : Nat} {L M : List Int} (h : Go.Sort.Holds (Value.int .i64) w g 0 L.toArray) (hg : g < w.heap.size) (hl : M.length = L.length) (n : Nat) (os : Array Obj) :
    Go.Sort.Holds (Value.int .i64) (Go.Sort.grow (Go.Sort.putRow (Value.int .i64) (Go.Sort.ahead w n) g 0 M.toArray) os) g 0 M.toArray ∧ Below g w (Go.Sort.grow (Go.Sort.putRow (Value.int .i64) (Go.Sort.ahead w n) g 0 M.toArray) os) ∧ g < (Go.Sort.grow (Go.Sort.putRow (Value.int .i64) (Go.Sort.ahead w n) g 0 M.toArray) os).heap.size :=
  ⟨Go.Sort.holds_grow _ _ _ _ _ _ (by rw [put_size]; exact hg) (Go.Sort.holds_putRow _ _ _ _ L.toArray _ (Go.Sort.holds_ahead _ _ _ _ _ _ h) (by simpa using hl)), put_below _ _ _ _ _ hg, by rw [Go.Sort.size_grow, put_size]; omega⟩
end Go.Proofs.Ytdbledfpphkppab
