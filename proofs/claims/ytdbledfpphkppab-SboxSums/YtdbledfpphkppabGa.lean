/- Texts of one proof, one behind the other. -/
import Derived.Test.YtdbledfpphkppabGb
import Derived.Test.YtdbledfpphkppabShelf
import Derived.Test.YtdbledfpphkppabCyp
import Derived.Test.YtdbledfpphkppabRf2
import Derived.Test.YtdbledfpphkppabAlv
import Derived.Test.YtdbledfpphkppabPgl
/- What the program's Cycles answers. -/
namespace Go.Proofs.Ytdbledfpphkppab
open Go.RowKit
set_option linter.unusedVariables false

theorem sortC : SortC := fun L g cap w h hg hl => (Try.slices_Sort_int g 0 cap L w h hg (by omega)).mono fun e w' ⟨h1, n, os, h2⟩ => ⟨h1, by rw [h2]; exact put_holds h hg (List.length_mergeSort _) n os⟩
theorem turnC : TurnC := fun L g cap w h hg hl => (Try.slices_Reverse_int g 0 cap L w h (by omega)).mono fun e w' ⟨h1, n, h2⟩ => ⟨h1, by rw [h2, ← Go.Sort.grow_empty (Go.Sort.putRow _ _ _ _ _)]; exact put_holds h hg List.length_reverse n #[]⟩
theorem pCyc_any (l : List UInt8) (hl : l.length = 256) (v : Value) (w : World) (hv : ByAt w v l) : Calls Try.prog 6 #[v] w fun e w' => ((onceB (tbN l) = true ∧ ∃ vo, e = .returned (.tuple #[vo, .int .i64 0]) ∧ IsAt w' vo (cycS (tbN l))) ∨ (onceB (tbN l) = false ∧ e = .returned (.tuple #[.slice none 0 0, .int .i64 1]))) ∧ Below w.heap.size w w' := pCyc_any' sortC turnC l hl v w hv
end Go.Proofs.Ytdbledfpphkppab
/- Plain: a table with every byte once, and its inverse. -/
namespace Go.Proofs.Ytdbledfpphkppab
set_option linter.unusedVariables false

def lastX (t : Nat → Nat) (v : Nat) : Nat → Nat
  | 0 => 0
  | n + 1 => if t n = v then n else lastX t v n
theorem last_spec {t : Nat → Nat} {v : Nat} : ∀ {n x : Nat}, x < n → t x = v → t (lastX t v n) = v ∧ lastX t v n < n
  | n + 1, x, hx, hv => by
    rw [lastX]
    split
    · rename_i h; exact ⟨h, by omega⟩
    · rename_i h
      have hne : x ≠ n := fun he => h (by rw [← he]; exact hv)
      have := last_spec (n := n) (show x < n by omega) hv
      exact ⟨this.1, by omega⟩
theorem last_lt (t : Nat → Nat) (v : Nat) : ∀ {n : Nat}, n ≤ 256 → lastX t v n < 256
  | 0, _ => by show 0 < 256; omega
  | n + 1, h => by rw [lastX]; split; omega; exact last_lt t v (by omega)
theorem ct_none {p : Nat → Bool} : ∀ {n : Nat}, (∀ x, x < n → p x = false) → ct p n = 0
  | 0, _ => rfl
  | n + 1, h => by rw [ct_succ, ct_none (fun x hx => h x (by omega)), h n (by omega)]; rfl
theorem once_at {t : Nat → Nat} (h : onceB t = true) {v : Nat} (hv : v < 256) : ct (fun x => t x == v) 256 = 1 := eq_of_beq (List.all_eq_true.1 h v (by simpa using hv))
theorem once_some {t : Nat → Nat} (h : onceB t = true) {v : Nat} (hv : v < 256) : ∃ x, x < 256 ∧ t x = v := by
  refine Classical.byContradiction fun hn => ?_
  have h0 : ct (fun x => t x == v) 256 = 0 := ct_none fun x hx => by
    cases hb : t x == v with
    | false => rfl
    | true => exact absurd ⟨x, hx, eq_of_beq hb⟩ hn
  rw [once_at h hv] at h0; cases h0
theorem once_inj {t : Nat → Nat} (h : onceB t = true) (ht : ∀ x, t x < 256) {x y : Nat} (hx : x < 256) (hy : y < 256) (he : t x = t y) : x = y := by
  refine Classical.byContradiction fun hn => ?_
  have h1 := once_at h (ht x)
  have h2 := ct_clear (fun z => t z == t x) (y := y) (by simpa using he.symm) hy
  have h3 := ct_pos (fun z => if z = y then false else t z == t x) (y := x) (by rw [if_neg hn]; simp) hx
  omega
theorem inv_back {t : Nat → Nat} (h : onceB t = true) (ht : ∀ x, t x < 256) {x : Nat} (hx : x < 256) : lastX t (t x) 256 = x := by
  have := last_spec (t := t) (v := t x) hx rfl
  exact once_inj h ht this.2 hx this.1
theorem inv_there {t : Nat → Nat} (h : onceB t = true) {v : Nat} (hv : v < 256) : t (lastX t v 256) = v := by
  obtain ⟨x, hx, he⟩ := once_some h hv
  exact (last_spec hx he).1
def backL (t : Nat → Nat) : List UInt8 := (List.range 256).map fun v => UInt8.ofNat (lastX t v 256)
theorem back_len (t : Nat → Nat) : (backL t).length = 256 := by simp [backL]
theorem back_tb (t : Nat → Nat) {v : Nat} (hv : v < 256) : tbN (backL t) v = lastX t v 256 := by
  unfold tbN backL
  rw [List.getD_eq_getElem?_getD, List.getElem?_map, List.getElem?_range hv]
  show (UInt8.ofNat (lastX t v 256)).toNat = _
  exact u8_nat (last_lt t v (Nat.le_refl _))
theorem diff_turned {t : Nat → Nat} (h : onceB t = true) (ht : ∀ x, t x < 256) {a c : Nat} (ha : a < 256) (hc : c < 256) : diffS (tbN (backL t)) c a = diffS t a c := by
  rw [diff_back (t := t) (u := tbN (backL t)) (fun x _ => ht x) (fun x _ => tbN_lt _ x) (fun x hx => by rw [back_tb t (ht x), inv_back h ht hx]) (fun x hx => by rw [back_tb t hx, inv_there h hx]) ha hc]
theorem lin_turned {t : Nat → Nat} (h : onceB t = true) (ht : ∀ x, t x < 256) (a b : Nat) : linS (tbN (backL t)) b a = linS t a b := by
  rw [lin_back (t := t) (u := tbN (backL t)) (fun x _ => ht x) (fun x _ => tbN_lt _ x) (fun x hx => by rw [back_tb t (ht x), inv_back h ht hx]) (fun x hx => by rw [back_tb t hx, inv_there h hx]) a b]
theorem sum_le (t : Nat → Nat) (a : Nat) (k : Nat) : sm (fun c => diffS t a c) k ≤ 256 * k := by
  induction k with
  | zero => simp [sm]
  | succ k ih => rw [sm]; have : diffS t a k ≤ 256 := ct_le _ _; omega
end Go.Proofs.Ytdbledfpphkppab
/- SboxSums, walked. -/
namespace Go.Proofs.Ytdbledfpphkppab
open Go.RowKit
set_option linter.unusedVariables false

theorem rowB_of_made {w : World} {base g : Nat} (h : w.ownsRow base 5 1 (.slice (some ⟨g, 0, none⟩) 256 256) 256 (madeCells (Value.cells (.int .u8 0)) (256 * 1)).toList) : RowZ w g .u8 256 5 (fun _ => 0) := by
  have := row_full h
  rw [Nat.mul_one, show Value.cells (.int .u8 0) = #[.int .u8 0] from rfl, toList_madeCells_one] at this
  unfold RowZ rowZ
  rw [this, show (List.range 256).map (fun _ => Value.int .u8 0) = List.replicate 256 (Value.int .u8 0) from map_same 256 _]
theorem back_by {w : World} {g : Nat} {t : Nat → Nat} (h : RowZ w g .u8 256 5 (fun v => (lastX t v 256 : Int))) : ByAt w (.slice (some ⟨g, 0, none⟩) 256 256) (backL t) := by
  refine .inr ⟨g, 0, 256, by rw [back_len], h.lt, fun j hj => ?_⟩
  rw [back_len] at hj
  rw [Nat.zero_add, h.cell hj]
  show _ = some (Value.int .u8 (tbN (backL t) j : Int))
  rw [back_tb t hj]
set_option maxRecDepth 100000 in
set_option maxHeartbeats 800000 in
theorem sums_out (x y : UInt8) (l : List UInt8) (hl : l.length ≠ 256) (v : Value) (w : World) (hv : ByAt w v l) : Calls Try.prog 3 #[.int .u8 (x.toNat : Int), .int .u8 (y.toNat : Int), v] w fun e w' => e = .returned (.bool true) ∧ Below w.heap.size w w' := by
  have HA := hidD (fun w => alive_any w)
  have H1 := hidD (fun w v h => pDiff_out l hl x y v w h)
  have HV := hidD hv
  obtain ⟨a', cap, rfl, _⟩ := hv.shape
  have h1 : ¬ (l.length : Int) = 256 := by omega
  have h2 : ((l.length : Int) == 256) = false := by simpa using h1
  generalize l.length = n at *
  clear hl hv
  go_enter Try.func3, Try.ntmps3
  go_wp2_with (first
    | (go_at_call 4; refine (HA.out _).mono ?_; rintro e w0 ⟨rfl, hb0⟩; have HB0 := hidD hb0; have HV0 := hidD (HV.out.next hb0); clear hb0)
    | (go_at_call 5; refine (H1.out _ _ HV0.out).mono ?_; rintro e w1 ⟨rfl, hb1⟩; have HB1 := hidD (Below.next HB0.out hb1); clear hb1))
  go_ret
  exact ⟨rfl, HB1.out⟩
set_option maxRecDepth 100000 in
set_option maxHeartbeats 1600000 in
theorem sums_any (x y : UInt8) (l : List UInt8) (hl : l.length = 256) (v : Value) (w : World) (hv : ByAt w v l) : Calls Try.prog 3 #[.int .u8 (x.toNat : Int), .int .u8 (y.toNat : Int), v] w fun e w' => e = .returned (.bool true) ∧ Below w.heap.size w w' := by
  have HA := hidD (fun w => alive_any w)
  have HD : Hid (∀ k : Nat, k < 256 → ∀ w v, ByAt w v l → Calls Try.prog 5 #[v, .int .u8 (x.toNat : Int), .int .u8 (k : Int)] w fun e w' => e = .returned (.tuple #[.int .i64 (diffS (tbN l) x.toNat k : Nat), .int .i64 0]) ∧ Below w.heap.size w w') := fun k hk w v h => by
    have := pDiff_any l hl x (UInt8.ofNat k) v w h
    rw [u8_nat hk] at this; exact this
  have HC := hidD (fun w v h => pCyc_any l hl v w h)
  have HN := hidD (fun w v h => pDiff_any l hl x y v w h)
  have HK := hidD (fun w v h => pLines_any l hl x y v w h)
  have HM := hidD (fun w v h => pDiff_any (backL (tbN l)) (back_len _) y x v w h)
  have HLB := hidD (fun w v h => pLines_any (backL (tbN l)) (back_len _) y x v w h)
  have HTD := hidD (fun h => diff_turned (t := tbN l) h (tbN_lt l) x.toNat_lt y.toNat_lt)
  have HTL := hidD (fun h => lin_turned (t := tbN l) h (tbN_lt l) x.toNat y.toNat)
  have HALL := hidD (diff_all (tbN l) (fun z _ => tbN_lt l z) x.toNat_lt)
  have HSL := hidD (fun k => sum_le (tbN l) x.toNat k)
  have HDL : Hid (∀ k, diffS (tbN l) x.toNat k ≤ 256) := fun k => ct_le _ _
  have HV := hidD hv
  obtain ⟨a', cap, rfl, hsh⟩ := hv.shape
  obtain ⟨gt, ot, rfl, hgt, hc0⟩ := hsh 0 (by omega)
  clear hc0
  have HGT := hidD hgt
  have HTC : Hid (∀ wr, Below w.heap.size w wr → ∀ z, z < 256 → wr.cell? ⟨gt, ot + z, none⟩ = some (.int .u8 (tbN l z : Int))) := fun wr hb z hz => by
    obtain ⟨g, o, he, _, hc⟩ := tab_cell0 hv hl hb hz
    cases he; exact hc
  have HTLT := hidD (fun z => tbN_lt l z)
  rw [hl] at *
  obtain ⟨i0, hi, hz0, hz1, hz2⟩ := info_parts Try.info5
  clear hv hl hsh hgt
  generalize hBL : backL (tbN l) = BL at *
  have HBLE := hidD hBL
  clear hBL
  generalize hTT : tbN l = t at *
  clear hTT
  generalize x.toNat = X at *
  generalize y.toNat = Y at *
  go_enter Try.func3, Try.ntmps3
  go_wp2_with (go_at_call 4; refine (HA.out _).mono ?_; rintro e w0 ⟨rfl, hb0⟩; have HB0 := hidD hb0; have HV0 := hidD (HV.out.next hb0); clear hb0)
  go_loopw [9, 10] (fun s i wr => ∃ k : Nat, k ≤ 256 ∧ i = .int .i64 k ∧ s = .int .i64 ((sm (fun c => diffS t X c) k : Nat) : Int) ∧ Below w0.heap.size w0 wr) (fun _ i _ => 256 - (intOf i).toNat)
  case atStart => exact ⟨0, Nat.zero_le _, rfl, rfl, Below.refl _ _⟩
  case round =>
    obtain ⟨k, hk, rfl, rfl, hbel⟩ := hrel
    have HBL := hidD hbel
    by_cases hlt : k < 256
    · have hlti : (k : Int) < 256 := by omega
      have HDK := hidD (HD.out k hlt wr _ (HV0.out.next hbel))
      have HSU : Hid (sm (fun c => diffS t X c) (k + 1) = sm (fun c => diffS t X c) k + diffS t X k) := rfl
      have hs1 := HSL.out k
      have hs2 := HDL.out k
      generalize diffS t X k = D at *
      generalize sm (fun c => diffS t X c) k = S at *
      clear hbel
      go_wp2_with (go_at_call 5; refine HDK.out.mono ?_; rintro e w1 ⟨rfl, hb1⟩; have HB1 := hidD (Below.next HBL.out hb1); clear hb1)
      go_roundw
      case rel => exact ⟨k + 1, by omega, by go_num, by rw [HSU.out]; go_num, HB1.out⟩
      case measure => simp [intOf]; omega
    · obtain rfl : k = 256 := by omega
      rw [HALL.out]
      have HVW := hidD (HV0.out.next hbel)
      have HBW := hidD (Below.next HB0.out hbel)
      clear hbel
      cases hon : onceB t with
      | false =>
        have HC2 : Hid (Calls Try.prog 6 #[.slice (some ⟨gt, ot, none⟩) 256 cap] wr fun e w' => e = .returned (.tuple #[.slice none 0 0, .int .i64 1]) ∧ Below wr.heap.size wr w') := by
          refine (HC.out _ _ HVW.out).mono ?_
          rintro e w' ⟨⟨h1, _⟩ | ⟨_, rfl⟩, hb⟩
          · rw [hon] at h1; cases h1
          · exact ⟨rfl, hb⟩
        clear hon
        go_wp2_with (go_at_call 6; refine HC2.out.mono ?_; rintro e w2 ⟨rfl, hb2⟩; have HB2 := hidD (Below.next HBW.out hb2); clear hb2)
        go_ret
        exact ⟨rfl, HB2.out⟩
      | true =>
        have HC2 : Hid (Calls Try.prog 6 #[.slice (some ⟨gt, ot, none⟩) 256 cap] wr fun e w' => ∃ vo, e = .returned (.tuple #[vo, .int .i64 0]) ∧ Below wr.heap.size wr w') := by
          refine (HC.out _ _ HVW.out).mono ?_
          rintro e w' ⟨⟨_, vo, rfl, _⟩ | ⟨h1, _⟩, hb⟩
          · exact ⟨vo, rfl, hb⟩
          · rw [hon] at h1; cases h1
        have HTD2 := hidD (HTD.out hon)
        have HTL2 := hidD (HTL.out hon)
        clear hon
        go_wp2_with (first
          | (go_at_call 6; refine HC2.out.mono ?_; rintro e w2 ⟨vo, rfl, hb2⟩; have HB2 := hidD (Below.next HBW.out hb2); have HV2 := hidD (HVW.out.next hb2); clear hb2)
          | (at_make; refine wpList_make_full _ rfl _ _ 22 rfl w2.heap.size 5 i0 (.int .u8 0) 1 Try.underlying22 hi hz0 hz1 _ _ _ _ 256 rfl rfl rfl rfl (by rw [hz2]; omega) (by unfold maxLen; omega) (Nat.le_refl _) ?_; intro w3 hown3 hg3; have HR3 := hidD (rowB_of_made hown3); have HB3 : Hid (Below w2.heap.size w2 w3) := ((Below.refl w2.heap.size w2).grown hg3 (Nat.le_refl _) (fun k hk => by cases hk)); clear hown3 hg3))
        have HV3 := hidD (HV2.out.next HB3.out)
        have HB4 := hidD (Below.next HB2.out HB3.out)
        have HGE := hidD HB2.out.size
        generalize hg : w2.heap.size = g at *
        clear hg
        go_loopw [16] (fun i wr' => ∃ k : Nat, k ≤ 256 ∧ i = .int .i64 k ∧ RowZ wr' g .u8 256 5 (fun v => (lastX t v k : Int)) ∧ But g w3 wr') (fun i _ => 256 - (intOf i).toNat)
        case atStart => exact ⟨0, Nat.zero_le _, rfl, HR3.out, But.refl _ _⟩
        case round =>
          obtain ⟨k, hk, rfl, hrow, hbut⟩ := hrel
          have HBU := hidD hbut
          have HRW := hidD hrow
          have hbel : Below w.heap.size w wr := HB4.out.trans (hbut.bel.mono HGE.out)
          by_cases hlt : k < 256
          · have hlti : (k : Int) < 256 := by omega
            have hcell := HTC.out wr hbel k hlt
            have hT := HTLT.out k
            have hco : wr.cell? ⟨g, t k, none⟩ = some (.int .u8 (lastX t (t k) k : Int)) := hrow.cell hT
            have hfo := hrow.frozen (t k)
            have HST : Hid (RowZ (wr.setCell ⟨g, t k, none⟩ (.int .u8 (k : Int))) g .u8 256 5 (fun v => (lastX t v (k + 1) : Int))) :=
              (hrow.set hT _).congr fun j _ => by
                rw [lastX]
                by_cases he : j = t k
                · rw [if_pos he, if_pos he.symm]
                · rw [if_neg he, if_neg (fun h => he h.symm)]
            have HSB := hidD (hbut.put (t k) (.int .u8 (k : Int)))
            generalize (lastX t (t k) k : Int) = old at *
            generalize t k = T at *
            have hTi : (T : Int) < 256 := by omega
            clear hbel hrow hbut
            go_wp2_with fail
            go_roundw
            case rel => exact ⟨k + 1, by omega, by go_num, HST.out, HSB.out⟩
            case measure => simp [intOf]; omega
          · obtain rfl : k = 256 := by omega
            have HVA : Hid (ByAt wr (.slice (some ⟨gt, ot, none⟩) 256 cap) l) := HV.out.next hbel
            have HVB : Hid (ByAt wr (.slice (some ⟨g, 0, none⟩) 256 256) BL) := by rw [← HBLE.out]; exact back_by hrow
            have HBA := hidD hbel
            clear hbel hrow hbut
            have h1 := HTD2.out
            have h2 := HTL2.out
            rw [h1] at HM
            rw [h2] at HLB
            generalize diffS t X Y = D at *
            generalize (linS t X Y : Int) - 128 = K at *
            go_wp2_with (first
              | (go_at_call 5; refine (HN.out _ _ HVA.out).mono ?_; rintro e w5 ⟨rfl, hb5⟩; have HB5 := hidD (Below.next HBA.out hb5); have HVA5 := hidD (HVA.out.next hb5); have HVB5 := hidD (HVB.out.next hb5); clear hb5 HN)
              | (go_at_call 5; refine (HM.out _ _ HVB5.out).mono ?_; rintro e w6 ⟨rfl, hb6⟩; have HB6 := hidD (Below.next HB5.out hb6); have HVA6 := hidD (HVA5.out.next hb6); have HVB6 := hidD (HVB5.out.next hb6); clear hb6 HM)
              | (go_at_call 7; refine (HK.out _ _ HVA6.out).mono ?_; rintro e w7 ⟨rfl, hb7⟩; have HB7 := hidD (Below.next HB6.out hb7); have HVB7 := hidD (HVB6.out.next hb7); clear hb7 HK)
              | (go_at_call 7; refine (HLB.out _ _ HVB7.out).mono ?_; rintro e w8 ⟨rfl, hb8⟩; have HB8 := hidD (Below.next HB7.out hb8); clear hb8))
            go_ret
            exact ⟨rfl, HB8.out⟩
end Go.Proofs.Ytdbledfpphkppab
/- SboxSums, at numbers. -/
namespace Go.Proofs.Ytdbledfpphkppab
open Go.RowKit
theorem sums_nat (x y : Nat) (hx : x < 256) (hy : y < 256) (l : List UInt8) (v : Value) (w : World) (hv : ByAt w v l) : Calls Try.prog 3 #[.int .u8 (x : Int), .int .u8 (y : Int), v] w fun e w' => e = .returned (.bool true) ∧ Below w.heap.size w w' := by
  by_cases hl : l.length = 256
  · have := sums_any (UInt8.ofNat x) (UInt8.ofNat y) l hl v w hv
    rw [u8_nat hx, u8_nat hy] at this; exact this
  · have := sums_out (UInt8.ofNat x) (UInt8.ofNat y) l hl v w hv
    rw [u8_nat hx, u8_nat hy] at this; exact this
end Go.Proofs.Ytdbledfpphkppab
