/- What the document's Linear answers. -/
import Derived.Test.YtdbledfpphkppaaRf5
import Derived.Test.YtdbledfpphkppaaWht
namespace Go.Proofs.Ytdbledfpphkppaa
open Go.RowKit
set_option linter.unusedVariables false

theorem refLin_out (l : List UInt8) (hl : l.length ≠ 256) (v : Value) (w : World) (hv : ByAt w v l) : Calls Try.prog 36 #[v] w fun e w' => e = .returned (.tuple #[.int .i64 0, .int .i64 91]) ∧ w' = w := by
  obtain ⟨a', cap, rfl, _⟩ := hv.shape
  have h1 : ¬ (l.length : Int) = 256 := by omega
  have h2 : ((l.length : Int) == 256) = false := by simpa using h1
  generalize l.length = n at *
  clear hl hv
  go_enter Try.func36, Try.ntmps36
  go_wp2_with fail
  refine bodyPost_ret (v := .tuple #[.int .i64 0, .int .i64 91]) (by simp [results, Try.results36, go_sem]) rfl ?_
  exact ⟨rfl, rfl⟩
def sgS (t : Nat → Nat) (b x : Nat) : Int := 1 - 2 * (parS (t x &&& b) : Int)
theorem sg_bound (t : Nat → Nat) (b x : Nat) : -1 ≤ sgS t b x ∧ sgS t b x ≤ 1 := by have := par_lt (t x &&& b); unfold sgS; omega
def bestL (t : Nat → Nat) (j : Nat) : Nat := mx (fun b => mx (fun a => offS t a (b + 1)) 256) j
theorem off_le (t : Nat → Nat) (a b : Nat) : offS t a b ≤ 128 := by have := ct_le (fun x => parS (x &&& a) == parS (t x &&& b)) 256; unfold offS linS; omega
theorem bestL_le (t : Nat → Nat) (j : Nat) : bestL t j ≤ 128 := mx_le fun a _ => mx_le fun c _ => off_le _ _ _
theorem off_wh (t : Nat → Nat) {a b : Nat} (ha : a < 256) : (max (whS (sgS t b) 8 a) (-whS (sgS t b) 8 a)).tdiv 2 = (offS t a b : Int) := by
  rw [wh_lin (f := sgS t b) (t := t) (b := b) ha (fun x => rfl)]
  unfold offS
  rw [Int.tdiv_eq_ediv_of_nonneg (by omega)]
  omega
theorem pow_i {k : Nat} (hk : k < 8) : (2 ^ k : Nat) < 256 ∧ 0 < (2 ^ k : Nat) := ⟨Nat.lt_of_lt_of_le (Nat.pow_lt_pow_right (by omega) hk) (Nat.le_refl _), Nat.two_pow_pos k⟩
def andP (k i : Nat) : Bool := (i &&& 2 ^ k) == (i.testBit k).toNat * 2 ^ k
theorem and_tab : ((List.range 8).all fun k => (List.range 256).all fun i => andP k i) = true := by decide +kernel
theorem and_bit {i k : Nat} (hk : k < 8) (hi : i < 256) : i &&& 2 ^ k = (i.testBit k).toNat * 2 ^ k := eq_of_beq (List.all_eq_true.1 (List.all_eq_true.1 and_tab k (by simpa using hk)) i (by simpa using hi))
theorem drew_row {w : World} {g n : Nat} {kd : IntKind} {ty : TypeId} {f : Nat → Int} (h : RowZ w g kd n ty f) (m : Nat) : RowZ (w.drewN m) g kd n ty f := h

set_option maxRecDepth 100000 in
set_option maxHeartbeats 1600000 in
theorem refLin_any (l : List UInt8) (hl : l.length = 256) (v : Value) (w : World) (hv : ByAt w v l) : Calls Try.prog 36 #[v] w fun e w' => e = .returned (.tuple #[.int .i64 (strS (tbN l) : Nat), .int .i64 0]) ∧ Below w.heap.size w w' := by
  obtain ⟨a', cap, rfl, _⟩ := hv.shape
  have HTC := hidD (fun wr (hb : Below w.heap.size w wr) x (hx : x < 256) => tab_cells hv hl hb hx)
  have HR : Hid (strS (tbN l) = bestL (tbN l) 255) := rfl
  have HL := hidD (fun x => tbN_lt l x)
  have HPA : Hid (∀ v : Nat, v < 256 → ∀ w, Calls Try.prog 53 #[.int .u8 (v : Int)] w fun e w' => e = .returned (.int .i64 (parS v : Nat)) ∧ w' = w) := fun v hv w => refParity_any v hv w
  rw [hl] at *
  generalize strS (tbN l) = R at *
  clear hv hl
  generalize tbN l = t at *
  obtain ⟨hz, hsz⟩ := zero_of_info Try.zero60
  go_enter Try.func36, Try.ntmps36
  go_wp2_with fail
  go_loopw [4, 5] (fun b i wr => ∃ k : Nat, k ≤ 255 ∧ i = .int .i64 (k + 1 : Nat) ∧ b = .int .i64 ((bestL t k : Nat) : Int) ∧ Below w.heap.size w wr) (fun _ i _ => 256 - (intOf i).toNat)
  case atStart => exact ⟨0, Nat.zero_le _, rfl, rfl, Below.refl _ _⟩
  case round =>
    obtain ⟨j, hj, rfl, rfl, hbel⟩ := hrel
    have HBL := hidD hbel
    by_cases hlt : j < 255
    · have hlti : ((j + 1 : Nat) : Int) < 256 := by omega
      have hA : j + 1 < 256 := by omega
      have HLE := hidD (bestL_le t j)
      generalize hA' : j + 1 = B at *
      have HA := hidD hA'
      have hB0 : (0 : Int) ≤ B := by omega
      clear hA' hbel
      go_wp2_with fail
      have HRZ := hidD (RowZ.new wr .i64 256 60 (fun _ => 0))
      have HB1 : Hid (Below w.heap.size w (wr.alloc (.cells (rowZ .i64 256 (fun _ => 0)) 60))) := HBL.out.alloc HBL.out.size _
      have HSZ : Hid (w.heap.size ≤ wr.heap.size) := HBL.out.size
      generalize wr.alloc (.cells (rowZ .i64 256 (fun _ => 0)) 60) = w1 at *
      generalize wr.heap.size = g at *
      go_loopw [7] (fun i wr => ∃ k : Nat, k ≤ 256 ∧ i = .int .i64 k ∧ RowZ wr g .i64 256 60 (fun x => if x < k then sgS t B x else 0) ∧ Below w.heap.size w wr) (fun i _ => 256 - (intOf i).toNat)
      case atStart => exact ⟨0, Nat.zero_le _, rfl, HRZ.out, HB1.out⟩
      case round =>
        obtain ⟨k, hk, rfl, hrow, hbel⟩ := hrel
        have HBL := hidD hbel
        by_cases hlt : k < 256
        · have hlti : (k : Int) < 256 := by omega
          obtain ⟨g', o, rfl, hg, hc1⟩ := HTC.out wr hbel k hlt
          have hc1 : wr.cell? ⟨g', o + k, none⟩ = some (.int .u8 (t k : Int)) := hc1 0
          have hz2 := u8_andN (HL.out k) hA
          have hy : t k &&& B < 256 := and256 hA
          have hcc := hrow.cell hlt
          have hfr := hrow.frozen k
          have HP := hidD (HPA.out (t k &&& B) hy)
          have hpl := par_lt (t k &&& B)
          have HST : Hid (RowZ (wr.setCell ⟨g, k, none⟩ (.int .i64 (1 - 2 * (parS (t k &&& B) : Int)))) g .i64 256 60 (fun x => if x < k + 1 then sgS t B x else 0)) := by
            refine (hrow.set hlt _).congr fun i hi => ?_
            by_cases he : i = k
            · subst he; rw [if_pos rfl, if_pos (by omega)]; rfl
            · rw [if_neg he]
              by_cases h2 : i < k
              · rw [if_pos h2, if_pos (by omega)]
              · rw [if_neg h2, if_neg (by omega)]
          have HSB : Hid (∀ v, Below w.heap.size w (wr.setCell ⟨g, k, none⟩ v)) := fun v => below_setCell hbel HSZ.out _ v
          generalize parS (t k &&& B) = p at *
          generalize ((t k &&& B : Nat) : Int) = y at *
          generalize (t k : Int) = X at *
          clear hbel hrow
          go_wp2_with (go_at_call 53; refine (HP.out _).mono ?_; rintro e w2 ⟨rfl, rfl⟩; clear HP)
          go_roundw
          case rel => exact ⟨k + 1, by omega, by go_num, HST.out, HSB.out _⟩
          case measure => simp [intOf]; omega
        · obtain rfl : k = 256 := by omega
          have HRW : Hid (RowZ wr g .i64 256 60 (whS (sgS t B) 0)) := hrow.congr fun i hi => by rw [if_pos hi]; rfl
          clear hrow hbel
          go_wp2_with fail
          go_loopw [8] (fun h wr => ∃ k : Nat, k ≤ 8 ∧ h = .int .i64 (2 ^ k : Nat) ∧ RowZ wr g .i64 256 60 (whS (sgS t B) k) ∧ Below w.heap.size w wr) (fun h _ => 512 - (intOf h).toNat)
          case atStart => exact ⟨0, Nat.zero_le _, rfl, HRW.out, HBL.out⟩
          case round =>
            obtain ⟨k, hk, rfl, hrow, hbel⟩ := hrel
            have HBL := hidD hbel
            have HRW := hidD hrow
            clear hrow hbel
            by_cases hlt : k < 8
            · have hp := pow_i hlt
              have hlti : ((2 ^ k : Nat) : Int) < 256 := by omega
              have HPW : Hid (2 ^ (k + 1) = 2 ^ k * 2) := Nat.pow_succ 2 k
              generalize hH : 2 ^ k = H at *
              have HH := hidD hH
              clear hH
              go_wp2_with fail
              go_loopw [9] (fun i wr => ∃ m : Nat, m ≤ 256 ∧ i = .int .i64 m ∧ RowZ wr g .i64 256 60 (midS (sgS t B) k m) ∧ Below w.heap.size w wr) (fun i _ => 256 - (intOf i).toNat)
              case atStart => exact ⟨0, Nat.zero_le _, rfl, HRW.out.congr fun i _ => (mid_zero _ _ _).symm, HBL.out⟩
              case round =>
                obtain ⟨m, hm, rfl, hrow, hbel⟩ := hrel
                have HBL := hidD hbel
                by_cases hlm : m < 256
                · have hlmi : (m : Int) < 256 := by omega
                  have hand : bits .and .i64 (m : Int) (H : Int) = (((m.testBit k).toNat * H : Nat) : Int) := by
                    rw [i64_and_nat m H (by omega) (by omega), ← HH.out, and_bit hlt hlm]
                  cases hbit : m.testBit k
                  · rw [hbit] at hand
                    have hand0 : bits .and .i64 (m : Int) (H : Int) = 0 := by rw [hand]; simp
                    have hbl := bit_low hlt hlm hbit
                    rw [HH.out] at hbl
                    have hsum : m + H < 256 := hbl.1
                    have hca : ∀ n, (wr.drewN n).cell? ⟨g, m, none⟩ = some (.int .i64 (whS (sgS t B) k m)) := fun n => by rw [← mid_a (sgS t B) hbit]; exact hrow.cell hlm
                    have hcb : ∀ n, (wr.drewN n).cell? ⟨g, m + H, none⟩ = some (.int .i64 (whS (sgS t B) k (m + H))) := fun n => by
                      have := mid_b (sgS t B) hlt hlm hbit
                      rw [HH.out] at this
                      rw [← this]; exact hrow.cell hsum
                    have hfa : ∀ n, (wr.drewN n).frozen? ⟨g, m, none⟩ = false := fun n => hrow.frozen m
                    have hcb2 : ∀ n v, ((wr.drewN n).setCell ⟨g, m, none⟩ (.int .i64 v)).cell? ⟨g, m + H, none⟩ = some (.int .i64 (midS (sgS t B) k m (m + H))) := fun n v => by
                      have := ((drew_row hrow n).set hlm v).cell hsum
                      rw [if_neg (by omega)] at this; exact this
                    have hfb2 : ∀ n v, ((wr.drewN n).setCell ⟨g, m, none⟩ (.int .i64 v)).frozen? ⟨g, m + H, none⟩ = false := fun n v => ((drew_row hrow n).set hlm v).frozen _
                    have hba := wh_bound (sg_bound t B) k m
                    have hbb := wh_bound (sg_bound t B) k (m + H)
                    have hPc : (2 ^ k : Int) = (H : Int) := by rw [← HH.out]; simp
                    rw [hPc] at hba hbb
                    have HST : Hid (∀ n, RowZ (((wr.drewN n).setCell ⟨g, m, none⟩ (.int .i64 (whS (sgS t B) k m + whS (sgS t B) k (m + H)))).setCell ⟨g, m + H, none⟩ (.int .i64 (whS (sgS t B) k m - whS (sgS t B) k (m + H)))) g .i64 256 60 (midS (sgS t B) k (m + 1))) := fun n => by
                      refine (((drew_row hrow n).set hlm _).set hsum _).congr fun i hi => ?_
                      have := mid_put (sgS t B) hlt hlm hbit hi
                      rw [HH.out] at this
                      exact this
                    have HSB : Hid (∀ n v v', Below w.heap.size w (((wr.drewN n).setCell ⟨g, m, none⟩ v).setCell ⟨g, m + H, none⟩ v')) := fun n v v' => below_setCell (below_setCell (below_drewN hbel n) HSZ.out _ v) HSZ.out _ v'
                    generalize midS (sgS t B) k m (m + H) = old at *
                    generalize whS (sgS t B) k m = a at *
                    generalize whS (sgS t B) k (m + H) = b at *
                    clear hand hbit hbl hrow hbel hPc
                    go_wp2_with fail
                    go_quiet (fail)
                    go_wp2_with fail
                    go_roundw
                    case rel => exact ⟨m + 1, by omega, by go_num, HST.out _, HSB.out _ _ _⟩
                    case measure => simp [intOf]; omega
                  · rw [hbit] at hand
                    have hand0 : bits .and .i64 (m : Int) (H : Int) = (H : Int) := by rw [hand]; simp
                    have hne : ¬ (H : Int) = 0 := by omega
                    have hnb : ((H : Int) == 0) = false := by simpa using hne
                    have HST : Hid (RowZ wr g .i64 256 60 (midS (sgS t B) k (m + 1))) := hrow.congr fun i hi => (mid_skip (sgS t B) hlt hlm hbit hi).symm
                    clear hand hbit hrow hbel
                    go_wp2_with fail
                    go_roundw
                    case rel => exact ⟨m + 1, by omega, by go_num, HST.out, HBL.out⟩
                    case measure => simp [intOf]; omega
                · obtain rfl : m = 256 := by omega
                  have HRN : Hid (RowZ wr g .i64 256 60 (whS (sgS t B) (k + 1))) := hrow.congr fun i hi => mid_all _ _ hi
                  clear hrow hbel
                  go_wp2_with fail
                  go_roundw
                  case rel => exact ⟨k + 1, by omega, by rw [HPW.out]; go_num, HRN.out, HBL.out⟩
                  case measure => simp [intOf]; omega
            · obtain rfl : k = 8 := by omega
              go_wp2_with fail
              go_loopw [4, 12] (fun b i wr => ∃ m : Nat, m ≤ 256 ∧ i = .int .i64 m ∧ b = .int .i64 ((max (bestL t j) (mx (fun a => offS t a B) m) : Nat) : Int) ∧ RowZ wr g .i64 256 60 (whS (sgS t B) 8) ∧ Below w.heap.size w wr) (fun _ i _ => 256 - (intOf i).toNat)
              case atStart => exact ⟨0, Nat.zero_le _, rfl, by rw [mx, show max (bestL t j) 0 = bestL t j from by omega], HRW.out, HBL.out⟩
              case round =>
                obtain ⟨m, hm, rfl, rfl, hrow, hbel⟩ := hrel
                have HBL := hidD hbel
                have HRW := hidD hrow
                by_cases hlm : m < 256
                · have hlmi : (m : Int) < 256 := by omega
                  have hca : ∀ n, (wr.drewN n).cell? ⟨g, m, none⟩ = some (.int .i64 (whS (sgS t B) 8 m)) := fun n => hrow.cell hlm
                  have hba := wh_bound (sg_bound t B) 8 m
                  rw [show (2 ^ 8 : Int) = 256 from rfl] at hba
                  have hof := off_wh t (b := B) hlm
                  have hof2 : max (whS (sgS t B) 8 m) (-whS (sgS t B) 8 m) / 2 = (offS t m B : Int) := by rw [← Int.tdiv_eq_ediv_of_nonneg (by omega)]; exact hof
                  have hol := off_le t m B
                  have hbl : max (bestL t j) (mx (fun a => offS t a B) m) ≤ 128 := Nat.max_le.2 ⟨HLE.out, mx_le fun d _ => off_le t d B⟩
                  have HXX : Hid (max (bestL t j) (mx (fun a => offS t a B) (m + 1)) = max (max (bestL t j) (mx (fun a => offS t a B) m)) (offS t m B)) := by
                    show max (bestL t j) (Nat.max (mx (fun a => offS t a B) m) (offS t m B)) = _
                    exact (Nat.max_assoc _ _ _).symm
                  generalize max (bestL t j) (mx (fun a => offS t a B) m) = M at *
                  generalize offS t m B = O at *
                  generalize whS (sgS t B) 8 m = a at *
                  clear hbel hrow
                  go_wp2_with fail
                  go_quiet (fail)
                  go_wp2_with fail
                  go_roundw
                  case rel => exact ⟨m + 1, by omega, by go_num, by rw [HXX.out]; congr 1; omega, HRW.out, below_drewN HBL.out _⟩
                  case measure => simp [intOf]; omega
                · obtain rfl : m = 256 := by omega
                  have HBB : Hid ((max (bestL t j) (mx (fun a => offS t a B) 256) : Nat) = bestL t B) := by show _ = _; rw [← HA.out]; rfl
                  rw [HBB.out]
                  clear hbel hrow
                  have hA2 := HA.out
                  generalize hbs : bestL t B = M at *
                  have HM := hidD hbs
                  clear hbs
                  go_wp2_with fail
                  go_roundw
                  case rel => exact ⟨B, by omega, by go_num, by rw [HM.out], HBL.out⟩
                  case measure => simp [intOf]; omega
    · obtain rfl : j = 255 := by omega
      rw [← HR.out]
      clear hbel
      go_wp2_with fail
      refine bodyPost_ret (v := .tuple #[.int .i64 (R : Int), .int .i64 0]) (by simp [results, Try.results36, go_sem]) rfl ?_
      exact ⟨rfl, HBL.out⟩
end Go.Proofs.Ytdbledfpphkppaa
