/- What the document's Uniform answers. -/
import Derived.Test.YtdbledfpphkppaaRwz
namespace Go.Proofs.Ytdbledfpphkppaa
open Go.RowKit
set_option linter.unusedVariables false

theorem refUni_out (l : List UInt8) (hl : l.length ≠ 256) (v : Value) (w : World) (hv : ByAt w v l) : Calls Try.prog 34 #[v] w fun e w' => e = .returned (.tuple #[.int .i64 0, .int .i64 91]) ∧ w' = w := by
  obtain ⟨a', cap, rfl, _⟩ := hv.shape
  have h1 : ¬ (l.length : Int) = 256 := by omega
  have h2 : ((l.length : Int) == 256) = false := by simpa using h1
  generalize l.length = n at *
  clear hl hv
  go_enter Try.func34, Try.ntmps34
  go_wp2_with fail
  refine bodyPost_ret (v := .tuple #[.int .i64 0, .int .i64 91]) (by simp [results, Try.results34, go_sem]) rfl ?_
  exact ⟨rfl, rfl⟩
/- the greatest count, as the counts grow -/
def cD (t : Nat → Nat) (a k d : Nat) : Nat := ct (fun x => t x ^^^ t (x ^^^ a) == d) k
theorem mx_ge {f g : Nat → Nat} : ∀ {n : Nat}, (∀ x, x < n → f x ≤ g x) → mx f n ≤ mx g n
  | 0, _ => Nat.le_refl _
  | n + 1, h => mx_le fun x hx => Nat.le_trans (h x hx) (le_mx hx)
theorem mx_step (t : Nat → Nat) (a k : Nat) (hd : t k ^^^ t (k ^^^ a) < 256) : mx (cD t a (k + 1)) 256 = max (mx (cD t a k) 256) (cD t a (k + 1) (t k ^^^ t (k ^^^ a))) := by
  apply Nat.le_antisymm
  · refine mx_le fun d hdl => ?_
    by_cases h : t k ^^^ t (k ^^^ a) = d
    · subst h; exact Nat.le_max_right _ _
    · refine Nat.le_trans ?_ (Nat.le_max_left _ _)
      have : cD t a (k + 1) d = cD t a k d := by
        unfold cD; rw [ct_succ, show (t k ^^^ t (k ^^^ a) == d) = false by simpa using h]; rfl
      rw [this]; exact le_mx hdl
  · refine Nat.max_le.2 ⟨mx_ge fun d _ => ?_, le_mx hd⟩
    unfold cD; rw [ct_succ]; omega
theorem mx_zero (t : Nat → Nat) (a : Nat) : mx (cD t a 0) 256 = 0 := Nat.le_antisymm (mx_le fun d _ => Nat.le_refl _) (Nat.zero_le _)
def bestS (t : Nat → Nat) (j : Nat) : Nat := mx (fun a => mx (fun c => diffS t (a + 1) c) 256) j
theorem best_succ (t : Nat → Nat) (j : Nat) : bestS t (j + 1) = max (bestS t j) (mx (cD t (j + 1) 256) 256) := rfl
theorem best_le (t : Nat → Nat) (j : Nat) : bestS t j ≤ 256 := mx_le fun a _ => mx_le fun c _ => ct_le _ _
theorem cD_le (t : Nat → Nat) (a k d : Nat) : cD t a k d ≤ k := ct_le _ _
theorem Try.zero60 : (Try.prog.info? 60).map (fun i => (i.zero, i.size)) = some (some (.agg (rowZ .i64 256 (fun _ => 0))), 256) := by kernel_rfl

set_option maxRecDepth 100000 in
set_option maxHeartbeats 800000 in
theorem refUni_any (l : List UInt8) (hl : l.length = 256) (v : Value) (w : World) (hv : ByAt w v l) : Calls Try.prog 34 #[v] w fun e w' => e = .returned (.tuple #[.int .i64 (uniS (tbN l) : Nat), .int .i64 0]) ∧ Below w.heap.size w w' := by
  obtain ⟨a', cap, rfl, _⟩ := hv.shape
  have HTC := hidD (fun wr (hb : Below w.heap.size w wr) x (hx : x < 256) => tab_cells hv hl hb hx)
  have HR : Hid (uniS (tbN l) = bestS (tbN l) 255) := rfl
  have HL := hidD (fun x => tbN_lt l x)
  rw [hl] at *
  generalize uniS (tbN l) = R at *
  clear hv hl
  generalize tbN l = t at *
  obtain ⟨hz, hsz⟩ := zero_of_info Try.zero60
  go_enter Try.func34, Try.ntmps34
  go_wp2_with fail
  go_loopw [4, 5] (fun b i wr => ∃ k : Nat, k ≤ 255 ∧ i = .int .i64 (k + 1 : Nat) ∧ b = .int .i64 ((bestS t k : Nat) : Int) ∧ Below w.heap.size w wr) (fun _ i _ => 256 - (intOf i).toNat)
  case atStart => exact ⟨0, Nat.zero_le _, rfl, rfl, Below.refl _ _⟩
  case round =>
    obtain ⟨j, hj, rfl, rfl, hbel⟩ := hrel
    have HBL := hidD hbel
    by_cases hlt : j < 255
    · have hlti : ((j + 1 : Nat) : Int) < 256 := by omega
      have hA : j + 1 < 256 := by omega
      have HBS := hidD (best_succ t j)
      have HLE := hidD (best_le t j)
      generalize hA' : j + 1 = A at *
      have HA := hidD hA'
      clear hA' hbel
      go_wp2_with fail
      have HRZ := hidD (RowZ.new wr .i64 256 60 (fun _ => 0))
      have HB1 : Hid (Below w.heap.size w (wr.alloc (.cells (rowZ .i64 256 (fun _ => 0)) 60))) := HBL.out.alloc HBL.out.size _
      have HSZ : Hid (w.heap.size ≤ wr.heap.size) := HBL.out.size
      generalize wr.alloc (.cells (rowZ .i64 256 (fun _ => 0)) 60) = w1 at *
      generalize wr.heap.size = g at *
      go_loopw [4, 7] (fun b i wr => ∃ k : Nat, k ≤ 256 ∧ i = .int .i64 k ∧ b = .int .i64 ((max (bestS t j) (mx (cD t A k) 256) : Nat) : Int) ∧ RowZ wr g .i64 256 60 (fun d => (cD t A k d : Int)) ∧ Below w.heap.size w wr) (fun _ i _ => 256 - (intOf i).toNat)
      case atStart => exact ⟨0, Nat.zero_le _, rfl, by rw [mx_zero, show max (bestS t j) 0 = bestS t j from by omega], HRZ.out, HB1.out⟩
      case round =>
        obtain ⟨k, hk, rfl, rfl, hrow, hbel⟩ := hrel
        have HBL := hidD hbel
        have HRW := hidD hrow
        by_cases hlt : k < 256
        · have hlti : (k : Int) < 256 := by omega
          have hy := xor256 hlt hA
          have hxy := i64_xorN hlt hA
          obtain ⟨g', o, rfl, hg, hc1⟩ := HTC.out wr hbel k hlt
          obtain ⟨g2, o', hgo, hg2, hc2⟩ := HTC.out wr hbel (k ^^^ A) hy
          cases hgo
          have hz : bits .xor .u8 (t k : Int) (t (k ^^^ A) : Int) = ((t k ^^^ t (k ^^^ A) : Nat) : Int) := u8_xor_nat _ _ (HL.out _) (HL.out _)
          have hzl : t k ^^^ t (k ^^^ A) < 256 := xor256 (HL.out _) (HL.out _)
          have hn := cD_le t A k (t k ^^^ t (k ^^^ A))
          have hcc : ∀ n, (wr.drewN n).cell? ⟨g, t k ^^^ t (k ^^^ A), none⟩ = some (.int .i64 (cD t A k (t k ^^^ t (k ^^^ A)) : Int)) := fun n => hrow.cell hzl
          have hfr : ∀ n, (wr.drewN n).frozen? ⟨g, t k ^^^ t (k ^^^ A), none⟩ = false := fun n => hrow.frozen _
          have hce : ∀ n v, ((wr.drewN n).setCell ⟨g, t k ^^^ t (k ^^^ A), none⟩ (.int .i64 v)).cell? ⟨g, t k ^^^ t (k ^^^ A), none⟩ = some (.int .i64 v) := fun n v => by
            have h : RowZ (wr.drewN n) g .i64 256 60 (fun d => (cD t A k d : Int)) := hrow
            have := (h.set hzl v).cell hzl
            simpa using this
          have HC1 : Hid (cD t A (k + 1) (t k ^^^ t (k ^^^ A)) = cD t A k (t k ^^^ t (k ^^^ A)) + 1) := by
            show _ = _; unfold cD; rw [ct_succ]; simp
          have HC2 : Hid (∀ d, d ≠ t k ^^^ t (k ^^^ A) → cD t A (k + 1) d = cD t A k d) := fun d hd => by
            unfold cD; rw [ct_succ, show (t k ^^^ t (k ^^^ A) == d) = false by simpa using fun h => hd h.symm]; rfl
          have HMX := hidD (mx_step t A k hzl)
          have hbl : max (bestS t j) (mx (cD t A k) 256) ≤ 256 := Nat.max_le.2 ⟨HLE.out, mx_le fun d _ => Nat.le_trans (cD_le t A k d) hk⟩
          have HXX : Hid (max (bestS t j) (mx (cD t A (k + 1)) 256) = max (max (bestS t j) (mx (cD t A k) 256)) (cD t A k (t k ^^^ t (k ^^^ A)) + 1)) := by
            show _ = _; rw [HMX.out, HC1.out]; omega
          have HST : Hid (∀ n, RowZ ((wr.drewN n).setCell ⟨g, t k ^^^ t (k ^^^ A), none⟩ (.int .i64 ((cD t A k (t k ^^^ t (k ^^^ A)) : Int) + 1))) g .i64 256 60 (fun d => (cD t A (k + 1) d : Int))) := fun n => by
            have h : RowZ (wr.drewN n) g .i64 256 60 (fun d => (cD t A k d : Int)) := hrow
            refine (h.set hzl _).congr fun i _ => ?_
            split
            · rename_i he; subst he; rw [HC1.out]; rfl
            · rename_i he; rw [HC2.out i he]
          have HSB : Hid (∀ n v, Below w.heap.size w ((wr.drewN n).setCell ⟨g, t k ^^^ t (k ^^^ A), none⟩ v)) := fun n v => below_setCell (below_drewN hbel n) HSZ.out _ v
          clear HC1 HC2 HMX
          generalize max (bestS t j) (mx (cD t A k) 256) = M at *
          generalize cD t A k (t k ^^^ t (k ^^^ A)) = N at *
          generalize t k ^^^ t (k ^^^ A) = Z at *
          generalize (t k : Int) = X at *
          generalize (t (k ^^^ A) : Int) = Y at *
          generalize k ^^^ A = y at *
          clear hbel hrow
          go_wp2_with fail
          go_quiet (fail)
          go_wp2_with fail
          go_roundw
          case rel => exact ⟨k + 1, by omega, by go_num, by rw [HXX.out]; congr 1; omega, HST.out _, HSB.out _ _⟩
          case measure => simp [intOf]; omega
        · obtain rfl : k = 256 := by omega
          have HBB : Hid ((max (bestS t j) (mx (cD t A 256) 256) : Nat) = bestS t A) := by show _ = _; rw [← HA.out]; rfl
          rw [HBB.out]
          clear hbel hrow
          have hA2 := HA.out
          generalize hbs : bestS t A = M at *
          have HM := hidD hbs
          clear hbs
          go_wp2_with fail
          go_roundw
          case rel => exact ⟨A, by omega, by go_num, by rw [HM.out], HBL.out⟩
          case measure => simp [intOf]; omega
    · obtain rfl : j = 255 := by omega
      rw [← HR.out]
      clear hbel
      go_wp2_with fail
      refine bodyPost_ret (v := .tuple #[.int .i64 (R : Int), .int .i64 0]) (by simp [results, Try.results34, go_sem]) rfl ?_
      exact ⟨rfl, HBL.out⟩
end Go.Proofs.Ytdbledfpphkppaa
