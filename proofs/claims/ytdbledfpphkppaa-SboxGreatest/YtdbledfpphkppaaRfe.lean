/- What the document's Cycles answers. -/
import Derived.Test.YtdbledfpphkppaaFal
import Derived.Test.YtdbledfpphkppaaCyp
namespace Go.Proofs.Ytdbledfpphkppaa
open Go.RowKit
set_option linter.unusedVariables false

theorem refCyc_out (l : List UInt8) (hl : l.length ≠ 256) (v : Value) (w : World) (hv : ByAt w v l) : Calls Try.prog 31 #[v] w fun e w' => e = .returned (.tuple #[.slice none 0 0, .int .i64 91]) ∧ w' = w := by
  obtain ⟨a', cap, rfl, _⟩ := hv.shape
  have h1 : ¬ (l.length : Int) = 256 := by omega
  have h2 : ((l.length : Int) == 256) = false := by simpa using h1
  generalize l.length = n at *
  clear hl hv
  go_enter Try.func31, Try.ntmps31
  go_wp2_with fail
  refine bodyPost_ret (v := .tuple #[.slice none 0 0, .int .i64 91]) (by simp [results, Try.results31, go_sem]) rfl ?_
  exact ⟨rfl, rfl⟩
theorem row_put {w : World} {base e n g : Nat} {v : Value} {xs : List Value} (h : w.ownsRow base e 1 v n xs) (hg : g < base) (k : Nat) (u : Value) : (w.setCell ⟨g, k, none⟩ u).ownsRow base e 1 v n xs := by
  refine ⟨h.1, ?_⟩
  rcases h.2 with h0 | ⟨g', cap, cur, rfl, hb, hh, r⟩
  · exact .inl h0
  · exact .inr ⟨g', cap, cur, rfl, hb, by rw [Below.heap_setCell _ _ _ _ (by show g' ≠ g; omega)]; exact hh, r⟩
theorem row_shapeI {w : World} {base n : Nat} {v : Value} {xs : List Value} (h : w.ownsRow base 3 1 v n xs) : ∃ a cap, v = .slice a n cap ∧ n ≤ cap ∧ cap ≤ 9223372036854775807 := by
  rcases h.2 with ⟨rfl, rfl⟩ | ⟨g', cap, cur, rfl, hb, hh, hc, hm, _⟩
  · exact ⟨none, 0, rfl, Nat.le_refl _, by omega⟩
  · exact ⟨_, cap, rfl, hc, by unfold maxLen at hm; omega⟩
theorem row_but {w w' : World} {g e n : Nat} {v : Value} {xs : List Value} (h : w.ownsRow (g + 1) e 1 v n xs) (hb : But g w w') : w'.ownsRow (g + 1) e 1 v n xs := by
  refine ⟨h.1, ?_⟩
  rcases h.2 with h0 | ⟨g', cap, cur, rfl, hge, hh, r⟩
  · exact .inl h0
  · exact .inr ⟨g', cap, cur, rfl, hge, (hb.rest g' (row_lt hh) (by omega)).trans hh, r⟩
def cnV (t : Nat → Nat) (k v : Nat) : Nat := ct (fun x => t x == v) k
def metI (m : Nat → Bool) (z : Nat) : Int := ((m z).toNat : Int)

set_option maxRecDepth 100000 in
set_option maxHeartbeats 1600000 in
theorem refCyc_any (l : List UInt8) (hl : l.length = 256) (v : Value) (w : World) (hv : ByAt w v l) : Calls Try.prog 31 #[v] w fun e w' => ((onceB (tbN l) = true ∧ ∃ vo, e = .returned (.tuple #[vo, .int .i64 0]) ∧ w'.ownsRow w.heap.size 3 1 vo (cycS (tbN l)).length ((cycS (tbN l)).map encI)) ∨ (onceB (tbN l) = false ∧ e = .returned (.tuple #[.slice none 0 0, .int .i64 1]))) ∧ Below w.heap.size w w' := by
  obtain ⟨a', cap, rfl, _⟩ := hv.shape
  have HTC := hidD (fun wr (hb : Below w.heap.size w wr) x (hx : x < 256) => tab_cellsB hv hl hb hx)
  have HT0 := hidD (fun wr (hb : Below w.heap.size w wr) x (hx : x < 256) => tab_cell0 hv hl hb hx)
  have HL := hidD (fun x => tbN_lt l x)
  rw [hl] at *
  have HFA := hidD (fun (L : List Int) h n a cap h1 h2 w' hi => falling_any L h n a cap h1 h2 w' hi)
  clear hv hl
  generalize tbN l = t at *
  obtain ⟨hz, hsz⟩ := zero_of_info Try.zero60
  go_enter Try.func31, Try.ntmps31
  go_wp2_with fail
  have HRZ := hidD (RowZ.new w .i64 256 60 (fun _ => 0))
  have HB1 : Hid (Below w.heap.size w (w.alloc (.cells (rowZ .i64 256 (fun _ => 0)) 60))) := (Below.refl _ _).alloc (Nat.le_refl _) _
  generalize w.alloc (.cells (rowZ .i64 256 (fun _ => 0)) 60) = w1 at *
  generalize hg : w.heap.size = g at *
  have HG := hidD hg
  clear hg
  go_loopw [5] (fun i wr => ∃ k : Nat, k ≤ 256 ∧ i = .int .i64 k ∧ RowZ wr g .i64 256 60 (fun v => (cnV t k v : Int)) ∧ Below g w wr) (fun i _ => 256 - (intOf i).toNat)
  case atStart => exact ⟨0, Nat.zero_le _, rfl, HRZ.out, HB1.out⟩
  case round =>
    obtain ⟨k, hk, rfl, hrow, hbel⟩ := hrel
    have HBL := hidD hbel
    have HRW := hidD hrow
    by_cases hlt : k < 256
    · have hlti : (k : Int) < 256 := by omega
      obtain ⟨g', o, rfl, hg', hc1⟩ := HTC.out wr hbel k hlt
      have hT := HL.out k
      have hn : cnV t k (t k) ≤ k := ct_le _ _
      have hco : ∀ i : BW wr, i.v.cell? ⟨g, t k, none⟩ = some (.int .i64 (cnV t k (t k) : Int)) := fun i => (i.below.cell (p := ⟨g, t k, none⟩) hrow.lt).trans (hrow.cell hT)
      have hfo : ∀ i : BW wr, i.v.frozen? ⟨g, t k, none⟩ = false := fun i => (i.below.frozen (p := ⟨g, t k, none⟩) hrow.lt).trans (hrow.frozen _)
      have HST : Hid (∀ i : BW wr, RowZ (i.v.setCell ⟨g, t k, none⟩ (.int .i64 ((cnV t k (t k) : Int) + 1))) g .i64 256 60 (fun v => (cnV t (k + 1) v : Int))) := fun i =>
        ((hrow.next i.below).set hT _).congr fun j _ => by
          unfold cnV; rw [ct_succ]
          by_cases he : j = t k
          · rw [if_pos he, ← he]; simp
          · rw [if_neg he, show (t k == j) = false by simpa using Ne.symm he]; simp
      have HSB : Hid (∀ (i : BW wr) v, Below g w (i.v.setCell ⟨g, t k, none⟩ v)) := fun i v => below_setCell (hbel.trans (i.below.mono (Nat.le_of_lt hrow.lt))) (Nat.le_refl _) _ v
      generalize cnV t k (t k) = N at *
      generalize t k = T at *
      clear hbel hrow
      go_wp2_with fail
      refine wp_region_put (by simp) (by kernel_rfl) rfl (by kernel_rfl) (by kernel_rfl) (by kernel_rfl) ?_
      simp only [List.dropLast_cons_cons, List.dropLast_singleton, List.getLast_cons_cons, List.getLast_singleton, List.cons_append, List.nil_append, mute]
      repeat (go_big_quiet_step (fail))
      refine wpQuiet_nil ?_
      intro i5
      go_wp2_with fail
      go_roundw
      case rel => exact ⟨k + 1, by omega, by go_num, by have := HST.out i5; simpa using this, HSB.out _ _⟩
      case measure => simp [intOf]; omega
    · obtain rfl : k = 256 := by omega
      clear hbel hrow
      go_wp2_with fail
      go_loopw [6] (fun i wr => ∃ k : Nat, k ≤ 256 ∧ i = .int .i64 k ∧ (∀ v, v < k → cnV t 256 v = 1) ∧ RowZ wr g .i64 256 60 (fun v => (cnV t 256 v : Int)) ∧ Below g w wr) (fun i _ => 256 - (intOf i).toNat)
      case atStart => exact ⟨0, Nat.zero_le _, rfl, fun v h => absurd h (by omega), HRW.out, HBL.out⟩
      case round =>
        obtain ⟨k, hk, rfl, hall, hrow, hbel⟩ := hrel
        have HBL := hidD hbel
        have HRW := hidD hrow
        have HALL := hidD hall
        clear hall
        by_cases hlt : k < 256
        · have hlti : (k : Int) < 256 := by omega
          have hco := hrow.cell hlt
          by_cases h1 : cnV t 256 k = 1
          · have HN : Hid (∀ v, v < k + 1 → cnV t 256 v = 1) := fun v hv => by
              by_cases he : v = k
              · rw [he]; exact h1
              · exact HALL.out v (by omega)
            have h1i : (cnV t 256 k : Int) = 1 := by omega
            generalize (cnV t 256 k : Int) = N at *
            subst h1i
            clear hbel hrow h1
            go_wp2_with fail
            go_roundw
            case rel => exact ⟨k + 1, by omega, by go_num, HN.out, HRW.out, HBL.out⟩
            case measure => simp [intOf]; omega
          · have HON : Hid (onceB t = false) := once_not hlt h1
            have h1i : ¬ (cnV t 256 k : Int) = 1 := by omega
            have h1b : ((cnV t 256 k : Int) == 1) = false := by simpa using h1i
            generalize (cnV t 256 k : Int) = N at *
            clear hbel hrow h1
            go_wp2_with fail
            refine bodyPost_ret (v := .tuple #[.slice none 0 0, .int .i64 1]) (by simp [results, Try.results31, go_sem]) rfl ?_
            refine ⟨.inr ⟨HON.out, rfl⟩, ?_⟩
            rw [HG.out]; exact HBL.out
        · obtain rfl : k = 256 := by omega
          have HON : Hid (onceB t = true) := once_all HALL.out
          have HRM : Hid (RowZ wr g .i64 256 60 (metI (cycTo t 0).1)) := hrow.congr fun j hj => by rw [HALL.out j hj]; rfl
          clear hbel hrow
          go_wp2_with fail
          go_loopw [7, 8] (fun o i wr => ∃ k : Nat, k ≤ 256 ∧ i = .int .i64 k ∧ wr.ownsRow (g + 1) 3 1 o (cycTo t k).2.length ((cycTo t k).2.map encI) ∧ RowZ wr g .i64 256 60 (metI (cycTo t k).1) ∧ Below g w wr) (fun _ i _ => 256 - (intOf i).toNat)
          case atStart => exact ⟨0, Nat.zero_le _, rfl, World.ownsRow_nil _ _ _ _, HRM.out, HBL.out⟩
          case round =>
            obtain ⟨k, hk, rfl, hown, hrow, hbel⟩ := hrel
            have HBL := hidD hbel
            have HRW := hidD hrow
            have HOW := hidD hown
            clear hbel hrow hown
            by_cases hlt : k < 256
            · have hlti : (k : Int) < 256 := by omega
              have HCL := hidD (cyc_len t k)
              have HC1 : Hid ((cycTo t (k + 1)).1 = (walkC t 257 (cycTo t k).1 k 0).1) := rfl
              have HC2 : Hid ((cycTo t (k + 1)).2 = if 0 < (walkC t 257 (cycTo t k).1 k 0).2 then insF ((walkC t 257 (cycTo t k).1 k 0).2 : Int) (cycTo t k).2 else (cycTo t k).2) := rfl
              have HCT := hidD (ct_le (cycTo t k).1 256)
              generalize hL : (cycTo t k).2 = L at *
              generalize hM : (cycTo t k).1 = M0 at *
              generalize hW : walkC t 257 M0 k 0 = W at *
              have HWQ := hidD hW
              clear hL hM hW
              go_wp2_with fail
              go_loopw [9, 10] (fun n y wr' => ∃ (m : Nat → Bool) (yn nn : Nat), y = .int .i64 yn ∧ n = .int .i64 nn ∧ yn < 256 ∧ nn + ct m 256 ≤ 256 ∧ walkC t (257 - nn) m yn nn = W ∧ RowZ wr' g .i64 256 60 (metI m) ∧ But g wr wr') (fun n _ _ => 256 - (intOf n).toNat)
              case atStart => exact ⟨M0, k, 0, rfl, rfl, hlt, by have := HCT.out; omega, HWQ.out, HRW.out, But.refl _ _⟩
              case round =>
                obtain ⟨m, yn, nn, rfl, rfl, hy, hct, hwk, hrow, hbut⟩ := hrel
                have HBU := hidD hbut
                have hbel := HBL.out.trans hbut.bel
                have hown := row_but HOW.out hbut
                have HBL := hidD hbel
                have HRW := hidD hrow
                have HOW := hidD hown
                have HWK := hidD hwk
                have hco := hrow.cell hy
                have hfo := hrow.frozen yn
                have hyi : (yn : Int) < 256 := by omega
                unfold metI at hco
                cases hm : m yn with
                | true =>
                  rw [hm] at hco
                  have hco : wr.cell? ⟨g, yn, none⟩ = some (.int .i64 1) := hco
                  have hpos := ct_pos m hm hy
                  have hcl := ct_clear m hm hy
                  have HCT2 : Hid (nn + 1 + ct (fun z => if z = yn then false else m z) 256 ≤ 256) := by show _ ≤ _; omega
                  have HNX : Hid (walkC t (257 - (nn + 1)) (fun z => if z = yn then false else m z) (t yn) (nn + 1) = W) := by
                    show _ = _
                    rw [← HWK.out, show 257 - nn = (257 - (nn + 1)) + 1 by omega, walkC, if_pos hm]
                  have HR2 : Hid (RowZ (wr.setCell ⟨g, yn, none⟩ (.int .i64 0)) g .i64 256 60 (metI (fun z => if z = yn then false else m z))) :=
                    (hrow.set hy 0).congr fun j _ => by
                      by_cases he : j = yn
                      · rw [if_pos he]; unfold metI; dsimp only; rw [if_pos he]; rfl
                      · rw [if_neg he]; unfold metI; dsimp only; rw [if_neg he]
                  have HB2 : Hid (Below g w (wr.setCell ⟨g, yn, none⟩ (.int .i64 0))) := below_setCell hbel (Nat.le_refl _) _ _
                  have HO2 := hidD (hbut.put yn (.int .i64 0))
                  obtain ⟨g', o, rfl, hg', hc1⟩ := HT0.out _ HB2.out yn hy
                  have HTY := hidD (HL.out yn)
                  have HNN : Hid (nn < 256) := by show nn < 256; omega
                  have hnn : (nn : Int) < 256 := by omega
                  generalize hty : t yn = T at *
                  have hTY : T < 256 := HTY.out
                  clear hbel hrow hown hwk hm hty hbut
                  go_wp2_with fail
                  go_roundw
                  case rel => exact ⟨_, T, nn + 1, by go_num, by go_num, HTY.out, HCT2.out, HNX.out, HR2.out, HO2.out⟩
                  case measure => have := HNN.out; simp [intOf]; omega
                | false =>
                  rw [hm] at hco
                  have hco : wr.cell? ⟨g, yn, none⟩ = some (.int .i64 0) := hco
                  have HWE : Hid (W = (m, nn)) := by
                    show _ = _
                    rw [← HWK.out, show 257 - nn = (256 - nn) + 1 by omega, walkC, if_neg (by rw [hm]; simp)]
                  clear hbel hrow hown hwk hm hbut
                  have hcl := HCL.out
                  by_cases hn0 : 0 < nn
                  · have hn0i : (0 : Int) < nn := by omega
                    have HF : Hid (Calls Try.prog 59 #[u7, .int .i64 (nn : Int)] wr fun e w' => ∃ v', e = .returned v' ∧ w'.ownsRow wr.heap.size 3 1 v' (L.length + 1) ((insF (nn : Int) L).map encI) ∧ Below wr.heap.size wr w') := by
                      obtain ⟨ao, co, hve, hco1, hco2⟩ := row_shapeI HOW.out
                      have h1 := row_is HOW.out
                      rw [hve] at h1
                      have h2 := HFA.out L (by omega) (nn : Int) ao co hco1 hco2 wr h1
                      rw [← hve] at h2; exact h2
                    have HN2 : Hid ((cycTo t (k + 1)).2 = insF (nn : Int) L) := by show _ = _; rw [HC2.out, HWE.out]; exact if_pos hn0
                    have HN1 : Hid ((cycTo t (k + 1)).1 = m) := by show _ = _; rw [HC1.out, HWE.out]
                    have HIL := hidD (ins_len (nn : Int) L)
                    go_wp2_with (go_at_call 59; refine HF.out.mono ?_; rintro e w6 ⟨v6, rfl, hown6, hb6⟩; have HO6 := hidD hown6; have HB6 := hidD hb6; clear hown6 hb6)
                    go_roundw
                    case rel =>
                      repeat apply Exists.intro
                      refine And.intro (a := _) (b := _) ?one ?two
                      case two => rfl
                      exact ⟨k + 1, by omega, by go_num, by rw [HN2.out, HIL.out]; exact row_mono HO6.out HRW.out.lt, by rw [HN1.out]; exact HRW.out.next HB6.out, HBL.out.trans (HB6.out.mono (Nat.le_of_lt HRW.out.lt))⟩
                    case measure => simp [intOf]; omega
                  · obtain rfl : nn = 0 := by omega
                    have HN2 : Hid ((cycTo t (k + 1)).2 = L) := by show _ = _; rw [HC2.out, HWE.out]; exact if_neg (by simp)
                    have HN1 : Hid ((cycTo t (k + 1)).1 = m) := by show _ = _; rw [HC1.out, HWE.out]
                    go_wp2_with fail
                    go_roundw
                    case rel => exact ⟨k + 1, by omega, by go_num, by rw [HN2.out]; exact HOW.out, by rw [HN1.out]; exact HRW.out, HBL.out⟩
                    case measure => simp [intOf]; omega
            · obtain rfl : k = 256 := by omega
              go_wp2_with fail
              refine bodyPost_ret (v := .tuple #[u7, .int .i64 0]) (by simp [results, Try.results31, go_sem]) rfl ?_
              refine ⟨.inl ⟨HON.out, _, rfl, ?_⟩, ?_⟩
              · rw [HG.out]; exact row_mono HOW.out (Nat.le_succ _)
              · rw [HG.out]; exact HBL.out
end Go.Proofs.Ytdbledfpphkppaa
