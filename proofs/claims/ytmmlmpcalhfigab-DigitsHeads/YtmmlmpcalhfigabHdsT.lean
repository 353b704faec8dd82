/- The walk of DigitsHeads. -/
import Derived.Test.YtmmlmpcalhfigabLive
import Derived.Test.YtmmlmpcalhfigabHds
import Derived.Deep.RegionWith
namespace Go.Proofs.Ytmmlmpcalhfigab
open Go.RowKit
set_option linter.unusedVariables false
set_option maxRecDepth 100000 in
set_option maxHeartbeats 400000 in
theorem heads_bad (s : List UInt8) (c : Nat) (hs : s.length ≤ maxLen) (h : (headS s).2.2.2 ≠ 0) (w : World) : Calls Try.prog 3 #[.string ⟨s.toArray⟩, .int .u8 c] w fun e w' => e = .returned (.bool true) ∧ Below w.heap.size w w' := by
  have HLV := hidD (fun (w : World) => live_any w)
  have HH := hidD (fun (w : World) => head_any s hs w)
  obtain ⟨e1, e2⟩ := head_err h
  rw [e1, e2] at HH
  clear e1 e2
  generalize (headS s).2.2.2 = er at *
  generalize (headS s).2.2.1 = n at *
  have hri : ¬ ((er : Int) = 0) := by omega
  have hrb : ((er : Int) != 0) = true := by simpa using h
  go_enter Try.func3, Try.ntmps3
  go_wp2_with (first
    | (go_at_call 5; refine (HLV.out _).mono ?_; rintro e w1 ⟨rfl, hb1⟩)
    | (go_at_call 6; refine (HH.out _).mono ?_; rintro e w' ⟨rfl, hw⟩; rw [hw]; clear hw w')
    | (go_at_call 7; refine (no_any _ _).mono ?_; rintro e w' ⟨rfl, hw⟩; rw [hw]; clear hw w'))
  go_ret
  exact ⟨rfl, hb1⟩
theorem take_ba (s : List UInt8) (n : Nat) : ({ data := s.toArray } : ByteArray).extract 0 n = ⟨(s.take n).toArray⟩ := by
  apply ByteArray.ext
  rw [ByteArray.data_extract]
  apply Array.toList_inj.1
  simp [List.extract_eq_take_drop]
set_option maxRecDepth 100000 in
set_option maxHeartbeats 1000000 in
theorem heads_other (s : List UInt8) (c : UInt8) (hs : s.length ≤ 140737488351232) (v K n : Nat) (h : headS s = (v, K, n, 0)) (hP : ¬ s.take n = [48]) (hd : ¬ (0 ≤ digV c.toNat ∧ digV c.toNat < (K : Int))) (hofF : ofB c.toNat K = false) (w : World) : Calls Try.prog 3 #[.string ⟨s.toArray⟩, .int .u8 (c.toNat : Int)] w fun e w' => e = .returned (.bool true) ∧ Below w.heap.size w w' := by
  have hs' : s.length ≤ maxLen := by unfold maxLen; omega
  have HLV := hidD (fun (w : World) => live_any w)
  have HH := hidD (fun (w : World) => head_any s hs' w)
  obtain ⟨_, _, hn1, hn2⟩ := head_inv h
  have HRD := hidD (fun (w : World) => read_any (s.take n) (by rw [List.length_take]; omega) w)
  rw [heads_read h] at HRD
  rw [h] at HH
  have hcb : c.toNat ≤ 255 := by have := c.toNat_lt; omega
  have HDG := hidD (fun (w : World) => digit_any c.toNat hcb w)
  have hdr := digV_range c.toNat
  have hlen : n ≤ s.length := hn2
  have hn1' : 1 ≤ n := by omega
  have hex := take_ba s n
  have hPl : (s.take n).length ≤ 140737488351232 := by rw [List.length_take]; omega
  have HH2 := hidD (fun (w : World) => head_any (s.take n ++ c :: s) (by unfold maxLen; simp; omega) w)
  rw [heads_behind h c hofF (fun q => hP q.1)] at HH2
  have HAP : Hid (({ data := (s.take n).toArray } : ByteArray) ++ { data := #[c] } ++ { data := s.toArray } = ⟨(s.take n ++ c :: s).toArray⟩) := by
    show _ = _
    rw [show ({ data := #[c] } : ByteArray) = { data := [c].toArray } from rfl, ba_append, ba_append]
    simp
  have hPb : (s.take n == [48]) = false := by simpa using hP
  clear hP h hofF hn1
  generalize s.take n ++ c :: s = Q at *
  generalize s.take n = P at *
  have hcv : ∀ w1 : World, (convert (29 : TypeId) (9 : TypeId) (.slice (some ⟨w1.heap.size, 0, none⟩) 1 1)).run Try.prog (w1.alloc (.cells #[.int .u8 (c.toNat : Int)] (5 : TypeId))).drew = .ok (.string ⟨#[c]⟩) (w1.alloc (.cells #[.int .u8 (c.toNat : Int)] (5 : TypeId))).drew := fun w1 => by
    refine run_convert_bytes_back _ (29 : TypeId) (9 : TypeId) (5 : TypeId) ⟨w1.heap.size, 0, none⟩ 1 [c] Try.underlying29 Try.underlying5 Try.underlying9 (fun j hj => ?_)
    obtain rfl : j = 0 := by simpa using hj
    rw [Go.WideShapes.add_plain]
    show (w1.alloc _).cell? _ = _
    rw [World.cell?_alloc_new]
    rfl
  have hcs : digV c.toNat < 0 ∨ (0 ≤ digV c.toNat ∧ (K : Int) ≤ digV c.toNat) := by omega
  clear hd
  generalize digV c.toNat = dv at *
  rcases hcs with h0 | ⟨h0, h1⟩
  ·
    go_enter Try.func3, Try.ntmps3
    go_wp2_with (first
      | (go_at_call 5; refine (HLV.out _).mono ?_; rintro e w1 ⟨rfl, hb1⟩)
      | (go_at_call 6; refine (HH.out _).mono ?_; rintro e w' ⟨rfl, hw⟩; rw [hw]; clear hw w')
      | (go_at_call 8; refine (HRD.out _).mono ?_; rintro e w' ⟨rfl, hw⟩; rw [hw]; clear hw w')
      | (go_at_call 9; refine (HDG.out _).mono ?_; rintro e w' ⟨rfl, hw⟩; rw [hw]; clear hw w')
      | (go_at_call 7; refine (no_any _ _).mono ?_; rintro e w' ⟨rfl, hw⟩; rw [hw]; clear hw w'))
    go_region_with (go_at_call 6; rw [HAP.out]; refine (HH2.out _).mono ?_; rintro e w' ⟨rfl, hw⟩; rw [hw]; clear hw w')
    go_wp2_with (go_at_call 7; refine (no_any _ _).mono ?_; rintro e w' ⟨rfl, hw⟩; rw [hw]; clear hw w')
    go_ret
    exact ⟨by simp, hb1.trans (((Below.refl w1.heap.size w1).alloc (Nat.le_refl _) _).drew.mono hb1.size)⟩
  ·
    go_enter Try.func3, Try.ntmps3
    go_wp2_with (first
      | (go_at_call 5; refine (HLV.out _).mono ?_; rintro e w1 ⟨rfl, hb1⟩)
      | (go_at_call 6; refine (HH.out _).mono ?_; rintro e w' ⟨rfl, hw⟩; rw [hw]; clear hw w')
      | (go_at_call 8; refine (HRD.out _).mono ?_; rintro e w' ⟨rfl, hw⟩; rw [hw]; clear hw w')
      | (go_at_call 9; refine (HDG.out _).mono ?_; rintro e w' ⟨rfl, hw⟩; rw [hw]; clear hw w')
      | (go_at_call 7; refine (no_any _ _).mono ?_; rintro e w' ⟨rfl, hw⟩; rw [hw]; clear hw w'))
    go_region_with (go_at_call 6; rw [HAP.out]; refine (HH2.out _).mono ?_; rintro e w' ⟨rfl, hw⟩; rw [hw]; clear hw w')
    go_wp2_with (go_at_call 7; refine (no_any _ _).mono ?_; rintro e w' ⟨rfl, hw⟩; rw [hw]; clear hw w')
    go_ret
    exact ⟨by simp, hb1.trans (((Below.refl w1.heap.size w1).alloc (Nat.le_refl _) _).drew.mono hb1.size)⟩
end Go.Proofs.Ytmmlmpcalhfigab
