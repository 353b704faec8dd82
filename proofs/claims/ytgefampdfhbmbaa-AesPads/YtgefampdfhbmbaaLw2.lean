/- What the statements' both answers. -/
import Derived.Test.YtgefampdfhbmbaaPgm
import Derived.Laws.Pointers
namespace Go.Proofs.Ytgefampdfhbmbaa
open Go.RowKit
set_option linter.unusedVariables false

theorem but_own {w w' : World} {B g cap n : Nat} {xs : List Value} (h : w.ownsRow B 5 1 (.slice (some ⟨g, 0, none⟩) n cap) n xs) (hb : Below w.heap.size w w') : True := trivial
set_option maxRecDepth 100000 in
set_option maxHeartbeats 1600000 in
theorem both_no (l : List UInt8) (hl : l.length ≤ 140737488355200) (h16 : l.length ≠ 16) (h24 : l.length ≠ 24) (h32 : l.length ≠ 32) (v : Value) (w : World) (hv : ByAt w v l) : Calls Try.prog 9 #[v] w fun e w' => e = .returned (.tuple #[.pointer none, .pointer none, .bool true]) ∧ Below w.heap.size w w' := by
  have HOW := hidD (own_any l hl v w hv)
  have HV : Hid (∀ wA, Below w.heap.size w wA → ByAt wA v l) := fun wA hb => hv.next hb
  have HPN : Hid (∀ wA vA, ByAt wA vA l → Calls Try.prog 38 #[vA] wA fun e w' => e = .returned (.tuple #[.pointer none, .int .i64 90]) ∧ Below wA.heap.size wA w') := fun wA vA h => pNew_no l h16 h24 h32 vA wA h
  have HRN : Hid (∀ wA, ByAt wA v l → Calls Try.prog 39 #[v] wA fun e w' => e = .returned (.tuple #[.pointer none, .int .i64 90]) ∧ w' = wA) := fun wA h => refNew_no l h16 h24 h32 v wA h
  obtain ⟨a', cap, rfl, hsh⟩ := hv.shape
  clear hsh hv h16 h24 h32
  generalize hLL : l.length = LL at *
  have HLL := hidD hLL
  clear hLL
  go_enter Try.func9, Try.ntmps9
  go_wp2_with (first
    | (go_at_call 15; refine HOW.out.mono ?_; rintro e w1 ⟨vk, rfl, hok, hb1⟩; obtain ⟨ak, ck, hvk⟩ := row_shape hok; subst hvk; have HK1 := hidD hok; have HB1 := hidD hb1; clear hok hb1)
    | (go_at_call 38; refine (HPN.out _ _ (row_by (by rw [HLL.out]; exact HK1.out))).mono ?_; rintro e w2 ⟨rfl, hb2⟩; have HB2 := hidD hb2; clear hb2)
    | (go_at_call 39; refine (HRN.out _ (HV.out _ (Below.next HB1.out HB2.out))).mono ?_; rintro e w3 ⟨rfl, hw3⟩; have HW3 := hidD hw3; clear hw3))
  have HB3 : Hid (Below w.heap.size w w3) := by rw [HW3.out]; exact Below.next HB1.out HB2.out
  have HK3 : Hid (w3.ownsRow w.heap.size 5 1 (.slice ak LL ck) LL (l.map encB)) := by rw [HW3.out]; exact row_below HK1.out HB2.out
  clear HK1 HB1 HB2 HW3 HOW HPN HRN HV
  go_loopw [10] (fun i wr => ∃ (k : Nat) (L : List UInt8), k ≤ LL ∧ L.length = LL ∧ i = .int .i64 k ∧ wr.ownsRow w.heap.size 5 1 (.slice ak LL ck) LL (L.map encB) ∧ Below w.heap.size w wr) (fun i _ => LL - (intOf i).toNat)
  case atStart => exact ⟨0, l, Nat.zero_le _, HLL.out, rfl, HK3.out, HB3.out⟩
  case round =>
    clear HK3 HB3
    obtain ⟨k, L, hk, hL, rfl, hrow, hbel⟩ := hrel
    have HBL := hidD hbel
    have HRW := hidD hrow
    by_cases hlt : k < LL
    · have hlti : (k : Int) < (LL : Int) := by omega
      obtain ⟨gk, ck', hve, hge, hgl, hcap⟩ := row_shapeC hrow (by omega)
      cases hve
      have hc := own_cell hrow hlt
      have hcv : wr.cell? ⟨gk, k, none⟩ = some (.int .u8 ((L.getD k 0).toNat : Int)) := by
        rw [hc.1, List.getElem?_map, List.getElem?_eq_getElem (by omega), List.getD_eq_getElem?_getD, List.getElem?_eq_getElem (by omega)]; rfl
      have hfv := hc.2.1
      have hx : bits .xor .u8 ((L.getD k 0).toNat : Int) 85 = ((L.getD k 0 ^^^ 85).toNat : Int) := by rw [UInt8.toNat_xor]; exact u8_xor_nat _ 85 (u8_lt _) (by omega)
      have HOS : Hid ((wr.setCell ⟨gk, k, none⟩ (.int .u8 ((L.getD k 0 ^^^ 85).toNat : Int))).ownsRow w.heap.size 5 1 (.slice (some ⟨gk, 0, none⟩) LL ck) LL ((L.set k (L.getD k 0 ^^^ 85)).map encB)) := by
        have := own_set hrow hlt (.int .u8 ((L.getD k 0 ^^^ 85).toNat : Int))
        rw [List.map_set]; exact this
      have HBS : Hid (∀ u, Below w.heap.size w (wr.setCell ⟨gk, k, none⟩ u)) := fun u => below_setCell hbel hge _ u
      have HLS : Hid ((L.set k (L.getD k 0 ^^^ 85)).length = LL) := by show _ = _; rw [List.length_set]; exact hL
      clear hrow hbel hc hge hgl hcap hL HRW
      generalize L.set k (L.getD k 0 ^^^ 85) = L' at *
      generalize ((L.getD k 0 ^^^ 85).toNat : Int) = Z at *
      generalize (L.getD k 0).toNat = X at *
      go_wp2_with fail
      go_roundw
      case rel => exact ⟨k + 1, L', by omega, HLS.out, by go_num, HOS.out, HBS.out _⟩
      case measure => simp [intOf]; omega
    · obtain rfl : k = LL := by omega
      clear hrow hbel hL
      go_wp2_with fail
      refine bodyPost_ret (v := .tuple #[.pointer none, .pointer none, .bool true]) (by simp [results, Try.results9, go_sem]) rfl ?_
      exact ⟨rfl, HBL.out⟩
set_option maxRecDepth 100000 in
set_option maxHeartbeats 1600000 in
theorem both_any (l : List UInt8) (n : Nat) (hn : n = 4 ∨ n = 6 ∨ n = 8) (hl : l.length = 4 * n) (v : Value) (w : World) (hv : ByAt w v l) : Calls Try.prog 9 #[v] w fun e w' => ∃ p b, e = .returned (.tuple #[.pointer (some ⟨p, 0, none⟩), .pointer (some ⟨b, 0, none⟩), .bool true]) ∧ (∃ B, AcAt w' B p n (blk l)) ∧ RcAt w' b n (blk l) ∧ Below w.heap.size w w' := by
  have HOW := hidD (own_any l (by omega) v w hv)
  have HV : Hid (∀ wA, Below w.heap.size w wA → ByAt wA v l) := fun wA hb => hv.next hb
  have HPN : Hid (∀ wA vA, SlAt wA vA l → Calls Try.prog 38 #[vA] wA fun e w' => ∃ p, e = .returned (.tuple #[.pointer (some ⟨p, 0, none⟩), .int .i64 0]) ∧ AcAt w' wA.heap.size p n (blk l) ∧ Below wA.heap.size wA w') := fun wA vA h => pNew_any l n hn hl vA wA h
  have HRN : Hid (∀ wA, ByAt wA v l → Calls Try.prog 39 #[v] wA fun e w' => ∃ b, e = .returned (.tuple #[.pointer (some ⟨b, 0, none⟩), .int .i64 0]) ∧ RcIn w' wA.heap.size b n (blk l) ∧ Below wA.heap.size wA w') := fun wA h => refNew_any l n hn hl v wA h
  have hLb : l.length ≤ 32 := by omega
  obtain ⟨a', cap, rfl, hsh⟩ := hv.shape
  clear hsh hv hl hn
  generalize hLL : l.length = LL at *
  have HLL := hidD hLL
  clear hLL
  generalize hkey : blk l = key at *
  clear hkey
  go_enter Try.func9, Try.ntmps9
  go_wp2_with (first
    | (go_at_call 15; refine HOW.out.mono ?_; rintro e w1 ⟨vk, rfl, hok, hb1⟩; obtain ⟨ak, ck, hvk⟩ := row_shape hok; subst hvk; have HK1 := hidD hok; have HB1 := hidD hb1; clear hok hb1)
    | (go_at_call 38; refine (HPN.out _ _ (sl_of_own (by rw [HLL.out]; exact HK1.out))).mono ?_; rintro e w2 ⟨p, rfl, hac, hb2⟩; have HAC := hidD hac; have HB2 := hidD hb2; clear hb2 hac)
    | (go_at_call 39; refine (HRN.out _ (HV.out _ (Below.next HB1.out HB2.out))).mono ?_; rintro e w3 ⟨b, rfl, hrc, hb3⟩; have HRC := hidD hrc; have HB3 := hidD hb3; clear hb3 hrc))
  have HBW : Hid (Below w.heap.size w w3) := Below.next (Below.next HB1.out HB2.out) HB3.out
  have HK3 : Hid (w3.ownsRow w.heap.size 5 1 (.slice ak LL ck) LL (l.map encB)) := row_below (row_below HK1.out HB2.out) HB3.out
  have HA3 : Hid (AcAt w3 w1.heap.size p n key) := HAC.out.next HB3.out
  have HR3 : Hid (RcIn w3 w2.heap.size b n key) := HRC.out
  have HGK : Hid (∀ g, ak = some ⟨g, 0, none⟩ → g < w1.heap.size ∧ g < w2.heap.size) := fun g h => by
    rcases HK1.out.2 with ⟨h0, _⟩ | ⟨g', cap', cur, he, hb, hg, _⟩
    · cases h0; cases h
    · cases he
      cases h
      have := row_lt hg
      have := HB2.out.size
      omega
  clear HK1 HB1 HB2 HB3 HOW HPN HRN HV HAC HRC
  go_loopw [10] (fun i wr => ∃ (k : Nat) (L : List UInt8), k ≤ LL ∧ L.length = LL ∧ i = .int .i64 k ∧ wr.ownsRow w.heap.size 5 1 (.slice ak LL ck) LL (L.map encB) ∧ Below w.heap.size w wr ∧ AcAt wr w1.heap.size p n key ∧ RcIn wr w2.heap.size b n key) (fun i _ => LL - (intOf i).toNat)
  case atStart => exact ⟨0, l, Nat.zero_le _, HLL.out, rfl, HK3.out, HBW.out, HA3.out, HR3.out⟩
  case round =>
    clear HK3 HBW HA3 HR3
    obtain ⟨k, L, hk, hL, rfl, hrow, hbel, hac, hrc⟩ := hrel
    have HBL := hidD hbel
    have HAC := hidD hac
    have HRC := hidD hrc
    by_cases hlt : k < LL
    · have hlti : (k : Int) < (LL : Int) := by omega
      obtain ⟨gk, ck', hve, hge, hgl, hcap⟩ := row_shapeC hrow (by omega)
      cases hve
      obtain ⟨hg1, hg2⟩ := HGK.out gk rfl
      have hc := own_cell hrow hlt
      have hcv : wr.cell? ⟨gk, k, none⟩ = some (.int .u8 ((L.getD k 0).toNat : Int)) := by
        rw [hc.1, List.getElem?_map, List.getElem?_eq_getElem (by omega), List.getD_eq_getElem?_getD, List.getElem?_eq_getElem (by omega)]; rfl
      have hfv := hc.2.1
      have hx : bits .xor .u8 ((L.getD k 0).toNat : Int) 85 = ((L.getD k 0 ^^^ 85).toNat : Int) := by rw [UInt8.toNat_xor]; exact u8_xor_nat _ 85 (u8_lt _) (by omega)
      have HOS : Hid ((wr.setCell ⟨gk, k, none⟩ (.int .u8 ((L.getD k 0 ^^^ 85).toNat : Int))).ownsRow w.heap.size 5 1 (.slice (some ⟨gk, 0, none⟩) LL ck) LL ((L.set k (L.getD k 0 ^^^ 85)).map encB)) := by
        have := own_set hrow hlt (.int .u8 ((L.getD k 0 ^^^ 85).toNat : Int))
        rw [List.map_set]; exact this
      have HBS : Hid (∀ u, Below w.heap.size w (wr.setCell ⟨gk, k, none⟩ u)) := fun u => below_setCell hbel hge _ u
      have HAS : Hid (∀ u, AcAt (wr.setCell ⟨gk, k, none⟩ u) w1.heap.size p n key) := fun u => hac.keep (fun g hg _ => heap_setCell_other wr ⟨gk, k, none⟩ g u (by show g ≠ gk; omega)) (by simp)
      have HRS : Hid (∀ u, RcIn (wr.setCell ⟨gk, k, none⟩ u) w2.heap.size b n key) := fun u => hrc.keep (fun g hg _ => heap_setCell_other wr ⟨gk, k, none⟩ g u (by show g ≠ gk; omega)) (by simp)
      have HLS : Hid ((L.set k (L.getD k 0 ^^^ 85)).length = LL) := by show _ = _; rw [List.length_set]; exact hL
      clear hrow hbel hc hge hgl hcap hL hac hrc hg1 hg2
      generalize L.set k (L.getD k 0 ^^^ 85) = L' at *
      generalize ((L.getD k 0 ^^^ 85).toNat : Int) = Z at *
      generalize (L.getD k 0).toNat = X at *
      go_wp2_with fail
      go_roundw
      case rel => exact ⟨k + 1, L', by omega, HLS.out, by go_num, HOS.out, HBS.out _, HAS.out _, HRS.out _⟩
      case measure => simp [intOf]; omega
    · obtain rfl : k = LL := by omega
      clear hrow hbel hL hac hrc
      go_wp2_with fail
      refine bodyPost_ret (v := .tuple #[.pointer (some ⟨p, 0, none⟩), .pointer (some ⟨b, 0, none⟩), .bool true]) (by simp [results, Try.results9, go_sem]) rfl ?_
      exact ⟨p, b, rfl, ⟨_, HAC.out⟩, HRC.out.at, HBL.out⟩
end Go.Proofs.Ytgefampdfhbmbaa
