/- What the document's Plus and Times answer. -/
import Derived.Test.YtfngnajjlhnglaaRpa
namespace Go.Proofs.Ytfngnajjlhnglaa
open Go.RowKit
set_option linter.unusedVariables false

theorem zero_xor_u8 (x : UInt8) : bits .xor .u8 0 (x.toNat : Int) = (x.toNat : Int) := by
  have := u8_xor_nat 0 x.toNat (by omega) (u8_lt x)
  rwa [Nat.zero_xor] at this
theorem xor_u8 (x y : UInt8) : bits .xor .u8 (x.toNat : Int) (y.toNat : Int) = ((x ^^^ y).toNat : Int) := by rw [u8_xor_nat _ _ (u8_lt x) (u8_lt y), UInt8.toNat_xor]
theorem plus_take (p q : List UInt8) (k : Nat) (h : k < max p.length q.length) : ((plusS p q).take (k + 1)).map encB = ((plusS p q).take k).map encB ++ [.int .u8 ((cf p k ^^^ cf q k).toNat : Int)] := by
  have hl : (plusS p q).length = max p.length q.length := by simp [plusS]
  have := cf_get (l := plusS p q) (k := k) (by omega)
  rw [List.take_add_one, this, cf_plus]
  simp [encB]
theorem append_one {w : World} {base : Nat} {v : Value} {n : Nat} {xs : List Value} (x : UInt8) (h : w.ownsRow base 5 1 v n xs) : ByAt (w.alloc (.cells #[.int .u8 (x.toNat : Int)] (5 : TypeId))) (.slice (some ⟨w.heap.size, 0, none⟩) 1 1) [x] := (sl_new w [x] _ 1 rfl rfl (by omega)).by'
set_option maxRecDepth 100000 in
set_option maxHeartbeats 1000000 in
theorem refPlus_any {b : Nat} (p q : List UInt8) (hpl : p.length ≤ 140737488355000) (hql : q.length ≤ 140737488355000) (vp vq : Value) (w : World) (hp : SlAt w vp p) (hq : SlAt w vq q) :
    Calls Try.prog 36 #[.pointer (some ⟨b, 0, none⟩), vp, vq] w fun e w' => ∃ v, e = .returned v ∧ SlAt w' v (trimS (plusS p q)) ∧ Below w.heap.size w w' := by
  obtain ⟨⟨a, ca, rfl, hca1, hca2⟩, hpb⟩ := hp
  obtain ⟨⟨d, cd, rfl, hcd1, hcd2⟩, hqb⟩ := hq
  have HSP := hidD hpb.shape'.2
  have HSQ := hidD hqb.shape'.2
  have HPT := hidD (fun k h => plus_take p q k h)
  have HLEN : Hid ((plusS p q).length = max p.length q.length) := by show _ = _; simp [plusS]
  have HTR := hidD (fun w' v (h : SlAt w' v (plusS p q)) => refTrim_any (plusS p q) (by rw [HLEN.out]; omega) v w' h)
  have HPC : Hid (∀ k, p.length ≤ k → cf p k = 0) := fun k h => cf_ge h
  have HQC : Hid (∀ k, q.length ≤ k → cf q k = 0) := fun k h => cf_ge h
  clear hpb hqb hca1 hca2 hcd1 hcd2
  generalize hlp : p.length = lp at *
  generalize hlq : q.length = lq at *
  have HLP := hidD hlp
  have HLQ := hidD hlq
  clear hlp hlq
  generalize hS : plusS p q = S at *
  have HSS := hidD hS
  clear hS
  have HAL : Hid (∀ (w' : World) o, Below w'.heap.size w' (w'.alloc o)) := fun w' o => (Below.refl _ _).alloc (Nat.le_refl _) o
  go_enter Try.func36, Try.ntmps36
  go_wp2_with fail
  go_loopw [7, 8] (fun o i wr => ∃ k : Nat, k ≤ max lp lq ∧ i = .int .i64 k ∧ wr.ownsRow w.heap.size 5 1 o k ((S.take k).map encB) ∧ Below w.heap.size w wr) (fun _ i _ => max lp lq - (intOf i).toNat)
  case atStart => exact ⟨0, Nat.zero_le _, rfl, World.ownsRow_nil _ _ _ _, Below.refl _ _⟩
  case round =>
    obtain ⟨k, hk, rfl, hown, hbel⟩ := hrel
    have HBL := hidD hbel
    have HOW := hidD hown
    by_cases hlt : k < max lp lq
    · have HNX := hidD (HPT.out k hlt)
      have hki : (k : Int) < lp ∨ ¬ (k : Int) < lp := Classical.em _
      have HO1 : Hid (∀ c, (wr.alloc c).ownsRow w.heap.size 5 1 u7 k ((S.take k).map encB)) := fun c => hown.alloc c
      have HBS : Hid (∀ y : UInt8, ByAt (wr.alloc (.cells #[.int .u8 (y.toNat : Int)] (5 : TypeId))) (.slice (some ⟨wr.heap.size, 0, none⟩) 1 1) [y]) := fun y => append_one y hown
      have HSZ : Hid (w.heap.size ≤ wr.heap.size) := hbel.size
      have hkm : k + 1 ≤ 140737488355328 := by omega
      have HKM : Hid (k < max lp lq) := hlt
      have hor : k < lp ∨ k < lq := by omega
      have HCP : Hid (k < lp → ∃ g o, a = some ⟨g, o, none⟩ ∧ wr.cell? ⟨g, o + k, none⟩ = some (.int .u8 ((cf p k).toNat : Int))) := fun h => by
        obtain ⟨g, o, he, hg, hc⟩ := HSP.out k (by have := HLP.out; omega)
        exact ⟨g, o, he, by rw [hbel.cell (p := ⟨g, _, none⟩) hg]; exact hc⟩
      have HCQ : Hid (k < lq → ∃ g o, d = some ⟨g, o, none⟩ ∧ wr.cell? ⟨g, o + k, none⟩ = some (.int .u8 ((cf q k).toNat : Int))) := fun h => by
        obtain ⟨g, o, he, hg, hc⟩ := HSQ.out k (by have := HLQ.out; omega)
        exact ⟨g, o, he, by rw [hbel.cell (p := ⟨g, _, none⟩) hg]; exact hc⟩
      clear hown hbel hki hlt hk
      by_cases h1 : k < lp
      · obtain ⟨g1, o1, rfl, hc1⟩ := HCP.out h1
        have h1i : (k : Int) < lp := by omega
        have hz1 := zero_xor_u8 (cf p k)
        by_cases h2 : k < lq
        · obtain ⟨g2, o2, rfl, hc2⟩ := HCQ.out h2
          have h2i : (k : Int) < lq := by omega
          have hz2 := xor_u8 (cf p k) (cf q k)
          generalize hx : cf p k ^^^ cf q k = x at *
          clear hx hor
          generalize ((cf p k).toNat : Int) = pk at *
          generalize ((cf q k).toNat : Int) = qk at *
          go_wp2_with (at_builtin; refine wpList_append_by rfl _ _ rfl w.heap.size u7 k ((S.take k).map encB) rfl (HO1.out _) (.slice (some ⟨wr.heap.size, 0, none⟩) 1 1) [x] rfl (HBS.out x) (by simpa using hkm) (by have := HSZ.out; simp; omega) ?_; intro v8 w8 hown8 hg8; have HO8 := hidD hown8; have HB8 := hidD (row_grown (HO1.out _) (Below.next HBL.out (HAL.out _ _)) hg8 (by have := HSZ.out; simp; omega)); clear hown8 hg8)
          go_roundw
          case rel => exact ⟨k + 1, HKM.out, by go_num, by rw [HNX.out]; exact HO8.out, HB8.out⟩
          case measure => have := HKM.out; simp [intOf]; omega
        · have h2i : ¬ (k : Int) < lq := by omega
          have HQZ := hidD (HQC.out k (by omega))
          rw [HQZ.out, xor_zero'] at HNX
          generalize hx : cf p k = x at *
          clear hx hor HCQ HCP HPC HQC HQZ
          go_wp2_with (at_builtin; refine wpList_append_by rfl _ _ rfl w.heap.size u7 k ((S.take k).map encB) rfl (HO1.out _) (.slice (some ⟨wr.heap.size, 0, none⟩) 1 1) [x] rfl (HBS.out x) (by simpa using hkm) (by have := HSZ.out; simp; omega) ?_; intro v8 w8 hown8 hg8; have HO8 := hidD hown8; have HB8 := hidD (row_grown (HO1.out _) (Below.next HBL.out (HAL.out _ _)) hg8 (by have := HSZ.out; simp; omega)); clear hown8 hg8)
          go_roundw
          case rel => exact ⟨k + 1, HKM.out, by go_num, by rw [HNX.out]; exact HO8.out, HB8.out⟩
          case measure => have := HKM.out; simp [intOf]; omega
      · have h2 : k < lq := by omega
        obtain ⟨g2, o2, rfl, hc2⟩ := HCQ.out h2
        have h1i : ¬ (k : Int) < lp := by omega
        have h2i : (k : Int) < lq := by omega
        have hz2 := zero_xor_u8 (cf q k)
        have HPZ := hidD (HPC.out k (by omega))
        rw [HPZ.out, UInt8.zero_xor] at HNX
        generalize hx : cf q k = x at *
        clear hx hor HCQ HCP HPC HQC HPZ
        go_wp2_with (at_builtin; refine wpList_append_by rfl _ _ rfl w.heap.size u7 k ((S.take k).map encB) rfl (HO1.out _) (.slice (some ⟨wr.heap.size, 0, none⟩) 1 1) [x] rfl (HBS.out x) (by simpa using hkm) (by have := HSZ.out; simp; omega) ?_; intro v8 w8 hown8 hg8; have HO8 := hidD hown8; have HB8 := hidD (row_grown (HO1.out _) (Below.next HBL.out (HAL.out _ _)) hg8 (by have := HSZ.out; simp; omega)); clear hown8 hg8)
        go_roundw
        case rel => exact ⟨k + 1, HKM.out, by go_num, by rw [HNX.out]; exact HO8.out, HB8.out⟩
        case measure => have := HKM.out; simp [intOf]; omega
    · obtain rfl : k = max lp lq := by omega
      have h1i : ¬ ((max lp lq : Nat) : Int) < lp := by omega
      have h2i : ¬ ((max lp lq : Nat) : Int) < lq := by omega
      have hsl : SlAt wr u7 S := sl_of_own (base := w.heap.size) (by
        have := hown
        rw [← HLEN.out, List.take_length] at this; exact this)
      have HT := hidD (HTR.out wr u7 hsl)
      clear hown hbel hsl
      generalize max lp lq = M at *
      go_wp2_with (go_at_call 47; refine HT.out.mono ?_; rintro e w9 ⟨v9, rfl, hs9, hb9⟩)
      go_ret
      exact ⟨_, rfl, hs9, Below.next HBL.out hb9⟩
set_option maxRecDepth 100000 in
set_option maxHeartbeats 800000 in
theorem refPlus_nil (vp vq : Value) (w : World) : Calls Try.prog 36 #[.pointer none, vp, vq] w fun e w' => e = .returned (.slice none 0 0) ∧ Below w.heap.size w w' := by
  have HW : Hid (Below w.heap.size w w) := Below.refl _ _
  go_enter Try.func36, Try.ntmps36
  go_wp2_with fail
  go_ret
  exact ⟨rfl, HW.out⟩
end Go.Proofs.Ytfngnajjlhnglaa
