/- What sumOf of the program answers. -/
import Derived.Test.YtjhaaphgaplhlaaSum
namespace Go.Proofs.Ytjhaaphgaplhlaa
open Go.RowKit
set_option linter.unusedVariables false

theorem ByAt.shape {w : World} {sl : Value} {bs : List UInt8} (h : ByAt w sl bs) : ∃ a cap, sl = .slice a bs.length cap ∧ ∀ k, k < bs.length → ∃ g off, a = some ⟨g, off, none⟩ ∧ g < w.heap.size ∧ w.cell? ⟨g, off + k, none⟩ = some (.int .u8 ((bs.getD k 0).toNat : Int)) := by
  rcases h with ⟨rfl, a, cap, rfl, _⟩ | ⟨g, off, cap, rfl, hg, hc⟩
  · exact ⟨a, cap, rfl, fun k hk => by simp at hk⟩
  · exact ⟨_, cap, rfl, fun k hk => ⟨g, off, rfl, hg, hc k hk⟩⟩
theorem stream_take (inn : Bool) (bs : List UInt8) (k : Nat) (h : k < bs.length) : streamOf inn (bs.take (k + 1)) = streamOf inn (bs.take k) ++ bitsOf inn (bs.getD k 0).toNat := by
  rw [List.take_add_one, List.getElem?_eq_getElem h, List.getD_eq_getElem?_getD, List.getElem?_eq_getElem h]
  unfold streamOf
  rw [List.flatMap_append]
  simp only [Option.toList_some, List.flatMap_cons, List.flatMap_nil, List.append_nil, Option.getD_some]
theorem stream_append (inn : Bool) (a b : List UInt8) : streamOf inn (a ++ b) = streamOf inn a ++ streamOf inn b := by simp [streamOf]
theorem reg_take (w P I : Nat) (inn : Bool) (bs : List UInt8) (k : Nat) (h : k < bs.length) : runB w P I (streamOf inn (bs.take (k + 1))) = runB w P (runB w P I (streamOf inn (bs.take k))) (bitsOf inn (bs.getD k 0).toNat) := by rw [stream_take inn bs k h, run_append]

set_option maxRecDepth 100000 in
set_option maxHeartbeats 400000 in
theorem sumOf_any (m : Md) (hm : MdOk m) (bs : List UInt8) (hl : bs.length ≤ 9223372036854775807) (sl : Value) (w : World) (hs : ByAt w sl bs) : Calls Try.prog 50 #[m.v, sl] w fun e w' => e = .returned (.int .u64 (sumS m bs : Nat)) ∧ Below w.heap.size w w' := by
  obtain ⟨a, cap, rfl, hsh⟩ := hs.shape
  have HSH := hidD hsh
  have HBI := hidD (fun (r : Nat) (hr : r < 2 ^ m.w) (b : UInt8) (w : World) => byteIn_any m hm r hr b.toNat b.toNat_lt w)
  have HEN := hidD (fun w => ended_any m hm (regS m bs) (reg_lt hm bs) w)
  rw [show toldS m (regS m bs) = sumS m bs from rfl] at HEN
  have HRG : Hid (runB m.w m.P m.I (streamOf m.inn bs) = regS m bs) := rfl
  have HTK := hidD (fun k h => reg_take m.w m.P m.I m.inn bs k h)
  have HRL := hidD (fun l => run_lt hm.P l m.I hm.I)
  generalize sumS m bs = S at *
  generalize regS m bs = R at *
  have HA := hidD (MdAt.new m w 35)
  have HBa : Hid (Below w.heap.size w (w.alloc (.cells m.cells 35))) := (Below.refl w.heap.size w).alloc (Nat.le_refl _) _
  have HSZ : Hid (w.heap.size < (w.alloc (.cells m.cells 35)).heap.size) := by show _ < _; simp
  clear hm hs hsh
  obtain ⟨nm, ww, P, I, inn, out, X⟩ := m
  simp only [Md.v, Md.cells] at *
  go_enter Try.func50, Try.ntmps50
  go_wp2_with fail
  generalize w.alloc _ = w1 at *
  go_loopw [5, 12] (fun rr i wr => ∃ k : Nat, k ≤ bs.length ∧ i = .int .i64 k ∧ rr = .int .u64 ((runB ww P I (streamOf inn (bs.take k)) : Nat) : Int) ∧ Below w1.heap.size w1 wr) (fun _ i _ => bs.length - (intOf i).toNat)
  case atStart => exact ⟨0, Nat.zero_le _, rfl, rfl, Below.refl _ _⟩
  case round =>
    obtain ⟨k, hk, rfl, rfl, hbel⟩ := hrel
    have HBL := hidD hbel
    have hA := HA.out.below hbel HSZ.out
    obtain ⟨k0, k1, k2, k3, k4, k5, k6⟩ := hA
    simp only at k0 k1 k2 k3 k4 k5 k6
    by_cases hlt : k < bs.length
    · obtain ⟨g, off, rfl, hg, hc⟩ := HSH.out k hlt
      have hcw : wr.cell? ⟨g, off + k, none⟩ = some (.int .u8 ((bs.getD k 0).toNat : Int)) := by
        rw [hbel.cell (p := ⟨g, off + k, none⟩) (Nat.lt_trans hg HSZ.out), HBa.out.cell (p := ⟨g, off + k, none⟩) hg]; exact hc
      have hlti : (k : Int) < bs.length := by omega
      have HCB := hidD (fun w => HBI.out (runB ww P I (streamOf inn (bs.take k))) (HRL.out _) (bs.getD k 0) w)
      rw [← HTK.out k hlt] at HCB
      have HKB := hidD hk
      clear hc hbel hk
      generalize hA : runB ww P I (streamOf inn (bs.take k)) = A at *
      generalize hA2 : runB ww P I (streamOf inn (bs.take (k + 1))) = A2 at *
      generalize (bs.getD k 0).toNat = bk at *
      have HA2 := hidD hA2
      clear hA hA2
      generalize bs.length = n at *
      go_wp2_with (go_at_call 59; refine (HCB.out _).mono ?_; rintro e w2 ⟨rfl, hb2⟩)
      go_roundw
      case rel => exact ⟨k + 1, by omega, by go_num, by rw [HA2.out], HBL.out.trans (hb2.mono HBL.out.size)⟩
      case measure => simp [intOf]; omega
    · obtain rfl : k = bs.length := by omega
      have hRR : runB ww P I (streamOf inn (bs.take bs.length)) = R := by rw [List.take_length]; exact HRG.out
      rw [hRR]
      clear hRR hbel
      generalize bs.length = n at *
      go_wp2_with (go_at_call 58; refine (HEN.out _).mono ?_; rintro e w2 ⟨rfl, hb2⟩)
      go_ret
      exact ⟨rfl, HBa.out.trans ((HBL.out.trans (hb2.mono HBL.out.size)).mono (Nat.le_of_lt HSZ.out))⟩
end Go.Proofs.Ytjhaaphgaplhlaa
