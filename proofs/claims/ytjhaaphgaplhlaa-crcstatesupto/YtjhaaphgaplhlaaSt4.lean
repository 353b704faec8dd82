/- What Len, Sum and Write of a state answer. -/
import Derived.Test.YtjhaaphgaplhlaaSt3
import Derived.Test.YtjhaaphgaplhlaaRfs
namespace Go.Proofs.Ytjhaaphgaplhlaa
open Go.RowKit
set_option linter.unusedVariables false

/-- All that was there is as it was, but for one block. -/
structure But (g : Nat) (w w' : World) : Prop where
  bel : Below g w w'
  rest : ∀ b, b < w.heap.size → b ≠ g → w'.heap[b]? = w.heap[b]?
theorem But.refl (g : Nat) (w : World) : But g w w := ⟨Below.refl _ _, fun _ _ _ => rfl⟩
theorem But.trans {g : Nat} {a b c : World} (h : But g a b) (k : But g b c) : But g a c := ⟨h.bel.trans k.bel, fun i hi hn => (k.rest i (Nat.lt_of_lt_of_le hi h.bel.size) hn).trans (h.rest i hi hn)⟩
theorem But.of {g : Nat} {a b : World} (h : Below a.heap.size a b) (hg : g ≤ a.heap.size) : But g a b := ⟨h.mono hg, fun i hi _ => h.block i hi⟩
theorem But.put {g : Nat} {a b : World} (h : But g a b) (k : Nat) (u : Value) : But g a (b.setCell ⟨g, k, none⟩ u) :=
  ⟨h.bel.setCell (p := ⟨g, k, none⟩) (Nat.le_refl _) u, fun i hi hn => (heap_setCell_other b ⟨g, k, none⟩ i u hn).trans (h.rest i hi hn)⟩
theorem But.cell {g : Nat} {a b : World} (h : But g a b) {i o : Nat} (hi : i < a.heap.size) (hn : i ≠ g) : b.cell? ⟨i, o, none⟩ = a.cell? ⟨i, o, none⟩ := by
  simp only [World.cell?, h.rest i hi hn]

theorem StAt.put8 {w : World} {m : Md} {gs gm gx gt r n : Nat} (h : StAt w m gs gm gx gt r n) (r' : Nat) : StAt (w.setCell ⟨gs, 8, none⟩ (.int .u64 r')) m gs gm gx gt r' n :=
  ⟨heap_setCell_same w gs 8 _ _ _ h.st, h.sp.below ((Below.refl gs w).setCell (p := ⟨gs, 8, none⟩) (Nat.le_refl _) _) h.h1 h.h2 h.h3, h.h1, h.h2, h.h3⟩
theorem StAt.put9 {w : World} {m : Md} {gs gm gx gt r n : Nat} (h : StAt w m gs gm gx gt r n) (n' : Nat) : StAt (w.setCell ⟨gs, 9, none⟩ (.int .u64 n')) m gs gm gx gt r n' :=
  ⟨heap_setCell_same w gs 9 _ _ _ h.st, h.sp.below ((Below.refl gs w).setCell (p := ⟨gs, 9, none⟩) (Nat.le_refl _) _) h.h1 h.h2 h.h3, h.h1, h.h2, h.h3⟩
theorem StAt.cell {w : World} {m : Md} {gs gm gx gt r n : Nat} (h : StAt w m gs gm gx gt r n) (k : Nat) : w.cell? ⟨gs, k, none⟩ = (stC m (stepF gm gx gt) r n)[k]? := cell_of_row _ _ _ _ _ _ h.st
theorem StAt.frozen {w : World} {m : Md} {gs gm gx gt r n : Nat} (h : StAt w m gs gm gx gt r n) (k : Nat) : w.frozen? ⟨gs, k, none⟩ = false := frozen_of_row _ _ _ _ _ h.st

set_option maxRecDepth 100000 in
set_option maxHeartbeats 400000 in
theorem len_any (m : Md) (gs gm gx gt r n : Nat) (w : World) (h : StAt w m gs gm gx gt r n) : Calls Try.prog 42 #[.pointer (some ⟨gs, 0, none⟩)] w fun e w' => e = .returned (.int .u64 n) ∧ Below w.heap.size w w' := by
  have k9 : w.cell? ⟨gs, 9, none⟩ = some (.int .u64 n) := h.cell 9
  clear h
  go_enter Try.func42, Try.ntmps42
  go_wp2_with fail
  go_ret
  exact ⟨rfl, Below.refl _ _⟩

set_option maxRecDepth 100000 in
set_option maxHeartbeats 400000 in
theorem stSum_any (m : Md) (hm : MdOk m) (gs gm gx gt r n : Nat) (hr : r < 2 ^ m.w) (w : World) (h : StAt w m gs gm gx gt r n) : Calls Try.prog 41 #[.pointer (some ⟨gs, 0, none⟩)] w fun e w' => e = .returned (.int .u64 (toldS m r : Nat)) ∧ Below w.heap.size w w' := by
  have HE : Hid (∀ w, Calls Try.prog 58 #[m.bare.v, .int .u64 r] w fun e w' => e = .returned (.int .u64 (toldS m r : Nat)) ∧ Below w.heap.size w w') := fun w => ended_any m.bare (Md.bare_ok hm) r hr w
  have hcl : ∀ (i : BW w) (k : Nat), i.v.cell? ⟨gs, k, none⟩ = (stC m (stepF gm gx gt) r n)[k]? := fun i k => (h.next i.below).cell k
  have k0 := fun i => hcl i 0
  have k1 := fun i => hcl i 1
  have k2 := fun i => hcl i 2
  have k3 := fun i => hcl i 3
  have k4 := fun i => hcl i 4
  have k5 := fun i => hcl i 5
  have k6 := fun i => hcl i 6
  have k8 := fun i => hcl i 8
  generalize toldS m r = T at *
  obtain ⟨nm, ww, P, I, inn, out, X⟩ := m
  simp only [Md.bare, Md.v] at HE
  change ∀ i : BW w, i.v.cell? ⟨gs, 0, none⟩ = some (.string ⟨#[]⟩) at k0
  change ∀ i : BW w, i.v.cell? ⟨gs, 1, none⟩ = some (.int .i64 (ww : Int)) at k1
  change ∀ i : BW w, i.v.cell? ⟨gs, 2, none⟩ = some (.int .u64 (P : Int)) at k2
  change ∀ i : BW w, i.v.cell? ⟨gs, 3, none⟩ = some (.int .u64 (I : Int)) at k3
  change ∀ i : BW w, i.v.cell? ⟨gs, 4, none⟩ = some (.bool inn) at k4
  change ∀ i : BW w, i.v.cell? ⟨gs, 5, none⟩ = some (.bool out) at k5
  change ∀ i : BW w, i.v.cell? ⟨gs, 6, none⟩ = some (.int .u64 (X : Int)) at k6
  change ∀ i : BW w, i.v.cell? ⟨gs, 8, none⟩ = some (.int .u64 (r : Int)) at k8
  clear hcl h hm hr
  go_enter Try.func41, Try.ntmps41
  go_wp2_with fail
  refine wp_region_below (by kernel_rfl) (by kernel_rfl) ?_
  repeat (go_big_quiet_step ((go_at_call 58; exact Calls.below_of (HE.out _))))
  refine wpQuiet_nil ?_
  intro i
  go_wp2_with fail
  go_ret
  exact ⟨rfl, i.below⟩

set_option maxRecDepth 100000 in
set_option maxHeartbeats 2000000 in
theorem write_any (m : Md) (hm : MdOk m) (gs gm gx gt r n : Nat) (hr : r < 2 ^ m.w) (bs : List UInt8) (hl : bs.length ≤ 9223372036854775807) (sl : Value) (w : World) (h : StAt w m gs gm gx gt r n) (hs : ByAt w sl bs) (hne : ∀ a cap, sl = .slice (some a) bs.length cap → a.block ≠ gs) :
    Calls Try.prog 40 #[.pointer (some ⟨gs, 0, none⟩), sl] w fun e w' => e = .returned (.int .i64 bs.length) ∧ StAt w' m gs gm gx gt (runB m.w m.P r (streamOf m.inn bs)) ((n + bs.length) % 18446744073709551616) ∧ But gs w w' := by
  obtain ⟨a, cap, rfl, hsh⟩ := hs.shape
  have HSH := hidD hsh
  have HNE := hidD hne
  have HSP : Hid (∀ (r : Nat) (hr : r < 2 ^ m.w) (b : UInt8) (w : World), StepAt w m.bare gm gx gt → Calls Try.prog 63 #[.int .u64 r, .int .u8 b.toNat, .pointer (some ⟨gm, 0, none⟩), .pointer (some ⟨gx, 0, none⟩), .pointer (some ⟨gt, 0, none⟩)] w fun e w' => e = .returned (.int .u64 (runB m.w m.P r (bitsOf m.inn b.toNat) : Nat)) ∧ Below w.heap.size w w') := fun r hr b w h => step_any' m.bare (Md.bare_ok hm) r b.toNat hr b.toNat_lt gm gx gt w h
  have HTK := hidD (fun k h => reg_take m.w m.P r m.inn bs k h)
  have HRL := hidD (fun l => run_lt hm.P l r hr)
  have HRG : Hid (runB m.w m.P r (streamOf m.inn (bs.take bs.length)) = runB m.w m.P r (streamOf m.inn bs)) := by rw [List.take_length]; exact rfl
  have hwl : IntKind.u64.wrap (bs.length : Int) = (bs.length : Int) := by rw [IntKind.wrap_u64]; omega
  have hwm : (bs.length : Int) % 18446744073709551616 = (bs.length : Int) := by omega
  have hwn : IntKind.u64.wrap ((n : Int) + (bs.length : Int)) = (((n + bs.length) % 18446744073709551616 : Nat) : Int) := by rw [IntKind.wrap_u64]; omega
  have H0 := hidD h
  clear hm hs hsh hr hne h
  go_enter Try.func40, Try.ntmps40
  go_wp2_with fail
  go_loopw [11] (fun i wr => ∃ k : Nat, k ≤ bs.length ∧ i = .int .i64 k ∧ StAt wr m gs gm gx gt (runB m.w m.P r (streamOf m.inn (bs.take k))) n ∧ But gs w wr) (fun i _ => bs.length - (intOf i).toNat)
  case atStart => exact ⟨0, Nat.zero_le _, rfl, H0.out, But.refl _ _⟩
  case round =>
    obtain ⟨k, hk, rfl, hst, hbut⟩ := hrel
    have HBU := hidD hbut
    have HS0 := hidD hst
    by_cases hlt : k < bs.length
    · obtain ⟨g, off, rfl, hg, hc⟩ := HSH.out k hlt
      have hc1 : wr.cell? ⟨g, off + k, none⟩ = some (.int .u8 ((bs.getD k 0).toNat : Int)) := (hbut.cell hg (HNE.out _ _ rfl)).trans hc
      have HCL := hidD (HSP.out _ (HRL.out (streamOf m.inn (bs.take k))) (bs.getD k 0))
      have HTE : Hid (runB m.w m.P r (streamOf m.inn (bs.take (k + 1))) = runB m.w m.P (runB m.w m.P r (streamOf m.inn (bs.take k))) (bitsOf m.inn (bs.getD k 0).toNat)) := HTK.out k hlt
      generalize runB m.w m.P (runB m.w m.P r (streamOf m.inn (bs.take k))) (bitsOf m.inn (bs.getD k 0).toNat) = R1 at *
      generalize runB m.w m.P r (streamOf m.inn (bs.take k)) = R0 at *
      have k7 : wr.cell? ⟨gs, 7, none⟩ = some (stepF gm gx gt) := hst.cell 7
      have k8 : wr.cell? ⟨gs, 8, none⟩ = some (.int .u64 (R0 : Int)) := hst.cell 8
      have hlti : (k : Int) < bs.length := by omega
      simp only [stepF] at k7
      generalize (bs.getD k 0).toNat = cc at *
      clear hst hbut hc hg HTK HRL HSP HRG hwl hwm hwn
      go_wp2_with fail
      go_region_with (go_at_call 63; refine (HCL.out _ (HS0.out.sp.next ((Below.refl wr.heap.size wr).drew))).mono ?_; rintro e w3 ⟨rfl, hb3⟩; have hb4 : Below wr.heap.size wr w3 := ((Below.refl wr.heap.size wr).drew).trans hb3; have HS3 := hidD (HS0.out.next hb4); have HB3 := hidD hb4; have j8 : w3.cell? ⟨gs, 8, none⟩ = some (.int .u64 (R0 : Int)) := HS3.out.cell 8; have f8 := HS3.out.frozen 8; clear hb3 hb4)
      all_goals
        go_wp2
        go_roundw
        case rel => exact ⟨k + 1, by omega, by go_num, by rw [HTE.out]; exact HS3.out.put8 _, (HBU.out.trans (But.of HB3.out (Nat.le_of_lt (row_lt HS0.out.st)))).put 8 _⟩
        case measure => simp [intOf]; omega
    · obtain rfl : k = bs.length := by omega
      have k9 : wr.cell? ⟨gs, 9, none⟩ = some (.int .u64 (n : Int)) := hst.cell 9
      have f9 := hst.frozen 9
      clear hst hbut
      go_wp2_with fail
      go_ret
      exact ⟨rfl, by rw [← HRG.out]; exact HS0.out.put9 _, HBU.out.put 9 _⟩
end Go.Proofs.Ytjhaaphgaplhlaa
