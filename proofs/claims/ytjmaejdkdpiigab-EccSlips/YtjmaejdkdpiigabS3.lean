/- EccSlips: one digit behind a number makes it right; with one digit changed it is not, nor with two neighbours exchanged. -/
import Derived.Test.YtjmaejdkdpiigabS2
import Derived.Test.YtjmaejdkdpiigabL1
namespace Go.Proofs.Ytjmaejdkdpiigab
open Go.RowKit
set_option linter.unusedVariables false

/- the bytes of a text, in a new row -/
theorem bytes_new (w : World) (L : List UInt8) : ∃ cap w', (convert (9 : TypeId) (27 : TypeId) (.string ⟨L.toArray⟩)).run Try.prog w = .ok (.slice (some ⟨w.heap.size, 0, none⟩) L.length cap) w' ∧ RowF w' w.heap.size L ∧ Below w.heap.size w w' := by
  have h := run_bytes_of_string (P := Try.prog) w (9 : TypeId) (27 : TypeId) (5 : TypeId) ⟨L.toArray⟩ Try.underlying9 Try.underlying27 Try.underlying5
  rw [ba_size] at h
  refine ⟨_, _, h, ?_, ((Below.refl w.heap.size w).drew).alloc (Nat.le_refl _) _⟩
  have hb : bytesRow ⟨L.toArray⟩ (grownCap w L.length 0 5) = (L.map encB ++ (List.replicate (grownCap w L.length 0 5 - L.length) (Value.int .u8 0))).toArray := by
    apply Array.toList_inj.1
    simp [bytesRow]
    rw [ba_size]
    rfl
  refine ⟨List.replicate (grownCap w L.length 0 5 - L.length) (Value.int .u8 0), (bytesRow ⟨L.toArray⟩ (grownCap w L.length 0 5)).size, (bytesRow ⟨L.toArray⟩ (grownCap w L.length 0 5)).size + 1, ?_, ?_⟩
  · have e : (w.drew.alloc (.cells (bytesRow ⟨L.toArray⟩ (grownCap w L.length 0 5)) (5 : TypeId) ((bytesRow ⟨L.toArray⟩ (grownCap w L.length 0 5)).size, (bytesRow ⟨L.toArray⟩ (grownCap w L.length 0 5)).size + 1))).heap[w.drew.heap.size]? = _ := heap_alloc_last _ _
    refine e.trans ?_
    rw [hb]
  · rw [hb]; simp
/- the place that a number means -/
def plS (n : Nat) (a : Int) : Nat := (if a < 0 then -(a + 1) else a).toNat % n
theorem pl_neg (n : Nat) (a : Int) (h : a < 0) : (-(a + 1)).tmod n = ((plS n a : Nat) : Int) := by
  unfold plS
  rw [if_pos h]
  have h1 : -(a + 1) = (((-(a + 1)).toNat : Nat) : Int) := by omega
  generalize (-(a + 1)).toNat = k at *
  rw [h1]; rfl
theorem pl_pos (n : Nat) (a : Int) (h : ¬ a < 0) : a.tmod n = ((plS n a : Nat) : Int) := by
  unfold plS
  rw [if_neg h]
  have h1 : a = ((a.toNat : Nat) : Int) := by omega
  generalize a.toNat = k at *
  rw [h1]; rfl
theorem lr_own {s : List UInt8} (hs : AllD s) : lrP (s ++ [chS (ckS (suTo (dgS s) 1 s.length))]) := by
  have h := lr_snoc hs (k := ckS (suTo (dgS s) 1 s.length)) (Nat.mod_lt _ (by decide))
  rw [decide_eq_true rfl] at h
  exact of_decide_eq_true h
theorem vr_own {s : List UInt8} (hs : AllD s) : vrP (s ++ [chS (ivS (veTo (dgS s) 1 s.length))]) := by
  have h := vr_snoc hs (k := ivS (veTo (dgS s) 1 s.length)) (iv_ok _ (ve_lt (dg_dgs hs) 1 s.length)).1
  rw [decide_eq_true rfl] at h
  exact of_decide_eq_true h
/- a byte's text, and a text and a byte -/
theorem one_text (c : UInt8) (n : Nat) (hc : c.toNat = n) (w1 : World) : (convert (27 : TypeId) (9 : TypeId) (.slice (some ⟨w1.heap.size, 0, none⟩) 1 1)).run Try.prog (w1.alloc (.cells #[.int .u8 (n : Int)] (5 : TypeId))) = .ok (.string ⟨#[c]⟩) (w1.alloc (.cells #[.int .u8 (n : Int)] (5 : TypeId))) := by
  subst hc
  refine run_convert_bytes_back _ (27 : TypeId) (9 : TypeId) (5 : TypeId) ⟨w1.heap.size, 0, none⟩ 1 [c] Try.underlying27 Try.underlying5 Try.underlying9 (fun j hj => ?_)
  obtain rfl : j = 0 := by simpa using hj
  rw [Go.WideShapes.add_plain]
  show (w1.alloc _).cell? _ = _
  rw [World.cell?_alloc_new]
  rfl
theorem text_add (s : List UInt8) (hs : s.length ≤ 140737488351232) (c : UInt8) (w1 : World) : (Op.stringOp .add ({ data := s.toArray } : ByteArray) { data := #[c] }).run Try.prog w1 = .ok (.string ⟨(s ++ [c]).toArray⟩) w1 := by
  rw [run_string_add_sum _ _ _ (by rw [ba_size, show ({ data := #[c] } : ByteArray).size = 1 from rfl]; omega), show ({ data := s.toArray } : ByteArray) ++ { data := #[c] } = ⟨(s ++ [c]).toArray⟩ from ba_append s [c]]

set_option maxRecDepth 100000 in
set_option maxHeartbeats 1600000 in
theorem slipsLaw_no (s : List UInt8) (hs : s.length ≤ 140737488351232) (hd : ¬ AllD s) (at1 : Int) (dg : Nat) (w : World) : Calls Try.prog 3 #[.string ⟨s.toArray⟩, .int .i64 at1, .int .u8 (dg : Int)] w fun e w' => e = .returned (.bool true) ∧ Below w.heap.size w w' := by
  have HL := hidD live_any
  have HN : Hid (∀ z w, Calls Try.prog 7 #[.int .i64 z] w fun e w' => e = .returned (.int .i64 z) ∧ w' = w) := fun z w => no_any z w
  have H1 := hidD (luhn_no s (by omega) hd)
  have H2 := hidD (verhoeff_no s (by omega) hd)
  clear hd
  go_enter Try.func3, Try.ntmps3
  go_wp2_with (first | (go_at_call 4; refine (HL.out _).mono ?_; rintro e w1 ⟨rfl, hb1⟩) | (go_at_call 5; refine (H1.out _).mono ?_; rintro e wx ⟨rfl, hbx⟩) | (go_at_call 6; refine (H2.out _).mono ?_; rintro e wx ⟨rfl, hbx⟩) | (go_at_call 7; refine (HN.out _ _).mono ?_; rintro e wx ⟨rfl, hbx⟩))
  go_ret
  exact ⟨rfl, hb1⟩
end Go.Proofs.Ytjmaejdkdpiigab
