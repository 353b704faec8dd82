/- What the statements' alive answers: the chapter's first example, and a word that is mended. -/
import Derived.Test.YtdpkeffkpecmjaaRss
namespace Go.Proofs.Ytdpkeffkpecmjaa
open Go.RowKit
set_option linter.unusedVariables false

def ex1 : List UInt8 := [1]
def ex132 : List UInt8 := [1, 3, 2]
def ex133 : List UInt8 := [1, 3, 3]
def ex032 : List UInt8 := [0, 3, 2]
def ex231 : List UInt8 := [2, 3, 1]
def exI0 : List Int := [0]
theorem ex_gen : genTo 0 2 = ex231 := by decide +kernel
theorem ex_enc : encS 0 2 ex1 = ex132 := by decide +kernel
theorem ex_good : goodS 0 2 ex132 = true := by decide +kernel
theorem ex_bad : goodS 0 2 ex133 = false := by decide +kernel
theorem ex_err : mErr 0 2 ex032 [] = 0 := by decide +kernel
theorem ex_dec : (dWord 0 2 ex032 []).take 1 = ex1 := by decide +kernel
theorem ex_dif : difTo (dWord 0 2 ex032 []) ex032 3 = exI0 := by decide +kernel
theorem lit_sl (w : World) (L : List UInt8) (C : Array Value) (hC : C = (L.map encB).toArray) (n : Nat) (hn : n = L.length) (hm : n ≤ 9223372036854775807) : SlAt (w.alloc (.cells C (5 : TypeId))) (.slice (some ⟨w.heap.size, 0, none⟩) n n) L := by
  subst hC
  exact SlAt.row (heap_alloc_last _ _) hn hm
theorem lit_il (w : World) (L : List Int) (C : Array Value) (hC : C = (L.map encI).toArray) (n : Nat) (hn : n = L.length) (hm : n ≤ 9223372036854775807) : IlAt (w.alloc (.cells C (3 : TypeId))) (.slice (some ⟨w.heap.size, 0, none⟩) n n) L := by
  subst hC hn
  exact RowI.il (heap_alloc_last _ _) hm
set_option maxRecDepth 100000 in
set_option maxHeartbeats 3200000 in
theorem alive_any (w : World) : Calls Try.prog 10 #[] w fun e w' => e = .returned (.bool true) ∧ Below w.heap.size w w' := by
  have HAL : Hid (∀ (w' : World) o, Below w'.heap.size w' (w'.alloc o)) := fun w' o => (Below.refl _ _).alloc (Nat.le_refl _) o
  have HN := hidD (rsnew_ok 2 0 (by omega) (by omega) (by omega) w)
  have HEn : Hid (∀ wA vA c, CdAt wA c 2 0 → SlAt wA vA ex1 → Calls Try.prog 12 #[.pointer (some ⟨c, 0, none⟩), vA] wA fun e w' => ∃ g, e = .returned (.tuple #[.slice (some ⟨g, 0, none⟩) 3 3, .int .i64 0]) ∧ SlAt w' (.slice (some ⟨g, 0, none⟩) 3 3) ex132 ∧ Below wA.heap.size wA w') := fun wA vA c hc hv => by
    have := encode_ok (by omega) ex1 (by decide) (by decide) vA wA hc hv
    rw [ex_enc] at this
    refine this.mono ?_
    rintro e w' ⟨g, he, _, hr, hb⟩
    exact ⟨g, he, SlAt.row hr rfl (by omega), hb⟩
  have HDe : Hid (∀ wA vA c, CdAt wA c 2 0 → SlAt wA vA ex032 → Calls Try.prog 21 #[.pointer (some ⟨c, 0, none⟩), vA, .slice none 0 0] wA fun e w' => ∃ g a k, e = .returned (.tuple #[.slice (some ⟨g, 0, none⟩) 1 1, .slice a 1 k, .int .i64 0]) ∧ SlAt w' (.slice (some ⟨g, 0, none⟩) 1 1) ex1 ∧ IlAt w' (.slice a 1 k) exI0 ∧ Below wA.heap.size wA w') := fun wA vA c hc hv => by
    have := decode_ok (by omega) (by omega) (by omega) ex032 [] ((fine_iff _ _ _ _).1 ex_err) vA _ wA hc hv (IlAt.nil wA)
    rw [show ex032.length = 3 from rfl, show 3 - 2 = 1 from rfl, ex_dec, ex_dif] at this
    refine this.mono ?_
    rintro e w' ⟨g, u, rfl, hr, hi, hb⟩
    obtain ⟨a, k, rfl, h1, h2, h3⟩ := hi
    exact ⟨g, a, k, rfl, SlAt.row hr rfl (by omega), ⟨a, k, rfl, h1, h2, h3⟩, hb⟩
  have HG1 : Hid (∀ wA vA c, CdAt wA c 2 0 → SlAt wA vA ex132 → Calls Try.prog 19 #[.pointer (some ⟨c, 0, none⟩), vA] wA fun e w' => e = .returned (.bool true) ∧ Below wA.heap.size wA w') := fun wA vA c hc hv => by
    have := good_any (by omega) (by omega) ex132 vA wA hc hv
    rw [ex_good] at this; exact this
  have HG2 : Hid (∀ wA vA c, CdAt wA c 2 0 → SlAt wA vA ex133 → Calls Try.prog 19 #[.pointer (some ⟨c, 0, none⟩), vA] wA fun e w' => e = .returned (.bool false) ∧ Below wA.heap.size wA w') := fun wA vA c hc hv => by
    have := good_any (by omega) (by omega) ex133 vA wA hc hv
    rw [ex_bad] at this; exact this
  have HGe : Hid (∀ wA c, CdAt wA c 2 0 → Calls Try.prog 17 #[.pointer (some ⟨c, 0, none⟩)] wA fun e w' => ∃ g, e = .returned (.slice (some ⟨g, 0, none⟩) 3 3) ∧ SlAt w' (.slice (some ⟨g, 0, none⟩) 3 3) ex231 ∧ Below wA.heap.size wA w') := fun wA c hc => by
    have := generator_any (by omega) wA hc
    rw [ex_gen] at this
    refine this.mono ?_
    rintro e w' ⟨rfl, hr, hb⟩
    exact ⟨_, rfl, SlAt.row hr rfl (by omega), hb⟩
  have HSA : Hid (∀ (L : List UInt8) wA u v, SlAt wA u L → SlAt wA v L → Calls Try.prog 16 #[u, v] wA fun e w' => e = .returned (.bool true) ∧ Below wA.heap.size wA w') := fun L wA u v hu hv => by
    have := same_any L L u v wA hu.by' hv.by'
    rw [decide_eq_true rfl] at this; exact this
  have HIN : Hid (∀ wA u v, IlAt wA u exI0 → IlAt wA v exI0 → Calls Try.prog 25 #[u, v] wA fun e w' => e = .returned (.bool true) ∧ Below wA.heap.size wA w') := fun wA u v hu hv => by
    have := ints_any exI0 exI0 (by decide) u v wA hu hv
    rw [decide_eq_true rfl] at this; exact this
  have HL1 : Hid (∀ w : World, SlAt (w.alloc (.cells #[.int .u8 1] (5 : TypeId))) (.slice (some ⟨w.heap.size, 0, none⟩) 1 1) ex1) := fun w => lit_sl w ex1 _ rfl 1 rfl (by omega)
  have HL032 : Hid (∀ w : World, SlAt (w.alloc (.cells #[.int .u8 0, .int .u8 3, .int .u8 2] (5 : TypeId))) (.slice (some ⟨w.heap.size, 0, none⟩) 3 3) ex032) := fun w => lit_sl w ex032 _ rfl 3 rfl (by omega)
  have HL132 : Hid (∀ w : World, SlAt (w.alloc (.cells #[.int .u8 1, .int .u8 3, .int .u8 2] (5 : TypeId))) (.slice (some ⟨w.heap.size, 0, none⟩) 3 3) ex132) := fun w => lit_sl w ex132 _ rfl 3 rfl (by omega)
  have HL133 : Hid (∀ w : World, SlAt (w.alloc (.cells #[.int .u8 1, .int .u8 3, .int .u8 3] (5 : TypeId))) (.slice (some ⟨w.heap.size, 0, none⟩) 3 3) ex133) := fun w => lit_sl w ex133 _ rfl 3 rfl (by omega)
  have HL231 : Hid (∀ w : World, SlAt (w.alloc (.cells #[.int .u8 2, .int .u8 3, .int .u8 1] (5 : TypeId))) (.slice (some ⟨w.heap.size, 0, none⟩) 3 3) ex231) := fun w => lit_sl w ex231 _ rfl 3 rfl (by omega)
  have HLI : Hid (∀ w : World, IlAt (w.alloc (.cells #[.int .i64 0] (3 : TypeId))) (.slice (some ⟨w.heap.size, 0, none⟩) 1 1) exI0) := fun w => lit_il w exI0 _ rfl 1 rfl (by omega)
  generalize ex1 = x1 at *
  generalize ex132 = x132 at *
  generalize ex133 = x133 at *
  generalize ex032 = x032 at *
  generalize ex231 = x231 at *
  generalize exI0 = xI at *
  go_enter Try.func10, Try.ntmps10
  go_wp2_with (first
    | (go_at_call 30; refine HN.out.mono ?_; rintro e w1 ⟨c, rfl, hc0, hc1, hb1⟩; have HC1 := hidD hc1; have HB1 := hidD hb1; clear hc0 hc1 hb1 HN)
    | (go_at_call 12; refine (HEn.out _ _ _ (HC1.out.next (HAL.out _ _)) (HL1.out _)).mono ?_; rintro e w2 ⟨g2, rfl, hr2, hb2⟩; have HX := hidD (Below.next (HAL.out _ _) hb2); have HC2 := hidD (HC1.out.next HX.out); have HB2 := hidD (Below.next HB1.out HX.out); have HR2 := hidD hr2; clear hr2 hb2 HX HC1 HB1)
    | (go_at_call 21; refine (HDe.out _ _ _ (HC2.out.next (HAL.out _ _)) (HL032.out _)).mono ?_; rintro e w3 ⟨g3, a3, k3, rfl, hr3, hi3, hb3⟩; have HX := hidD (Below.next (HAL.out _ _) hb3); have HC3 := hidD (HC2.out.next HX.out); have HB3 := hidD (Below.next HB2.out HX.out); have HR3 := hidD (HR2.out.next HX.out); have HD3 := hidD hr3; have HI3 := hidD hi3; clear hr3 hi3 hb3 HX HC2 HB2 HR2)
    | (go_at_call 16; refine (HSA.out x132 _ _ _ (HR3.out.next (HAL.out _ _)) (HL132.out _)).mono ?_; rintro e w4 ⟨rfl, hb4⟩; have HX := hidD (Below.next (HAL.out _ _) hb4); have HC4 := hidD (HC3.out.next HX.out); have HB4 := hidD (Below.next HB3.out HX.out); have HR4 := hidD (HR3.out.next HX.out); have HD4 := hidD (HD3.out.next HX.out); have HI4 := hidD (HI3.out.next HX.out); clear hb4 HX HC3 HB3 HR3 HD3 HI3)
    | (go_at_call 19; refine (HG1.out _ _ _ HC4.out HR4.out).mono ?_; rintro e w5 ⟨rfl, hb5⟩; have HX := hidD hb5; have HC5 := hidD (HC4.out.next HX.out); have HB5 := hidD (Below.next HB4.out HX.out); have HD5 := hidD (HD4.out.next HX.out); have HI5 := hidD (HI4.out.next HX.out); clear hb5 HX HC4 HB4 HR4 HD4 HI4)
    | (go_at_call 19; refine (HG2.out _ _ _ (HC5.out.next (HAL.out _ _)) (HL133.out _)).mono ?_; rintro e w6 ⟨rfl, hb6⟩; have HX := hidD (Below.next (HAL.out _ _) hb6); have HC6 := hidD (HC5.out.next HX.out); have HB6 := hidD (Below.next HB5.out HX.out); have HD6 := hidD (HD5.out.next HX.out); have HI6 := hidD (HI5.out.next HX.out); clear hb6 HX HC5 HB5 HD5 HI5)
    | (go_at_call 16; refine (HSA.out x1 _ _ _ (HD6.out.next (HAL.out _ _)) (HL1.out _)).mono ?_; rintro e w7 ⟨rfl, hb7⟩; have HX := hidD (Below.next (HAL.out _ _) hb7); have HC7 := hidD (HC6.out.next HX.out); have HB7 := hidD (Below.next HB6.out HX.out); have HI7 := hidD (HI6.out.next HX.out); clear hb7 HX HC6 HB6 HD6 HI6)
    | (go_at_call 25; refine (HIN.out _ _ _ (HI7.out.next (HAL.out _ _)) (HLI.out _)).mono ?_; rintro e w8 ⟨rfl, hb8⟩; have HX := hidD (Below.next (HAL.out _ _) hb8); have HC8 := hidD (HC7.out.next HX.out); have HB8 := hidD (Below.next HB7.out HX.out); clear hb8 HX HC7 HB7 HI7)
    | (go_at_call 17; refine (HGe.out _ _ HC8.out).mono ?_; rintro e w9 ⟨g9, rfl, hr9, hb9⟩; have HB9 := hidD (Below.next HB8.out hb9); have HR9 := hidD hr9; clear hb9 hr9 HC8 HB8)
    | (go_at_call 16; refine (HSA.out x231 _ _ _ (HR9.out.next (HAL.out _ _)) (HL231.out _)).mono ?_; rintro e wA ⟨rfl, hbA⟩; have HBA := hidD (Below.next HB9.out (Below.next (HAL.out _ _) hbA)); clear hbA HB9 HR9))
  go_ret
  exact ⟨rfl, HBA.out⟩
end Go.Proofs.Ytdpkeffkpecmjaa
