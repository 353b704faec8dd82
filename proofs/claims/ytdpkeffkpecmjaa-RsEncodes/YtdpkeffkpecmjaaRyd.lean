/- RsEncodes. -/
import Derived.Test.YtdpkeffkpecmjaaRyc
namespace Go.Proofs.Ytdpkeffkpecmjaa
open Go.RowKit
set_option linter.unusedVariables false

set_option maxRecDepth 100000 in
theorem both_out (p f : Int) (h : ¬ (1 ≤ p ∧ p ≤ 254 ∧ 0 ≤ f ∧ f ≤ 254)) (w : World) : Calls Try.prog 9 #[.int .i64 p, .int .i64 f] w fun e w' => e = .returned (.tuple #[.pointer none, .pointer none, .bool true]) ∧ Below w.heap.size w w' := by
  have HN := hidD (fun w => rsnew_out p f h w)
  have HR := hidD (fun w => rkNew_out p f h w)
  clear h
  go_enter Try.func9, Try.ntmps9
  go_wp2_with (first
    | (go_at_call 30; refine (HN.out _).mono ?_; rintro e w1 ⟨rfl, hb⟩; have HB1 := hidD hb; clear hb)
    | (go_at_call 33; refine (HR.out _).mono ?_; rintro e w2 ⟨rfl, hb⟩; have HB2 := hidD (Below.next HB1.out hb); clear hb))
  refine bodyPost_ret (v := .tuple #[.pointer none, .pointer none, .bool true]) (by simp [results, Try.results9, go_sem]) rfl ?_
  exact ⟨rfl, HB2.out⟩
set_option maxRecDepth 100000 in
theorem both_ok (p f : Nat) (h1 : 1 ≤ p) (h2 : p ≤ 254) (h3 : f ≤ 254) (w : World) : Calls Try.prog 9 #[.int .i64 p, .int .i64 f] w fun e w' => ∃ c r, e = .returned (.tuple #[.pointer (some ⟨c, 0, none⟩), .pointer (some ⟨r, 0, none⟩), .bool true]) ∧ CdAt w' c p f ∧ RkAt w' r p f ∧ Below w.heap.size w w' := by
  have HN := hidD (rsnew_ok p f h1 h2 h3)
  have HR := hidD (rkNew_ok p f h1 h2 h3)
  go_enter Try.func9, Try.ntmps9
  go_wp2_with (first
    | (go_at_call 30; refine (HN.out _).mono ?_; rintro e w1 ⟨c, rfl, _, hc, hb⟩; have HC1 := hidD hc; have HB1 := hidD hb; clear hb hc)
    | (go_at_call 33; refine (HR.out _).mono ?_; rintro e w2 ⟨r, rfl, hr, hb⟩; have HR2 := hidD hr; have HC2 := hidD (HC1.out.next hb); have HB2 := hidD (Below.next HB1.out hb); clear hb hr))
  refine bodyPost_ret (v := .tuple #[.pointer (some ⟨c, 0, none⟩), .pointer (some ⟨r, 0, none⟩), .bool true]) (by simp [results, Try.results9, go_sem]) rfl ?_
  exact ⟨c, r, rfl, HC2.out, HR2.out, HB2.out⟩
set_option maxRecDepth 100000 in
theorem own_gen (l : List UInt8) (hl : l.length ≤ 140737488355200) (v : Value) (w : World) (hv : SlAt w v l) : Calls Try.prog 11 #[v] w fun e w' => ∃ a k, e = .returned (.slice a l.length k) ∧ SlAt w' (.slice a l.length k) l ∧ Below w.heap.size w w' := by
  have HV := hidD hv
  obtain ⟨⟨a', cap, rfl, hsh1, hsh2⟩, _⟩ := hv
  have HAL : Hid (∀ (w' : World) o, Below w'.heap.size w' (w'.alloc o)) := fun w' o => (Below.refl _ _).alloc (Nat.le_refl _) o
  have HOW0 : Hid ((w.alloc (.cells #[] (5 : TypeId))).ownsRow w.heap.size 5 1 (.slice (some ⟨w.heap.size, 0, none⟩) 0 0) 0 []) := full_row (Nat.le_refl _) rfl (by unfold maxLen; omega) (heap_alloc_last _ _)
  generalize hLL : l.length = LL at *
  have HLL := hidD hLL
  clear hLL
  go_enter Try.func11, Try.ntmps11
  go_wp2_with (at_builtin; refine wpList_append_by rfl _ _ rfl w.heap.size (.slice (some ⟨w.heap.size, 0, none⟩) 0 0) 0 [] rfl HOW0.out (.slice a' LL cap) l rfl (HV.out.by'.next (HAL.out _ _)) (by rw [HLL.out]; omega) (by simp) ?_; intro v8 w8 hown8 hg8; rw [HLL.out, Nat.zero_add, List.nil_append] at hown8; obtain ⟨a8, c8, hv8⟩ := row_shape hown8; subst hv8; have HO8 := hidD hown8; have HB8 := hidD (row_grown HOW0.out (HAL.out _ _) hg8 (by simp)); clear hown8 hg8)
  go_ret
  exact ⟨a8, c8, rfl, sl_of_own (base := w.heap.size) (by rw [HLL.out]; exact HO8.out), HB8.out⟩
/-- What lies in memory while the law looks. -/
structure Ecs (K : Option Addr → Option Addr → World → Prop) (pc pr : Option Addr) (vd vw v1 v2 : Value) (data word : List UInt8) (w : World) : Prop where
  k : K pc pr w
  sd : SlAt w vd data
  sw : SlAt w vw word
  s1 : SlAt w v1 data
  s2 : SlAt w v2 word
theorem Ecs.next {K : Option Addr → Option Addr → World → Prop} (hK : ∀ pc pr w w', K pc pr w → Below w.heap.size w w' → K pc pr w') {pc pr : Option Addr} {vd vw v1 v2 : Value} {data word : List UInt8} {w w' : World} (h : Ecs K pc pr vd vw v1 v2 data word w) (hb : Below w.heap.size w w') : Ecs K pc pr vd vw v1 v2 data word w' := ⟨hK _ _ _ _ h.k hb, h.sd.next hb, h.sw.next hb, h.s1.next hb, h.s2.next hb⟩
/-- A call of a code's that answers bytes and an error. -/
def Ans2 (K : Option Addr → Option Addr → World → Prop) (sel : Bool) (fn : Nat) (l L : List UInt8) (E : Int) : Prop := ∀ pc pr w v, K pc pr w → SlAt w v l → Calls Try.prog fn #[.pointer (if sel then pc else pr), v] w fun e w' => ∃ a k, e = .returned (.tuple #[.slice a L.length k, .int .i64 E]) ∧ SlAt w' (.slice a L.length k) L ∧ Below w.heap.size w w'
set_option maxRecDepth 100000 in
set_option maxHeartbeats 6400000 in
theorem encodes_of (K : Option Addr → Option Addr → World → Prop) (hK : ∀ pc pr w w', K pc pr w → Below w.heap.size w w' → K pc pr w') (p f : Int) (data word EL SL GL : List UInt8) (EE SE : Int) (G : Bool) (hdl : data.length ≤ 140737488355200) (hwl : word.length ≤ 140737488355200)
    (hbo : ∀ w, Calls Try.prog 9 #[.int .i64 p, .int .i64 f] w fun e w' => ∃ pc pr, e = .returned (.tuple #[.pointer pc, .pointer pr, .bool true]) ∧ K pc pr w' ∧ Below w.heap.size w w')
    (he1 : Ans2 K true 12 data EL EE) (he2 : Ans2 K false 13 data EL EE) (hs1 : Ans2 K true 14 word SL SE) (hs2 : Ans2 K false 15 word SL SE)
    (hg1 : ∀ pc pr w, K pc pr w → Calls Try.prog 17 #[.pointer pc] w fun e w' => ∃ a k, e = .returned (.slice a GL.length k) ∧ SlAt w' (.slice a GL.length k) GL ∧ Below w.heap.size w w')
    (hg2 : ∀ pc pr w, K pc pr w → Calls Try.prog 18 #[.pointer pr] w fun e w' => ∃ a k, e = .returned (.slice a GL.length k) ∧ SlAt w' (.slice a GL.length k) GL ∧ Below w.heap.size w w')
    (hd1 : ∀ pc pr w v, K pc pr w → SlAt w v word → Calls Try.prog 19 #[.pointer pc, v] w fun e w' => e = .returned (.bool G) ∧ Below w.heap.size w w')
    (hd2 : ∀ pc pr w v, K pc pr w → SlAt w v word → Calls Try.prog 20 #[.pointer pr, v] w fun e w' => e = .returned (.bool G) ∧ Below w.heap.size w w')
    (vd vw : Value) (w : World) (hvd : SlAt w vd data) (hvw : SlAt w vw word) : Calls Try.prog 3 #[.int .i64 p, .int .i64 f, vd, vw] w fun e w' => e = .returned (.bool true) ∧ Below w.heap.size w w' := by
  have HK := hidD hK
  have HVD := hidD hvd
  have HVW := hidD hvw
  have HBO := hidD hbo
  have HE1 := hidD (fun pc pr w v h1 h2 => he1 pc pr w v h1 h2)
  have HE2 := hidD (fun pc pr w v h1 h2 => he2 pc pr w v h1 h2)
  have HS1 := hidD (fun pc pr w v h1 h2 => hs1 pc pr w v h1 h2)
  have HS2 := hidD (fun pc pr w v h1 h2 => hs2 pc pr w v h1 h2)
  simp only [if_true, if_false, Bool.false_eq_true] at HE1 HE2 HS1 HS2
  have HG1 := hidD hg1
  have HG2 := hidD hg2
  have HD1 := hidD hd1
  have HD2 := hidD hd2
  have HA := hidD alive_any
  have HO1 := hidD (fun w v h => own_gen data hdl v w h)
  have HO2 := hidD (fun w v h => own_gen word hwl v w h)
  have HSA : Hid (∀ (L : List UInt8) wA u v, SlAt wA u L → SlAt wA v L → Calls Try.prog 16 #[u, v] wA fun e w' => e = .returned (.bool true) ∧ Below wA.heap.size wA w') := fun L wA u v hu hv => by
    have := same_any L L u v wA hu.by' hv.by'
    rw [decide_eq_true rfl] at this; exact this
  have hEE : (EE == EE) = true := beq_self_eq_true _
  have hSE : (SE == SE) = true := beq_self_eq_true _
  have hGG : (G == G) = true := beq_self_eq_true _
  obtain ⟨⟨ad, cd, rfl, _, _⟩, _⟩ := hvd
  obtain ⟨⟨aw, cw, rfl, _, _⟩, _⟩ := hvw
  clear hK hbo he1 he2 hs1 hs2 hg1 hg2 hd1 hd2 hdl hwl
  generalize EL.length = EN at *
  generalize SL.length = SN at *
  generalize GL.length = GN at *
  generalize data.length = DN at *
  generalize word.length = WN at *
  go_enter Try.func3, Try.ntmps3
  go_wp2_with (first
    | (go_at_call 9; refine (HBO.out _).mono ?_; rintro e w1 ⟨pc, pr, rfl, hk, hb⟩; have HK1 := hidD hk; have HB1 := hidD hb; clear hb hk)
    | (go_at_call 10; refine (HA.out _).mono ?_; rintro e w2 ⟨rfl, hb⟩; have HK2 := hidD (HK.out _ _ _ _ HK1.out hb); have HB2 := hidD (Below.next HB1.out hb); clear hb HK1 HB1)
    | (go_at_call 11; refine (HO1.out _ _ (HVD.out.next HB2.out)).mono ?_; rintro e w3 ⟨a3, k3, rfl, hs, hb⟩; have HK3 := hidD (HK.out _ _ _ _ HK2.out hb); have HS3 := hidD hs; have HB3 := hidD (Below.next HB2.out hb); clear hb hs HK2 HB2)
    | (go_at_call 11; refine (HO2.out _ _ (HVW.out.next HB3.out)).mono ?_; rintro e w4 ⟨a4, k4, rfl, hs, hb⟩; have HB4 := hidD (Below.next HB3.out hb); have HX4 : Hid (Ecs K pc pr (.slice ad DN cd) (.slice aw WN cw) (.slice a3 DN k3) (.slice a4 WN k4) data word w4) := ⟨HK.out _ _ _ _ HK3.out hb, HVD.out.next HB4.out, HVW.out.next HB4.out, HS3.out.next hb, hs⟩; clear hb hs HK3 HB3 HS3)
    | (go_at_call 12; refine (HE1.out _ _ _ _ HX4.out.k HX4.out.s1).mono ?_; rintro e w5 ⟨a5, k5, rfl, hs, hb⟩; have HX5 := hidD (HX4.out.next HK.out hb); have HP5 := hidD hs; have HB5 := hidD (Below.next HB4.out hb); clear hb hs HX4 HB4)
    | (go_at_call 13; refine (HE2.out _ _ _ _ HX5.out.k HX5.out.sd).mono ?_; rintro e w6 ⟨a6, k6, rfl, hs, hb⟩; have HX6 := hidD (HX5.out.next HK.out hb); have HP6 := hidD (HP5.out.next hb); have HQ6 := hidD hs; have HB6 := hidD (Below.next HB5.out hb); clear hb hs HX5 HB5 HP5)
    | (go_at_call 14; refine (HS1.out _ _ _ _ HX6.out.k HX6.out.s2).mono ?_; rintro e w7 ⟨a7, k7, rfl, hs, hb⟩; have HX7 := hidD (HX6.out.next HK.out hb); have HP7 := hidD (HP6.out.next hb); have HQ7 := hidD (HQ6.out.next hb); have HT7 := hidD hs; have HB7 := hidD (Below.next HB6.out hb); clear hb hs HX6 HB6 HP6 HQ6)
    | (go_at_call 15; refine (HS2.out _ _ _ _ HX7.out.k HX7.out.sw).mono ?_; rintro e w8 ⟨a8, k8, rfl, hs, hb⟩; have HX8 := hidD (HX7.out.next HK.out hb); have HP8 := hidD (HP7.out.next hb); have HQ8 := hidD (HQ7.out.next hb); have HT8 := hidD (HT7.out.next hb); have HU8 := hidD hs; have HB8 := hidD (Below.next HB7.out hb); clear hb hs HX7 HB7 HP7 HQ7 HT7)
    | (go_at_call 17; refine (HG1.out _ _ _ HX8.out.k).mono ?_; rintro e w9 ⟨a9, k9, rfl, hs, hb⟩; have HX9 := hidD (HX8.out.next HK.out hb); have HP9 := hidD (HP8.out.next hb); have HQ9 := hidD (HQ8.out.next hb); have HT9 := hidD (HT8.out.next hb); have HU9 := hidD (HU8.out.next hb); have HV9 := hidD hs; have HB9 := hidD (Below.next HB8.out hb); clear hb hs HX8 HB8 HP8 HQ8 HT8 HU8)
    | (go_at_call 18; refine (HG2.out _ _ _ HX9.out.k).mono ?_; rintro e wA ⟨aA, kA, rfl, hs, hb⟩; have HXA := hidD (HX9.out.next HK.out hb); have HPA := hidD (HP9.out.next hb); have HQA := hidD (HQ9.out.next hb); have HTA := hidD (HT9.out.next hb); have HUA := hidD (HU9.out.next hb); have HVA := hidD (HV9.out.next hb); have HWA := hidD hs; have HBA := hidD (Below.next HB9.out hb); clear hb hs HX9 HB9 HP9 HQ9 HT9 HU9 HV9)
    | (go_at_call 16; refine (HSA.out GL _ _ _ HVA.out HWA.out).mono ?_; rintro e wB ⟨rfl, hb⟩; have HXB := hidD (HXA.out.next HK.out hb); have HPB := hidD (HPA.out.next hb); have HQB := hidD (HQA.out.next hb); have HTB := hidD (HTA.out.next hb); have HUB := hidD (HUA.out.next hb); have HBB := hidD (Below.next HBA.out hb); clear hb HXA HBA HPA HQA HTA HUA HVA HWA)
    | (go_at_call 16; refine (HSA.out EL _ _ _ HPB.out HQB.out).mono ?_; rintro e wC ⟨rfl, hb⟩; have HXC := hidD (HXB.out.next HK.out hb); have HTC := hidD (HTB.out.next hb); have HUC := hidD (HUB.out.next hb); have HBC := hidD (Below.next HBB.out hb); clear hb HXB HBB HPB HQB HTB HUB)
    | (go_at_call 16; refine (HSA.out SL _ _ _ HTC.out HUC.out).mono ?_; rintro e wD ⟨rfl, hb⟩; have HXD := hidD (HXC.out.next HK.out hb); have HBD := hidD (Below.next HBC.out hb); clear hb HXC HBC HTC HUC)
    | (go_at_call 19; refine (HD1.out _ _ _ _ HXD.out.k HXD.out.s2).mono ?_; rintro e wE ⟨rfl, hb⟩; have HXE := hidD (HXD.out.next HK.out hb); have HBE := hidD (Below.next HBD.out hb); clear hb HXD HBD)
    | (go_at_call 20; refine (HD2.out _ _ _ _ HXE.out.k HXE.out.sw).mono ?_; rintro e wF ⟨rfl, hb⟩; have HXF := hidD (HXE.out.next HK.out hb); have HBF := hidD (Below.next HBE.out hb); clear hb HXE HBE)
    | (go_at_call 16; refine (HSA.out data _ _ _ HXF.out.s1 HXF.out.sd).mono ?_; rintro e wG ⟨rfl, hb⟩; have HXG := hidD (HXF.out.next HK.out hb); have HBG := hidD (Below.next HBF.out hb); clear hb HXF HBF)
    | (go_at_call 16; refine (HSA.out word _ _ _ HXG.out.s2 HXG.out.sw).mono ?_; rintro e wH ⟨rfl, hb⟩; have HBH := hidD (Below.next HBG.out hb); clear hb HXG HBG))
  go_ret
  exact ⟨rfl, HBH.out⟩
end Go.Proofs.Ytdpkeffkpecmjaa
