/- GfPolynomials' walk. -/
import Derived.Test.YtfngnajjlhnglaaRpb
import Derived.Test.YtfngnajjlhnglaaCrs
namespace Go.Proofs.Ytfngnajjlhnglaa
open Go.RowKit
set_option linter.unusedVariables false

/-- What a call that hands out one list answers, in whatever world that holds K and the lists. -/
def Lists1 (K : Option Addr → World → Prop) (f : Nat) (p q : List UInt8) (L : List UInt8) : Prop :=
  ∀ w pf va vb, K pf w → SlAt w va p → SlAt w vb q → Calls Try.prog f #[.pointer pf, va, vb] w fun e w' => ∃ v, e = .returned v ∧ SlAt w' v L ∧ Below w.heap.size w w'
def Lists2 (K : Option Addr → World → Prop) (f : Nat) (p q : List UInt8) (L M : List UInt8) (E : Int) : Prop :=
  ∀ w pf va vb, K pf w → SlAt w va p → SlAt w vb q → Calls Try.prog f #[.pointer pf, va, vb] w fun e w' => ∃ v u, e = .returned (.tuple #[v, u, .int .i64 E]) ∧ SlAt w' v L ∧ SlAt w' u M ∧ Below w.heap.size w w'
def Roots1 (K : Option Addr → World → Prop) (f : Nat) (p : List UInt8) (L : List UInt8) : Prop :=
  ∀ w pf va, K pf w → SlAt w va p → Calls Try.prog f #[.pointer pf, va] w fun e w' => ∃ v, e = .returned v ∧ SlAt w' v L ∧ Below w.heap.size w w'
def Eval1 (K : Option Addr → World → Prop) (f : Nat) (p : List UInt8) (x : UInt8) (X : Int) : Prop :=
  ∀ w pf va, K pf w → SlAt w va p → Calls Try.prog f #[.pointer pf, va, .int .u8 (x.toNat : Int)] w fun e w' => e = .returned (.int .u8 X) ∧ Below w.heap.size w w'
def News (K : Option Addr → World → Prop) (f : Nat) (Q : Int) (G : UInt8) (bN : Bool) : Prop :=
  ∀ w, Calls Try.prog f #[.int .i64 Q, .int .u8 (G.toNat : Int)] w fun e w' => ∃ pf E, e = .returned (.tuple #[.pointer pf, .int .i64 E]) ∧ pf.isNone = bN ∧ K pf w' ∧ Below w.heap.size w w'
def Goes (K : Option Addr → World → Prop) : Prop := ∀ pf w w', K pf w → Below w.heap.size w w' → K pf w'
theorem same_bytes (l : List UInt8) (v u : Value) (w : World) (hv : SlAt w v l) (hu : SlAt w u l) : Calls Try.prog 34 #[v, u] w fun e w' => e = .returned (.bool true) ∧ w' = w := by
  have := bytes_any l l v u w hv.by' hu.by'
  rwa [show decide (l = l) = true by simp] at this
/-- What the law holds on to. -/
def Hold (K1 K2 : Option Addr → World → Prop) (pf pr : Option Addr) (vp vq va vb : Value) (p q : List UInt8) (w : World) : Prop := K1 pf w ∧ K2 pr w ∧ SlAt w vp p ∧ SlAt w vq q ∧ SlAt w va p ∧ SlAt w vb q
theorem Hold.next {K1 K2 : Option Addr → World → Prop} {pf pr : Option Addr} {vp vq va vb : Value} {p q : List UInt8} {w w' : World} (h : Hold K1 K2 pf pr vp vq va vb p q w) (h1 : Goes K1) (h2 : Goes K2) (hb : Below w.heap.size w w') : Hold K1 K2 pf pr vp vq va vb p q w' :=
  ⟨h1 _ _ _ h.1 hb, h2 _ _ _ h.2.1 hb, h.2.2.1.next hb, h.2.2.2.1.next hb, h.2.2.2.2.1.next hb, h.2.2.2.2.2.next hb⟩

set_option maxRecDepth 100000 in
set_option maxHeartbeats 4000000 in
theorem polys_of (K1 K2 : Option Addr → World → Prop) (bN : Bool) (g1 : Goes K1) (g2 : Goes K2) (Q : Int) (G x : UInt8) (p q LQ LM LP LT LR : List UInt8) (E X : Int)
    (hN1 : News K1 16 Q G bN) (hN2 : News K2 17 Q G bN) (hD1 : Lists2 K1 30 p q LQ LM E) (hD2 : Lists2 K2 31 p q LQ LM E) (hE1 : Eval1 K1 32 p x X) (hE2 : Eval1 K2 33 p x X)
    (hP1 : Lists1 K1 35 p q LP) (hP2 : Lists1 K2 36 p q LP) (hT1 : Lists1 K1 37 p q LT) (hT2 : Lists1 K2 38 p q LT) (hR1 : Roots1 K1 39 p LR) (hR2 : Roots1 K2 40 p LR)
    (hpl : p.length ≤ 140737488351232) (hql : q.length ≤ 140737488351232) (vp vq : Value) (w : World) (hp : SlAt w vp p) (hq : SlAt w vq q) :
    Calls Try.prog 5 #[.int .i64 Q, .int .u8 (G.toNat : Int), vp, vq, .int .u8 (x.toNat : Int)] w fun e w' => e = .returned (.bool true) ∧ Below w.heap.size w w' := by
  have HA := hidD (fun w => alive_any w)
  have HN1 := hidD hN1
  have HN2 := hidD hN2
  have HD1 := hidD hD1
  have HD2 := hidD hD2
  have HE1 := hidD hE1
  have HE2 := hidD hE2
  have HP1 := hidD hP1
  have HP2 := hidD hP2
  have HT1 := hidD hT1
  have HT2 := hidD hT2
  have HR1 := hidD hR1
  have HR2 := hidD hR2
  have H1 := hidD g1
  have H2 := hidD g2
  have HB1 := hidD (fun v u w h1 h2 => same_bytes LP v u w h1 h2)
  have HB2 := hidD (fun v u w h1 h2 => same_bytes LT v u w h1 h2)
  have HB3 := hidD (fun v u w h1 h2 => same_bytes LQ v u w h1 h2)
  have HB4 := hidD (fun v u w h1 h2 => same_bytes LM v u w h1 h2)
  have HB5 := hidD (fun v u w h1 h2 => same_bytes LR v u w h1 h2)
  have HB6 := hidD (fun v u w h1 h2 => same_bytes p v u w h1 h2)
  have HB7 := hidD (fun v u w h1 h2 => same_bytes q v u w h1 h2)
  have HSP := hidD (fun (w' : World) (h : Below w.heap.size w w') => hp.next h)
  have HSQ := hidD (fun (w' : World) (h : Below w.heap.size w w') => hq.next h)
  have HAL : Hid (∀ (w' : World) o, Below w'.heap.size w' (w'.alloc o)) := fun w' o => (Below.refl _ _).alloc (Nat.le_refl _) o
  have HOW : Hid (∀ w' : World, (w'.alloc (.cells #[] (5 : TypeId))).ownsRow w'.heap.size 5 1 (.slice (some ⟨w'.heap.size, 0, none⟩) 0 0) 0 []) := fun w' => full_row (Nat.le_refl _) rfl (by unfold maxLen; omega) (heap_alloc_last _ _)
  have HSO1 : Hid (∀ w' base v, World.ownsRow w' base 5 1 v (0 + p.length) ([] ++ p.map encB) → SlAt w' v p) := fun w' base v h => sl_of_own (base := base) (by rw [Nat.zero_add, List.nil_append] at h; exact h)
  have HSO2 : Hid (∀ w' base v, World.ownsRow w' base 5 1 v (0 + q.length) ([] ++ q.map encB) → SlAt w' v q) := fun w' base v h => sl_of_own (base := base) (by rw [Nat.zero_add, List.nil_append] at h; exact h)
  obtain ⟨⟨ap, cp, rfl, hcp1, hcp2⟩, hpb⟩ := hp
  obtain ⟨⟨aq, cq, rfl, hcq1, hcq2⟩, hqb⟩ := hq
  clear hN1 hN2 hD1 hD2 hE1 hE2 hP1 hP2 hT1 hT2 hR1 hR2 g1 g2 hpb hqb hcp1 hcp2 hcq1 hcq2
  have hl1 : 0 + p.length ≤ 140737488355328 := by omega
  have hl2 : 0 + q.length ≤ 140737488355328 := by omega
  have HL1 := hidD hl1
  have HL2 := hidD hl2
  clear hl1 hl2 hpl hql
  go_enter Try.func5, Try.ntmps5
  go_wp2_with (first
    | (go_at_call 16; refine (HN1.out _).mono ?_; rintro e w1 ⟨pf, E1, rfl, hpn, hk1, hb1⟩; have HK1 := hidD hk1; have HB := hidD hb1; clear hk1 hb1 HN1)
    | (go_at_call 17; refine (HN2.out _).mono ?_; rintro e w2 ⟨pr, E2, rfl, hpr, hk2, hb2⟩; have HK1 := hidD (H1.out _ _ _ HK1.out hb2); have HK2 := hidD hk2; have HB := hidD (Below.next HB.out hb2); clear hk2 hb2 HN2)
    | (go_at_call 15; refine (HA.out _).mono ?_; rintro e w3 ⟨rfl, hb3⟩; have HK1 := hidD (H1.out _ _ _ HK1.out hb3); have HK2 := hidD (H2.out _ _ _ HK2.out hb3); have HB := hidD (Below.next HB.out hb3); clear hb3 HA)
    | (at_builtin; have HTOK := HSO1; refine wpList_append_by rfl _ _ rfl w3.heap.size (.slice (some ⟨w3.heap.size, 0, none⟩) 0 0) 0 [] rfl (HOW.out w3) (.slice ap p.length cp) p rfl ((HSP.out _ (Below.next HB.out (HAL.out _ _))).by') HL1.out (by simp) ?_; intro va w4 hown4 hg4; have HSA := hidD (HSO1.out _ _ _ hown4); have hb4 : Below w3.heap.size w3 w4 := row_grown (HOW.out w3) (HAL.out _ _) hg4 (by simp); have HK1 := hidD (H1.out _ _ _ HK1.out hb4); have HK2 := hidD (H2.out _ _ _ HK2.out hb4); have HB := hidD (Below.next HB.out hb4); clear hown4 hg4 hb4 HSO1 HTOK)
    | (at_builtin; refine wpList_append_by rfl _ _ rfl w4.heap.size (.slice (some ⟨w4.heap.size, 0, none⟩) 0 0) 0 [] rfl (HOW.out w4) (.slice aq q.length cq) q rfl ((HSQ.out _ (Below.next HB.out (HAL.out _ _))).by') HL2.out (by simp) ?_; intro vb w5 hown5 hg5; have HSB := hidD (HSO2.out _ _ _ hown5); have hb5 : Below w4.heap.size w4 w5 := row_grown (HOW.out w4) (HAL.out _ _) hg5 (by simp); have HB := hidD (Below.next HB.out hb5); have HH : Hid (Hold K1 K2 pf pr _ _ va vb p q w5) := ⟨H1.out _ _ _ HK1.out hb5, H2.out _ _ _ HK2.out hb5, HSP.out _ HB.out, HSQ.out _ HB.out, HSA.out.next hb5, HSB.out⟩; clear hown5 hg5 hb5 HSO2 HK1 HK2 HSA HSB)
    | (go_at_call 30; refine (HD1.out _ _ _ _ HH.out.1 HH.out.2.2.2.2.1 HH.out.2.2.2.2.2).mono ?_; rintro e w6 ⟨c1, d1, rfl, hsc, hsd, hb3⟩; have HC1 := hidD hsc; have HC2 := hidD hsd; have HH := hidD (HH.out.next H1.out H2.out hb3); have HB := hidD (Below.next HB.out hb3); clear hb3 hsc hsd HD1)
    | (go_at_call 31; refine (HD2.out _ _ _ _ HH.out.2.1 HH.out.2.2.1 HH.out.2.2.2.1).mono ?_; rintro e w6 ⟨c2, d2, rfl, hsc, hsd, hb3⟩; have HC3 := hidD hsc; have HC4 := hidD hsd; have HH := hidD (HH.out.next H1.out H2.out hb3); have HB := hidD (Below.next HB.out hb3); have HC1 := hidD (HC1.out.next hb3); have HC2 := hidD (HC2.out.next hb3); clear hb3 hsc hsd HD2)
    | (go_at_call 32; refine (HE1.out _ _ _ HH.out.1 HH.out.2.2.2.2.1).mono ?_; rintro e w6 ⟨rfl, hb3⟩; have HH := hidD (HH.out.next H1.out H2.out hb3); have HB := hidD (Below.next HB.out hb3); have HC1 := hidD (HC1.out.next hb3); have HC2 := hidD (HC2.out.next hb3); have HC3 := hidD (HC3.out.next hb3); have HC4 := hidD (HC4.out.next hb3); clear hb3 HE1)
    | (go_at_call 33; refine (HE2.out _ _ _ HH.out.2.1 HH.out.2.2.1).mono ?_; rintro e w6 ⟨rfl, hb3⟩; have HH := hidD (HH.out.next H1.out H2.out hb3); have HB := hidD (Below.next HB.out hb3); have HC1 := hidD (HC1.out.next hb3); have HC2 := hidD (HC2.out.next hb3); have HC3 := hidD (HC3.out.next hb3); have HC4 := hidD (HC4.out.next hb3); clear hb3 HE2)
    | (go_at_call 35; refine (HP1.out _ _ _ _ HH.out.1 HH.out.2.2.2.2.1 HH.out.2.2.2.2.2).mono ?_; rintro e w6 ⟨s1, rfl, hsc, hb3⟩; have HV1 := hidD hsc; have HH := hidD (HH.out.next H1.out H2.out hb3); have HB := hidD (Below.next HB.out hb3); have HC1 := hidD (HC1.out.next hb3); have HC2 := hidD (HC2.out.next hb3); have HC3 := hidD (HC3.out.next hb3); have HC4 := hidD (HC4.out.next hb3); clear hb3 hsc HP1)
    | (go_at_call 36; refine (HP2.out _ _ _ _ HH.out.2.1 HH.out.2.2.1 HH.out.2.2.2.1).mono ?_; rintro e w6 ⟨s2, rfl, hsc, hb3⟩; have HV2 := hidD hsc; have HH := hidD (HH.out.next H1.out H2.out hb3); have HB := hidD (Below.next HB.out hb3); have HV1 := hidD (HV1.out.next hb3); have HC1 := hidD (HC1.out.next hb3); have HC2 := hidD (HC2.out.next hb3); have HC3 := hidD (HC3.out.next hb3); have HC4 := hidD (HC4.out.next hb3); clear hb3 hsc HP2)
    | (go_at_call 34; refine (HB1.out _ _ _ HV1.out HV2.out).mono ?_; rintro e w7 ⟨rfl, hb7⟩; clear HB1 HV1 HV2)
    | (go_at_call 37; refine (HT1.out _ _ _ _ HH.out.1 HH.out.2.2.2.2.1 HH.out.2.2.2.2.2).mono ?_; rintro e w6 ⟨s3, rfl, hsc, hb3⟩; have HV3 := hidD hsc; have HH := hidD (HH.out.next H1.out H2.out hb3); have HB := hidD (Below.next HB.out hb3); have HC1 := hidD (HC1.out.next hb3); have HC2 := hidD (HC2.out.next hb3); have HC3 := hidD (HC3.out.next hb3); have HC4 := hidD (HC4.out.next hb3); clear hb3 hsc HT1)
    | (go_at_call 38; refine (HT2.out _ _ _ _ HH.out.2.1 HH.out.2.2.1 HH.out.2.2.2.1).mono ?_; rintro e w6 ⟨s4, rfl, hsc, hb3⟩; have HV4 := hidD hsc; have HH := hidD (HH.out.next H1.out H2.out hb3); have HB := hidD (Below.next HB.out hb3); have HV3 := hidD (HV3.out.next hb3); have HC1 := hidD (HC1.out.next hb3); have HC2 := hidD (HC2.out.next hb3); have HC3 := hidD (HC3.out.next hb3); have HC4 := hidD (HC4.out.next hb3); clear hb3 hsc HT2)
    | (go_at_call 34; refine (HB2.out _ _ _ HV3.out HV4.out).mono ?_; rintro e w7 ⟨rfl, hb7⟩; clear HB2 HV3 HV4)
    | (go_at_call 34; refine (HB3.out _ _ _ HC1.out HC3.out).mono ?_; rintro e w7 ⟨rfl, hb7⟩; clear HB3 HC1 HC3)
    | (go_at_call 34; refine (HB4.out _ _ _ HC2.out HC4.out).mono ?_; rintro e w7 ⟨rfl, hb7⟩; clear HB4 HC2 HC4)
    | (go_at_call 39; refine (HR1.out _ _ _ HH.out.1 HH.out.2.2.2.2.1).mono ?_; rintro e w6 ⟨s5, rfl, hsc, hb3⟩; have HV5 := hidD hsc; have HH := hidD (HH.out.next H1.out H2.out hb3); have HB := hidD (Below.next HB.out hb3); clear hb3 hsc HR1)
    | (go_at_call 40; refine (HR2.out _ _ _ HH.out.2.1 HH.out.2.2.1).mono ?_; rintro e w6 ⟨s6, rfl, hsc, hb3⟩; have HV6 := hidD hsc; have HH := hidD (HH.out.next H1.out H2.out hb3); have HB := hidD (Below.next HB.out hb3); have HV5 := hidD (HV5.out.next hb3); clear hb3 hsc HR2)
    | (go_at_call 34; refine (HB5.out _ _ _ HV5.out HV6.out).mono ?_; rintro e w7 ⟨rfl, hb7⟩; clear HB5 HV5 HV6)
    | (go_at_call 34; refine (HB6.out _ _ _ HH.out.2.2.2.2.1 HH.out.2.2.1).mono ?_; rintro e w7 ⟨rfl, hb7⟩; clear HB6)
    | (go_at_call 34; refine (HB7.out _ _ _ HH.out.2.2.2.2.2 HH.out.2.2.2.1).mono ?_; rintro e w7 ⟨rfl, hb7⟩; clear HB7))
  go_ret
  exact ⟨rfl, HB.out⟩
end Go.Proofs.Ytfngnajjlhnglaa
