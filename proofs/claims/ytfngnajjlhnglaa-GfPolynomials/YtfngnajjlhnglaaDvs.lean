/- GfDivides' walk. -/
import Derived.Test.YtfngnajjlhnglaaDvd
import Derived.Test.YtfngnajjlhnglaaApd
import Derived.Test.YtfngnajjlhnglaaCrs
namespace Go.Proofs.Ytfngnajjlhnglaa
open Go.RowKit
set_option linter.unusedVariables false

theorem mul_length (P : UInt8) (p q : List UInt8) : (mulS P p q).length ≤ p.length + q.length := by
  unfold mulS
  have := trim_len p
  have := trim_len q
  split
  · simp
  · simp [timesS]; omega
theorem quo_length (P : UInt8) (p q : List UInt8) : (quoS P p q).length ≤ p.length + 1 := by
  unfold quoS
  have := trim_len p
  split
  · simp
  · rw [(divS_len P _ _).2]; omega
theorem quo_length' (P : UInt8) (p q : List UInt8) (hq : trimS q ≠ []) : (quoS P p q).length ≤ p.length := by
  unfold quoS
  have := trim_len p
  have : 0 < (trimS q).length := List.length_pos_iff.2 hq
  split
  · simp
  · rw [(divS_len P _ _).2]; omega
theorem mod_length (P : UInt8) (p q : List UInt8) : (modS P p q).length ≤ p.length := by
  unfold modS
  have := trim_len p
  split
  · exact this
  · have h1 := trim_len (divS P (trimS p) (trimS q)).1
    rw [(divS_len P _ _).1] at h1; omega
theorem times_any {P G : UInt8} {b : Nat} (ho : ordS P G = 255) (p q : List UInt8) (hsum : p.length + q.length ≤ 281474976710657) (vp vq : Value) (w : World) (hf : FdAt w b P G) (hp : SlAt w vp p) (hq : SlAt w vq q) :
    Calls Try.prog 37 #[.pointer (some ⟨b, 0, none⟩), vp, vq] w fun e w' => ∃ v, e = .returned v ∧ SlAt w' v (mulS P p q) ∧ Below w.heap.size w w' := by
  by_cases h : trimS p = [] ∨ trimS q = []
  · refine (times_none p q h vp vq w hp hq).mono fun e w' ⟨h1, h2⟩ => ⟨_, h1, ?_, h2⟩
    unfold mulS
    rw [if_pos h]; exact SlAt.nil w'
  · exact times_some ho p q (fun h1 => h (.inl h1)) (fun h1 => h (.inr h1)) hsum vp vq w hf hp hq
theorem divide_any {P G : UInt8} {b : Nat} (ho : ordS P G = 255) (p q : List UInt8) (hq0 : trimS q ≠ []) (hpl : p.length ≤ 281474976710655) (vp vq : Value) (w : World) (hf : FdAt w b P G) (hp : SlAt w vp p) (hq : SlAt w vq q) :
    Calls Try.prog 30 #[.pointer (some ⟨b, 0, none⟩), vp, vq] w fun e w' => ∃ v1 v2, e = .returned (.tuple #[v1, v2, .int .i64 0]) ∧ SlAt w' v1 (quoS P p q) ∧ SlAt w' v2 (modS P p q) ∧ Below w.heap.size w w' := by
  by_cases h : (trimS p).length < (trimS q).length
  · refine (divide_short p q h (by omega) vp vq w hp hq).mono fun e w' ⟨v, h1, h2, h3⟩ => ⟨_, v, h1, ?_, ?_, h3⟩
    · rw [quoS, if_pos h]; exact SlAt.nil w'
    · rw [modS, if_pos h]; exact h2
  · refine (divide_long ho p q hq0 (by omega) hpl vp vq w hf hp hq).mono fun e w' ⟨v1, v2, h1, h2, h3, h4⟩ => ⟨v1, v2, h1, ?_, ?_, h4⟩
    · rw [quoS, if_neg h]; exact h2
    · rw [modS, if_neg h]; exact h3
/-- What the law holds on to. -/
def Kept (k : Nat) (vp vq : Value) (p q : List UInt8) (w : World) : Prop := FdAt w k 29 2 ∧ SlAt w vp p ∧ SlAt w vq q
theorem Kept.next {k : Nat} {vp vq : Value} {p q : List UInt8} {w w' : World} (h : Kept k vp vq p q w) (hb : Below w.heap.size w w') : Kept k vp vq p q w' := ⟨h.1.next hb, h.2.1.next hb, h.2.2.next hb⟩
theorem sl_two (w : World) (x : UInt8) : SlAt (w.alloc (.cells #[.int .u8 (x.toNat : Int), .int .u8 1] (5 : TypeId))) (.slice (some ⟨w.heap.size, 0, none⟩) 2 2) [x, 1] := sl_new w [x, 1] _ 2 rfl rfl (by omega)
theorem sl_one (w : World) (x : UInt8) : SlAt (w.alloc (.cells #[.int .u8 (x.toNat : Int)] (5 : TypeId))) (.slice (some ⟨w.heap.size, 0, none⟩) 1 1) [x] := sl_new w [x] _ 1 rfl rfl (by omega)
set_option maxRecDepth 100000 in
set_option maxHeartbeats 4000000 in
theorem divides_yq (p q : List UInt8) (x : UInt8) (hy : evalS 29 x p = 0) (hq0 : trimS q = []) (hpl : p.length ≤ 140737488351232) (hql : q.length ≤ 140737488351232) (vp vq : Value) (w : World) (hp : SlAt w vp p) (hq : SlAt w vq q) : Calls Try.prog 8 #[vp, vq, .int .u8 (x.toNat : Int)] w fun e w' => e = .returned (.bool true) ∧ Below w.heap.size w w' := by
  have HA := hidD (fun w => alive_any w)
  have HN := hidD (fun w => new_ok 29 2 285 rfl irr_d one_d w)
  have HSP := hidD (fun (w' : World) (h : Below w.heap.size w w') => hp.next h)
  have HSQ := hidD (fun (w' : World) (h : Below w.heap.size w w') => hq.next h)
  have HT1 := hidD (fun w' k (h : Kept k vp vq p q w') => times_any one_d p q (by omega) vp vq w' h.1 h.2.1 h.2.2)
  have HPL := hidD (fun w' k (h : Kept k vp vq p q w') => plus_any (b := k) p q (by omega) (by omega) vp vq w' h.2.1 h.2.2)
  have HE1 := hidD (fun w' k v (h : Kept k vp vq p q w') (hv : SlAt w' v (mulS 29 p q)) => eval_any one_d (mulS 29 p q) x v w' h.1 hv)
  rw [eval_mul] at HE1
  have HE4 := hidD (fun w' k v (h : Kept k vp vq p q w') (hv : SlAt w' v (trimS (plusS p q))) => eval_any one_d (trimS (plusS p q)) x v w' h.1 hv)
  rw [eval_trim, eval_plus] at HE4
  have HEP := hidD (fun w' k (h : Kept k vp vq p q w') => eval_any one_d p x vp w' h.1 h.2.1)
  have HEQ := hidD (fun w' k (h : Kept k vp vq p q w') => eval_any one_d q x vq w' h.1 h.2.2)
  have HM := hidD (fun w' k (h : Kept k vp vq p q w') => mul_any one_d (evalS 29 x p) (evalS 29 x q) w' h.1)
  have hxx := u8_xor_nat (evalS 29 x p).toNat (evalS 29 x q).toNat (u8_lt _) (u8_lt _)
  rw [← UInt8.toNat_xor] at hxx
  have hrl := root_left one_d p x
  have HD1 := hidD (fun w' k v (h : Kept k vp vq p q w') (hv : SlAt w' v [x, 1]) => divide_any one_d p [x, 1] (by rw [hrl.1]; simp) (by omega) vp v w' h.1 h.2.1 hv)
  rw [hrl.2, if_pos hy] at HD1
  have HD2 := hidD (fun w' k (h : Kept k vp vq p q w') => divide_zero (b := k) p q hq0 vp vq w' h.2.1 h.2.2)
  have HTQ := hidD (fun w' k (h : Kept k vp vq p q w') => refTrim_any q (by omega) vq w' h.2.2)
  rw [hq0] at HTQ
  have hyv : ((evalS 29 x p).toNat : Int) = 0 := by rw [hy]; rfl
  rw [hyv] at HEP
  have hxx0 : bits .xor .u8 0 ((evalS 29 x q).toNat : Int) = ((evalS 29 x q).toNat : Int) := by rw [hyv] at hxx; rw [hxx, hy, UInt8.zero_xor]
  rw [hy, UInt8.zero_xor] at HE4
  rw [hy, zero_bm] at HE1 HM
  clear hxx
  have HS2 := hidD (fun w' => sl_two w' x)
  have HAL : Hid (∀ (w' : World) o, Below w'.heap.size w' (w'.alloc o)) := fun w' o => (Below.refl _ _).alloc (Nat.le_refl _) o
  obtain ⟨⟨ap, cp, rfl, hcp1, hcp2⟩, hpb⟩ := hp
  obtain ⟨⟨aq, cq, rfl, hcq1, hcq2⟩, hqb⟩ := hq
  clear hpb hqb hcp1 hcp2 hcq1 hcq2 hpl hql hrl
  generalize ((evalS 29 x q).toNat : Int) = Z at *
  have HEP1 := hidD HEP.out
  have HEP2 := hidD HEP.out
  have HEP3 := hidD HEP.out
  have HEQ1 := hidD HEQ.out
  have HEQ2 := hidD HEQ.out
  clear HEP HEQ
  clear hy hyv
  generalize trimS (plusS p q) = lPS at *
  generalize mulS 29 p q = lM1 at *
  generalize p.length = lp at *
  generalize q.length = lq at *
  go_enter Try.func8, Try.ntmps8
  go_wp2_with (first
    | (go_at_call 15; refine (HA.out _).mono ?_; rintro e w0 ⟨rfl, hb0⟩; have HB := hidD hb0; clear hb0 HA)
    | (go_at_call 16; refine (HN.out _).mono ?_; rintro e w1 ⟨k, rfl, hwb, hfd, hb3⟩; have HB := hidD (Below.next HB.out hb3); have HK : Hid (Kept k _ _ p q w1) := ⟨hfd, HSP.out _ HB.out, HSQ.out _ HB.out⟩; clear hb3 hwb hfd HN)
    | (go_at_call 37; refine (HT1.out _ _ HK.out).mono ?_; rintro e w3 ⟨v1, rfl, hs3, hb3⟩; have HV1 := hidD hs3; have HK := hidD (HK.out.next hb3); have HB := hidD (Below.next HB.out hb3); clear hb3 hs3 HT1)
    | (go_at_call 32; refine (HE1.out _ _ _ HK.out HV1.out).mono ?_; rintro e w3 ⟨rfl, hb3⟩; have HK := hidD (HK.out.next hb3); have HB := hidD (Below.next HB.out hb3); clear hb3 HE1)
    | (go_at_call 32; refine (HEP1.out _ _ HK.out).mono ?_; rintro e w3 ⟨rfl, hb3⟩; have HK := hidD (HK.out.next hb3); have HB := hidD (Below.next HB.out hb3); clear hb3 HEP1)
    | (go_at_call 32; refine (HEQ1.out _ _ HK.out).mono ?_; rintro e w3 ⟨rfl, hb3⟩; have HK := hidD (HK.out.next hb3); have HB := hidD (Below.next HB.out hb3); clear hb3 HEQ1)
    | (go_at_call 26; refine (HM.out _ _ HK.out).mono ?_; rintro e w3 ⟨rfl, hb3⟩; have HK := hidD (HK.out.next hb3); have HB := hidD (Below.next HB.out hb3); clear hb3 HM)
    | (go_at_call 35; refine (HPL.out _ _ HK.out).mono ?_; rintro e w3 ⟨v2, rfl, hs3, hb3⟩; have HV2 := hidD hs3; have HK := hidD (HK.out.next hb3); have HB := hidD (Below.next HB.out hb3); clear hb3 hs3 HPL)
    | (go_at_call 32; refine (HE4.out _ _ _ HK.out HV2.out).mono ?_; rintro e w3 ⟨rfl, hb3⟩; have HK := hidD (HK.out.next hb3); have HB := hidD (Below.next HB.out hb3); clear hb3 HE4)
    | (go_at_call 32; refine (HEP2.out _ _ HK.out).mono ?_; rintro e w3 ⟨rfl, hb3⟩; have HK := hidD (HK.out.next hb3); have HB := hidD (Below.next HB.out hb3); clear hb3 HEP2)
    | (go_at_call 32; refine (HEQ2.out _ _ HK.out).mono ?_; rintro e w3 ⟨rfl, hb3⟩; have HK := hidD (HK.out.next hb3); have HB := hidD (Below.next HB.out hb3); clear hb3 HEQ2)
    | (go_at_call 30; refine (HD1.out _ _ _ (HK.out.next (HAL.out _ _)) (HS2.out _)).mono ?_; rintro e w3 ⟨va, vr, rfl, hsa, hsr, hb3⟩; have HK := hidD ((HK.out.next (HAL.out _ _)).next hb3); have HB := hidD (Below.next (Below.next HB.out (HAL.out _ _)) hb3); obtain ⟨⟨ar, cr, rfl, hcr1, hcr2⟩, hrb⟩ := hsr; have HVR := hidD hrb; clear hb3 hsa hcr1 hcr2 hrb HD1)
    | (go_at_call 32; refine (HEP3.out _ _ HK.out).mono ?_; rintro e w3 ⟨rfl, hb3⟩; have HK := hidD (HK.out.next hb3); have HB := hidD (Below.next HB.out hb3); have HVR := hidD (HVR.out.next hb3); clear hb3 HEP3)
    | (go_at_call 30; refine (HD2.out _ _ HK.out).mono ?_; rintro e w3 ⟨rfl, hb3⟩; have HK := hidD (HK.out.next hb3); have HB := hidD (Below.next HB.out hb3); clear hb3 HD2)
    | (go_at_call 47; refine (HTQ.out _ _ HK.out).mono ?_; rintro e w3 ⟨v5, rfl, hs3, hb3⟩; obtain ⟨⟨a5, c5, rfl, hc51, hc52⟩, hs5b⟩ := hs3; have HK := hidD (HK.out.next hb3); have HB := hidD (Below.next HB.out hb3); clear hb3 hs5b hc51 hc52 HTQ))
  go_ret
  exact ⟨rfl, HB.out⟩
end Go.Proofs.Ytfngnajjlhnglaa
