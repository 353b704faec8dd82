/- GfPolynomials: what its walk asks for, of a field and of none. -/
import Derived.Test.YtfngnajjlhnglaaPlw
import Derived.Test.YtfngnajjlhnglaaRpc
import Derived.Test.YtfngnajjlhnglaaRpd
import Derived.Test.YtfngnajjlhnglaaRts
import Derived.Test.YtfngnajjlhnglaaDvs
namespace Go.Proofs.Ytfngnajjlhnglaa
open Go.RowKit
set_option linter.unusedVariables false

theorem refTimes_full {P G : UInt8} {b : Nat} (ho : ordS P G = 255) (p q : List UInt8) (hsum : p.length + q.length ≤ 281474976710657) (vp vq : Value) (w : World) (hf : RfAt w b P G) (hp : SlAt w vp p) (hq : SlAt w vq q) :
    Calls Try.prog 38 #[.pointer (some ⟨b, 0, none⟩), vp, vq] w fun e w' => ∃ v, e = .returned v ∧ SlAt w' v (mulS P p q) ∧ Below w.heap.size w w' := by
  by_cases h : p = [] ∨ q = []
  · refine (refTimes_none p q h vp vq w hp hq).mono fun e w' ⟨h1, h2⟩ => ⟨_, h1, ?_, h2⟩
    have : trimS p = [] ∨ trimS q = [] := h.imp (fun h => by rw [h]; rfl) (fun h => by rw [h]; rfl)
    unfold mulS
    rw [if_pos this]; exact SlAt.nil w'
  · have := refTimes_some (b := b) (P := P) (G := G) p q (fun h1 => h (.inl h1)) (fun h1 => h (.inr h1)) hsum vp vq w hf hp hq
    rwa [times_trim ho] at this
theorem refDivide_any {P G : UInt8} {b : Nat} (ho : ordS P G = 255) (p q : List UInt8) (hq0 : trimS q ≠ []) (hpl : p.length ≤ 281474976710655) (hql : q.length ≤ 281474976710655) (vp vq : Value) (w : World) (hf : RfAt w b P G) (hp : SlAt w vp p) (hq : SlAt w vq q) :
    Calls Try.prog 31 #[.pointer (some ⟨b, 0, none⟩), vp, vq] w fun e w' => ∃ v1 v2, e = .returned (.tuple #[v1, v2, .int .i64 0]) ∧ SlAt w' v1 (quoS P p q) ∧ SlAt w' v2 (modS P p q) ∧ Below w.heap.size w w' := by
  by_cases h : (trimS p).length < (trimS q).length
  · refine (refDivide_short p q (by omega) (by omega) h vp vq w hp hq).mono fun e w' ⟨v, h1, h2, h3⟩ => ⟨_, v, h1, ?_, ?_, h3⟩
    · rw [quoS, if_pos h]; exact SlAt.nil w'
    · rw [modS, if_pos h]; exact h2
  · have hd := quo_tidy ho (p := p) hq0
    rw [quoS, if_neg h] at hd
    refine (refDivide_long p q hq0 (by omega) hpl hql vp vq w hf hp hq).mono fun e w' ⟨v1, v2, h1, h2, h3, h4⟩ => ⟨v1, v2, h1, ?_, ?_, h4⟩
    · rw [quoS, if_neg h]; rwa [trim_id hd] at h2
    · rw [modS, if_neg h]; exact h3
/-- A pointer to a field of the program; to one of the document; to none. -/
def AtF (P G : UInt8) (pf : Option Addr) (w : World) : Prop := ∃ b, pf = some ⟨b, 0, none⟩ ∧ FdAt w b P G
def AtR (P G : UInt8) (pf : Option Addr) (w : World) : Prop := ∃ b, pf = some ⟨b, 0, none⟩ ∧ RfAt w b P G
def AtN (pf : Option Addr) (w : World) : Prop := pf = none
theorem goesF (P G : UInt8) : Goes (AtF P G) := fun pf w w' ⟨b, h1, h2⟩ hb => ⟨b, h1, h2.next hb⟩
theorem goesR (P G : UInt8) : Goes (AtR P G) := fun pf w w' ⟨b, h1, h2⟩ hb => ⟨b, h1, h2.next hb⟩
theorem goesN : Goes AtN := fun pf w w' h hb => h
theorem polys_ok {P G : UInt8} (Q : Int) (hQ : Q = 256 + (P.toNat : Int)) (hirr : irrS (256 + P.toNat) = true) (ho : ordS P G = 255) (x : UInt8) (p q : List UInt8)
    (hpl : p.length ≤ 140737488351232) (hql : q.length ≤ 140737488351232) (vp vq : Value) (w : World) (hp : SlAt w vp p) (hq : SlAt w vq q) :
    Calls Try.prog 5 #[.int .i64 Q, .int .u8 (G.toNat : Int), vp, vq, .int .u8 (x.toNat : Int)] w fun e w' => e = .returned (.bool true) ∧ Below w.heap.size w w' := by
  obtain ⟨LQ, LM, E, hD1, hD2⟩ : ∃ LQ LM E, Lists2 (AtF P G) 30 p q LQ LM E ∧ Lists2 (AtR P G) 31 p q LQ LM E := by
    by_cases h0 : trimS q = []
    · refine ⟨[], [], 51, fun w pf va vb ⟨b, h1, h2⟩ ha hb => ?_, fun w pf va vb ⟨b, h1, h2⟩ ha hb => ?_⟩
      · subst h1
        exact (divide_zero p q h0 va vb w ha hb).mono fun e w' ⟨h3, h4⟩ => ⟨_, _, h3, SlAt.nil w', SlAt.nil w', h4⟩
      · subst h1
        exact (refDivide_zero q (by omega) h0 va vb w hb).mono fun e w' ⟨h3, h4⟩ => ⟨_, _, h3, SlAt.nil w', SlAt.nil w', h4⟩
    · refine ⟨quoS P p q, modS P p q, 0, fun w pf va vb ⟨b, h1, h2⟩ ha hb => ?_, fun w pf va vb ⟨b, h1, h2⟩ ha hb => ?_⟩
      · subst h1
        exact divide_any ho p q h0 (by omega) va vb w h2 ha hb
      · subst h1
        exact refDivide_any ho p q h0 (by omega) (by omega) va vb w h2 ha hb
  refine polys_of (AtF P G) (AtR P G) false (goesF P G) (goesR P G) Q G x p q LQ LM (trimS (plusS p q)) (mulS P p q) (rootsTo P p 256) E ((evalS P x p).toNat : Int) ?_ ?_ hD1 hD2 ?_ ?_ ?_ ?_ ?_ ?_ ?_ ?_ hpl hql vp vq w hp hq
  · exact fun w => (new_ok P G Q hQ hirr ho w).mono fun e w' ⟨b, h1, h2, h3, h4⟩ => ⟨_, _, h1, rfl, ⟨b, rfl, h3⟩, h4⟩
  · exact fun w => (refNew_ok P G Q hQ hirr ho w).mono fun e w' ⟨b, h1, h2, h3, h4⟩ => ⟨_, _, h1, rfl, ⟨b, rfl, h3⟩, h4⟩
  · intro w pf va ⟨b, h1, h2⟩ ha; subst h1; exact eval_any ho p x va w h2 ha
  · intro w pf va ⟨b, h1, h2⟩ ha; subst h1; exact refEval_any p x va w h2 ha
  · intro w pf va vb ⟨b, h1, h2⟩ ha hb; subst h1; exact plus_any p q (by omega) (by omega) va vb w ha hb
  · intro w pf va vb ⟨b, h1, h2⟩ ha hb; subst h1; exact refPlus_any p q (by omega) (by omega) va vb w ha hb
  · intro w pf va vb ⟨b, h1, h2⟩ ha hb; subst h1; exact times_any ho p q (by omega) va vb w h2 ha hb
  · intro w pf va vb ⟨b, h1, h2⟩ ha hb; subst h1; exact refTimes_full ho p q (by omega) va vb w h2 ha hb
  · intro w pf va ⟨b, h1, h2⟩ ha; subst h1; exact roots_any ho p va w h2 ha
  · intro w pf va ⟨b, h1, h2⟩ ha; subst h1; exact refRoots_any p va w h2 ha
set_option maxRecDepth 100000 in
set_option maxHeartbeats 800000 in
theorem timesF_nil (p q : List UInt8) (vp vq : Value) (w : World) (hp : SlAt w vp p) (hq : SlAt w vq q) : Calls Try.prog 37 #[.pointer none, vp, vq] w fun e w' => e = .returned (.slice none 0 0) ∧ Below w.heap.size w w' := by
  obtain ⟨⟨a, ca, rfl, hca1, hca2⟩, hpb⟩ := hp
  obtain ⟨⟨d, cd, rfl, hcd1, hcd2⟩, hqb⟩ := hq
  have HTP := hidD (trimmed_any p a ca hca1 hca2 w hpb)
  have HTQ := hidD (trimmed_any q d cd hcd1 hcd2 w hqb)
  have HW : Hid (Below w.heap.size w w) := Below.refl _ _
  clear hpb hqb
  generalize p.length = lp at *
  generalize q.length = lq at *
  generalize (trimS p).length = tp at *
  generalize (trimS q).length = tq at *
  go_enter Try.func37, Try.ntmps37
  go_wp2_with (first | (go_at_call 53; refine HTP.out.mono ?_; rintro e w2 ⟨rfl, hb2⟩; clear HTP) | (go_at_call 53; refine HTQ.out.mono ?_; rintro e w2 ⟨rfl, hb2⟩; clear HTQ))
  go_ret
  exact ⟨rfl, HW.out⟩
theorem polys_nil (Q : Int) (G x : UInt8) (p q : List UInt8) (hN : ∀ w, Calls Try.prog 16 #[.int .i64 Q, .int .u8 (G.toNat : Int)] w fun e w' => e = .returned (.tuple #[.pointer none, .int .i64 50]) ∧ Below w.heap.size w w') (hR : ∀ w, Calls Try.prog 17 #[.int .i64 Q, .int .u8 (G.toNat : Int)] w fun e w' => e = .returned (.tuple #[.pointer none, .int .i64 50]) ∧ Below w.heap.size w w')
    (hpl : p.length ≤ 140737488351232) (hql : q.length ≤ 140737488351232) (vp vq : Value) (w : World) (hp : SlAt w vp p) (hq : SlAt w vq q) :
    Calls Try.prog 5 #[.int .i64 Q, .int .u8 (G.toNat : Int), vp, vq, .int .u8 (x.toNat : Int)] w fun e w' => e = .returned (.bool true) ∧ Below w.heap.size w w' := by
  refine polys_of AtN AtN true goesN goesN Q G x p q [] [] [] [] [] 2 0 ?_ ?_ ?_ ?_ ?_ ?_ ?_ ?_ ?_ ?_ ?_ ?_ hpl hql vp vq w hp hq
  · exact fun w => (hN w).mono fun e w' ⟨h1, h2⟩ => ⟨_, _, h1, rfl, rfl, h2⟩
  · exact fun w => (hR w).mono fun e w' ⟨h1, h2⟩ => ⟨_, _, h1, rfl, rfl, h2⟩
  · intro w pf va vb h ha hb; cases h; exact (divide_nil va vb w).mono fun e w' ⟨h3, h4⟩ => ⟨_, _, h3, SlAt.nil w', SlAt.nil w', h4⟩
  · intro w pf va vb h ha hb; cases h; exact (refDivide_nil va vb w).mono fun e w' ⟨h3, h4⟩ => ⟨_, _, h3, SlAt.nil w', SlAt.nil w', h4⟩
  · intro w pf va h ha; cases h; exact eval_nil x va w
  · intro w pf va h ha; cases h; exact refEval_nil p x va w ha
  · intro w pf va vb h ha hb; cases h; exact (plus_nil va vb w).mono fun e w' ⟨h3, h4⟩ => ⟨_, h3, SlAt.nil w', h4⟩
  · intro w pf va vb h ha hb; cases h; exact (refPlus_nil va vb w).mono fun e w' ⟨h3, h4⟩ => ⟨_, h3, SlAt.nil w', h4⟩
  · intro w pf va vb h ha hb; cases h; exact (timesF_nil p q va vb w ha hb).mono fun e w' ⟨h3, h4⟩ => ⟨_, h3, SlAt.nil w', h4⟩
  · intro w pf va vb h ha hb; cases h; exact (refTimes_nil va vb w).mono fun e w' ⟨h3, h4⟩ => ⟨_, h3, SlAt.nil w', h4⟩
  · intro w pf va h ha; cases h; exact (roots_nil va w).mono fun e w' ⟨h3, h4⟩ => ⟨_, h3, SlAt.nil w', h4⟩
  · intro w pf va h ha; cases h; exact (refRoots_nil va w).mono fun e w' ⟨h3, h4⟩ => ⟨_, h3, SlAt.nil w', h4⟩
theorem gfPolynomials_any (Q : Int) (ng : Nat) (hg : ng < 256) (p q : List UInt8) (a d : Option Addr) (ca cd : Nat) (hp1 : p.length ≤ ca) (hp2 : ca ≤ 140737488351232) (hq1 : q.length ≤ cd) (hq2 : cd ≤ 140737488351232) (nx : Nat) (hx : nx < 256) (w : World) (hp : ByAt w (.slice a p.length ca) p) (hq : ByAt w (.slice d q.length cd) q) :
    Calls Try.prog 5 #[.int .i64 Q, .int .u8 ng, .slice a p.length ca, .slice d q.length cd, .int .u8 nx] w fun e w' => e = .returned (.bool true) ∧ Below w.heap.size w w' := by
  obtain ⟨G, rfl⟩ := u8_of ng hg
  obtain ⟨x, rfl⟩ := u8_of nx hx
  have hsp : SlAt w (.slice a p.length ca) p := ⟨⟨_, _, rfl, hp1, by omega⟩, hp⟩
  have hsq : SlAt w (.slice d q.length cd) q := ⟨⟨_, _, rfl, hq1, by omega⟩, hq⟩
  by_cases h : 256 ≤ Q ∧ Q ≤ 511
  · obtain ⟨P, hQ⟩ := poly_of Q h
    by_cases hk : irrS (256 + P.toNat) = true ∧ ordS P G = 255
    · exact polys_ok Q hQ hk.1 hk.2 x p q (by omega) (by omega) _ _ w hsp hsq
    · exact polys_nil Q G x p q (fun w => new_bad P G Q hQ hk w) (fun w => refNew_bad P G Q hQ hk w) (by omega) (by omega) _ _ w hsp hsq
  · exact polys_nil Q G x p q (fun w => new_out Q h G w) (fun w => refNew_out Q h G w) (by omega) (by omega) _ _ w hsp hsq
end Go.Proofs.Ytfngnajjlhnglaa
