/- Texts of one proof, one behind the other. -/
import Derived.Test.YtnldpofljeodiaaGg
import Derived.Test.YtnldpofljeodiaaLw
import Derived.Test.YtnldpofljeodiaaSt8
import Derived.Test.YtnldpofljeodiaaCt
import Derived.Test.YtnldpofljeodiaaGm
import Derived.Test.YtnldpofljeodiaaGn
import Derived.Test.YtnldpofljeodiaaGl
/- ShaSums. -/
namespace Go.Proofs.Ytnldpofljeodiaa
open Go.RowKit
set_option linter.unusedVariables false

set_option maxRecDepth 100000 in
theorem ownB_any (L : List UInt8) (hL : L.length ≤ 140737488355328) (a : Option Addr) (cap : Nat) (w : World) (hB : ByAt w (.slice a L.length cap) L) : Calls Try.prog 8 #[.slice a L.length cap] w fun e w' => ∃ a' c', e = .returned (.slice a' L.length c') ∧ w'.ownsRow w.heap.size 5 1 (.slice a' L.length c') L.length (L.map encB) ∧ Below w.heap.size w w' := by
  have HR0 : Hid ((w.alloc (.cells #[] (5 : TypeId))).ownsRow w.heap.size 5 1 (.slice (some ⟨w.heap.size, 0, none⟩) 0 0) 0 []) := World.ownsRow_made w #[] 0 (Nat.le_refl _) (by unfold maxLen; omega) rfl
  have HB0 : Hid (Below w.heap.size w (w.alloc (.cells #[] (5 : TypeId)))) := (Below.refl _ _).alloc (Nat.le_refl _) _
  have HBY := hidD hB
  clear hB
  go_enter Try.func8, Try.ntmps8
  go_wp2_with (at_builtin; refine wpList_append_by rfl _ _ rfl w.heap.size (.slice (some ⟨w.heap.size, 0, none⟩) 0 0) 0 [] rfl HR0.out (.slice a L.length cap) L rfl (HBY.out.next HB0.out) (by omega) HB0.out.size ?_; intro v1 w1 hown1 hg1; have HB1 := hidD (row_grown HR0.out HB0.out hg1 HB0.out.size); clear hg1)
  rw [List.nil_append, Nat.zero_add] at hown1
  obtain ⟨a1, k1, rfl⟩ := row_shape hown1
  refine bodyPost_ret (v := .slice a1 L.length k1) (by simp [results, Try.results8, go_sem]) rfl ⟨a1, k1, rfl, hown1, HB1.out⟩
theorem ownBy_any (L : List UInt8) (hL : L.length ≤ 140737488355328) (a : Option Addr) (cap : Nat) (w : World) (hB : ByAt w (.slice a L.length cap) L) : Calls Try.prog 8 #[.slice a L.length cap] w fun e w' => ∃ a' c', e = .returned (.slice a' L.length c') ∧ ByAt w' (.slice a' L.length c') L ∧ Below w.heap.size w w' :=
  (ownB_any L hL a cap w hB).mono fun e w' ⟨a', c', he, ho, hb⟩ => ⟨a', c', he, row_by ho, hb⟩
/- a call of the program and one of the document with the same answers -/
set_option maxRecDepth 100000 in
set_option maxHeartbeats 1600000 in
theorem sums_walk (x E : Int) (D L : List UInt8) (hD : D.length ≤ 4611686018427387904) (hL : L.length ≤ 140737488354816) (a : Option Addr) (cap : Nat) (w : World) (hB : ByAt w (.slice a L.length cap) L)
    (hp : ∀ (a : Option Addr) (cap : Nat) w, ByAt w (.slice a L.length cap) L → Calls Try.prog 9 #[.int .i64 x, .slice a L.length cap] w fun e w' => ∃ u, e = .returned (.tuple #[u, .int .i64 E]) ∧ ByAt w' u D ∧ Below w.heap.size w w')
    (hr : ∀ (a : Option Addr) (cap : Nat) w, ByAt w (.slice a L.length cap) L → Calls Try.prog 10 #[.int .i64 x, .slice a L.length cap] w fun e w' => ∃ u, e = .returned (.tuple #[u, .int .i64 E]) ∧ ByAt w' u D ∧ Below w.heap.size w w') : Calls Try.prog 3 #[.int .i64 x, .slice a L.length cap] w fun e w' => e = .returned (.bool true) ∧ Below w.heap.size w w' := by
  have HOW := hidD (ownBy_any L (by omega))
  have HP := hidD hp
  have HR := hidD hr
  have HNO := hidD (no_any E)
  have HSD := hidD (same_true D hD)
  have HSL := hidD (same_true L (by omega))
  have HLV := hidD live_any
  have HBY := hidD hB
  clear hp hr hB hD hL
  generalize hLL : L.length = LL at *
  clear hLL
  go_enter Try.func3, Try.ntmps3
  go_wp2_with fail
  go_at_call 8
  refine (HOW.out _ _ _ HBY.out).mono ?_
  rintro e w1 ⟨a1, c1, rfl, hown1, hb1⟩
  have HM1 := hidD hown1
  have HB1 := hidD hb1
  clear hown1 hb1 HOW
  go_wp2_with fail
  go_at_call 9
  refine (HP.out _ _ _ HM1.out).mono ?_
  rintro e w2 ⟨u, rfl, hu, hb2⟩
  have HM2 := hidD (HM1.out.next hb2)
  have HB2 := hidD (Below.next HB1.out hb2)
  have HU2 := hidD hu
  clear hu hb2 HM1 HB1 HP
  go_wp2_with fail
  go_at_call 10
  refine (HR.out _ _ _ (HBY.out.next HB2.out)).mono ?_
  rintro e w3 ⟨v, rfl, hv, hb3⟩
  have HM3 := hidD (HM2.out.next hb3)
  have HU3 := hidD (HU2.out.next hb3)
  have HB3 := hidD (Below.next HB2.out hb3)
  have HV3 := hidD hv
  clear hv hb3 HM2 HU2 HB2 HR
  go_wp2_with fail
  go_at_call 11
  refine (HSD.out _ _ _ HU3.out HV3.out).mono ?_
  rintro e w4 ⟨rfl, hb4⟩
  have HB4 := hidD (Below.next HB3.out hb4)
  have HM4 := hidD (HM3.out.next hb4)
  clear hb4 HB3 HM3 HU3 HV3 HSD
  go_wp2_with (first
    | (go_at_call 12; refine (HNO.out _).mono ?_; rintro e wz ⟨rfl, hwz⟩; subst wz)
    | (go_at_call 11; refine (HSL.out _ _ _ HM4.out (HBY.out.next HB4.out)).mono ?_; rintro e w5 ⟨rfl, hb5⟩; have HB5 := hidD (Below.next HB4.out hb5); clear hb5 HB4)
    | (go_at_call 13; refine (HLV.out _).mono ?_; rintro e w6 ⟨rfl, hb6⟩))
  go_ret
  exact ⟨rfl, Below.next HB5.out hb6⟩
theorem sums_any (x : Int) (L : List UInt8) (hL : L.length ≤ 140737488354816) (a : Option Addr) (cap : Nat) (w : World) (hB : ByAt w (.slice a L.length cap) L) : Calls Try.prog 3 #[.int .i64 x, .slice a L.length cap] w fun e w' => e = .returned (.bool true) ∧ Below w.heap.size w w' := by
  rcases kind_or x with ⟨k, hk, rfl⟩ | hno
  · have hkk : k / 8 ≤ 64 := by rcases hk with rfl | rfl | rfl | rfl <;> decide
    refine sums_walk (k : Int) 0 (shaL k L) L (by rw [shaL_len]; omega) hL a cap w hB (fun a cap w h => ?_) (fun a cap w h => ?_)
    · exact (shaSum_any k hk L (by omega) a cap w h).mono fun e w' ⟨g', he, _, hz, hb⟩ => ⟨_, he, by
        have := rowZ_by hz
        rw [show ((List.range (k / 8)).map (dgP k (feedP k (newP k) L))).length = k / 8 by simp] at this
        exact this, hb⟩
    · exact (rSum_any k hk L hL a cap w h).mono fun e w' ⟨g', cap', he, _, hby, hb⟩ => ⟨_, he, hby, hb⟩
  · refine sums_walk x 1 [] L (by decide) hL a cap w hB (fun a cap w h => ?_) (fun a cap w h => ?_)
    · exact (shaSum_no x hno _ w).mono fun e w' ⟨he, hw⟩ => ⟨_, he, .inl ⟨rfl, none, 0, rfl, fun _ => rfl⟩, by rw [hw]; exact Below.refl _ _⟩
    · exact (rSum_no x hno _ w).mono fun e w' ⟨he, hb⟩ => ⟨_, he, .inl ⟨rfl, none, 0, rfl, fun _ => rfl⟩, hb⟩
end Go.Proofs.Ytnldpofljeodiaa
/- What Len of the program answers; Extract of both sides is Mac. -/
namespace Go.Proofs.Ytnldpofljeodiaa
open Go.RowKit
set_option linter.unusedVariables false

set_option maxRecDepth 100000 in
theorem len_any (g k : Nat) (s : Ps) (w : World) (h : StAt w g k s) : Calls Try.prog 27 #[.pointer (some ⟨g, 0, none⟩)] w fun e w' => e = .returned (.int .u64 (s.n : Int)) ∧ w' = w := by
  have hc := h.len
  clear h
  go_enter Try.func27, Try.ntmps27
  go_wp2_with fail
  go_ret
  exact ⟨rfl, rfl⟩
set_option maxRecDepth 100000 in
theorem len_nil (w : World) : Calls Try.prog 27 #[.pointer none] w fun e w' => e = .returned (.int .u64 0) ∧ w' = w := by
  go_enter Try.func27, Try.ntmps27
  go_wp2_with fail
  go_ret
  exact ⟨rfl, rfl⟩
set_option maxRecDepth 100000 in
theorem extract_of (x y z v u : Value) (w : World) (Q : World → Prop) (h : Calls Try.prog 14 #[x, y, z] w fun e w' => e = .returned (.tuple #[v, u]) ∧ Q w') : Calls Try.prog 16 #[x, y, z] w fun e w' => e = .returned (.tuple #[v, u]) ∧ Q w' := by
  have H := hidD h
  clear h
  go_enter Try.func16, Try.ntmps16
  go_wp2_with (go_at_call 14; refine H.out.mono ?_; rintro e w1 ⟨rfl, hq⟩)
  refine bodyPost_ret (v := .tuple #[v, u]) (by simp [results, Try.results16, go_sem]) rfl ⟨rfl, hq⟩
set_option maxRecDepth 100000 in
theorem extract_ex (x y z u : Value) (w : World) (V : Nat → Value) (Q : Nat → World → Prop) (h : Calls Try.prog 14 #[x, y, z] w fun e w' => ∃ g, e = .returned (.tuple #[V g, u]) ∧ Q g w') : Calls Try.prog 16 #[x, y, z] w fun e w' => ∃ g, e = .returned (.tuple #[V g, u]) ∧ Q g w' := by
  have H := hidD h
  clear h
  go_enter Try.func16, Try.ntmps16
  go_wp2_with (go_at_call 14; refine H.out.mono ?_; rintro e w1 ⟨g, rfl, hq⟩)
  refine bodyPost_ret (v := .tuple #[V g, u]) (by simp [results, Try.results16, go_sem]) rfl ⟨g, rfl, hq⟩
end Go.Proofs.Ytnldpofljeodiaa
/- ShaMacs. -/
namespace Go.Proofs.Ytnldpofljeodiaa
open Go.RowKit
set_option linter.unusedVariables false

def AnsIs (w : World) (D : List UInt8) (E : Int) (e : Ending) (w' : World) : Prop := ∃ u, e = .returned (.tuple #[u, .int .i64 E]) ∧ ByAt w' u D ∧ Below w.heap.size w w'
theorem ByAt.nil (w : World) : ByAt w (.slice none 0 0) [] := .inl ⟨rfl, none, 0, rfl, fun _ => rfl⟩
theorem rowZ_byL {w : World} {g n : Nat} {f : Nat → UInt8} (h : RowZ w g .u8 n 5 (fun i => ((f i).toNat : Int))) : ByAt w (.slice (some ⟨g, 0, none⟩) n n) ((List.range n).map f) := by
  have := rowZ_by h
  rw [show ((List.range n).map f).length = n by simp] at this
  exact this
set_option maxRecDepth 100000 in
theorem macLaw_no (x : Int) (h : x ≠ 224 ∧ x ≠ 256 ∧ x ≠ 384 ∧ x ≠ 512) (u v : Value) (w : World) : Calls Try.prog 14 #[.int .i64 x, u, v] w fun e w' => e = .returned (.tuple #[.slice none 0 0, .int .i64 1]) ∧ Below w.heap.size w w' := by
  have HNK := hidD (newKeyed_no x h u)
  clear h
  go_enter Try.func14, Try.ntmps14
  go_wp2_with (go_at_call 33; refine (HNK.out _).mono ?_; rintro e w1 ⟨rfl, hb1⟩; have HB1 := hidD hb1; clear hb1 HNK)
  refine bodyPost_ret (v := .tuple #[.slice none 0 0, .int .i64 1]) (by simp [results, Try.results14, go_sem]) rfl ⟨rfl, HB1.out.alloc HB1.out.size _⟩
theorem extr_ans (x : Int) (u v : Value) (D : List UInt8) (E : Int) (w : World) (h : Calls Try.prog 14 #[.int .i64 x, u, v] w (AnsIs w D E)) : Calls Try.prog 16 #[.int .i64 x, u, v] w (AnsIs w D E) := by
  have H := hidD h
  clear h
  go_enter Try.func16, Try.ntmps16
  go_wp2_with (go_at_call 14; refine H.out.mono ?_; rintro e w1 ⟨r, rfl, hq, hb⟩)
  refine bodyPost_ret (v := .tuple #[r, .int .i64 E]) (by simp [results, Try.results16, go_sem]) rfl ⟨r, rfl, hq, hb⟩
theorem rExtr_ans (x : Int) (u v : Value) (D : List UInt8) (E : Int) (w : World) (h : Calls Try.prog 15 #[.int .i64 x, u, v] w (AnsIs w D E)) : Calls Try.prog 17 #[.int .i64 x, u, v] w (AnsIs w D E) := by
  have H := hidD h
  clear h
  go_enter Try.func17, Try.ntmps17
  go_wp2_with (go_at_call 15; refine H.out.mono ?_; rintro e w1 ⟨r, rfl, hq, hb⟩)
  refine bodyPost_ret (v := .tuple #[r, .int .i64 E]) (by simp [results, Try.results17, go_sem]) rfl ⟨r, rfl, hq, hb⟩
set_option maxRecDepth 100000 in
set_option maxHeartbeats 4000000 in
theorem macs_walk (x z E F : Int) (D G K M : List UInt8) (hD : D.length ≤ 4611686018427387904) (hG : G.length ≤ 4611686018427387904) (hK : K.length ≤ 140737488354400) (hM : M.length ≤ 140737488354400) (aK aM : Option Addr) (cK cM : Nat) (w : World) (hbK : ByAt w (.slice aK K.length cK) K) (hbM : ByAt w (.slice aM M.length cM) M)
    (h14 : ∀ (aK aM : Option Addr) (cK cM : Nat) w, ByAt w (.slice aK K.length cK) K → ByAt w (.slice aM M.length cM) M → Calls Try.prog 14 #[.int .i64 x, .slice aK K.length cK, .slice aM M.length cM] w (AnsIs w D E))
    (h15 : ∀ (aK aM : Option Addr) (cK cM : Nat) w, ByAt w (.slice aK K.length cK) K → ByAt w (.slice aM M.length cM) M → Calls Try.prog 15 #[.int .i64 x, .slice aK K.length cK, .slice aM M.length cM] w (AnsIs w D E))
    (h18 : ∀ (aK aM : Option Addr) (cK cM : Nat) w, ByAt w (.slice aK K.length cK) K → ByAt w (.slice aM M.length cM) M → Calls Try.prog 18 #[.int .i64 x, .slice aK K.length cK, .slice aM M.length cM, .int .i64 z] w (AnsIs w G F))
    (h19 : ∀ (aK aM : Option Addr) (cK cM : Nat) w, ByAt w (.slice aK K.length cK) K → ByAt w (.slice aM M.length cM) M → Calls Try.prog 19 #[.int .i64 x, .slice aK K.length cK, .slice aM M.length cM, .int .i64 z] w (AnsIs w G F)) : Calls Try.prog 4 #[.int .i64 x, .slice aK K.length cK, .slice aM M.length cM, .int .i64 z] w fun e w' => e = .returned (.bool true) ∧ Below w.heap.size w w' := by
  have HOK := hidD (ownBy_any K (by omega))
  have HOM := hidD (ownBy_any M (by omega))
  have H14 := hidD h14
  have H15 := hidD h15
  have H16 := hidD (fun aK aM cK cM w h1 h2 => extr_ans x _ _ D E w (h14 aK aM cK cM w h1 h2))
  have H17 := hidD (fun aK aM cK cM w h1 h2 => rExtr_ans x _ _ D E w (h15 aK aM cK cM w h1 h2))
  have H18 := hidD h18
  have H19 := hidD h19
  have HNE := hidD (no_any E)
  have HNF := hidD (no_any F)
  have HSD := hidD (same_true D hD)
  have HSG := hidD (same_true G hG)
  have HSK := hidD (same_true K (by omega))
  have HSM := hidD (same_true M (by omega))
  have HLV := hidD live_any
  have HYK := hidD hbK
  have HYM := hidD hbM
  clear h14 h15 h18 h19 hbK hbM hD hG hK hM
  generalize K.length = KL at *
  generalize M.length = ML at *
  go_enter Try.func4, Try.ntmps4
  go_wp2_with fail
  go_at_call 8
  refine (HOK.out _ _ _ HYK.out).mono ?_
  rintro e w1 ⟨a1, c1, rfl, hy1, hb1⟩
  have HB1 := hidD hb1
  have K1 := hidD hy1
  clear hy1 hb1 HOK
  go_wp2_with fail
  go_at_call 8
  refine (HOM.out _ _ _ (HYM.out.next HB1.out)).mono ?_
  rintro e w2 ⟨a2, c2, rfl, hy2, hb2⟩
  have HB2 := hidD (Below.next HB1.out hb2)
  have K2 := hidD (K1.out.next hb2)
  have M2 := hidD hy2
  clear hy2 hb2 HOM HB1 K1
  go_wp2_with fail
  go_at_call 14
  refine (H14.out _ _ _ _ _ K2.out M2.out).mono ?_
  rintro e w3 ⟨u3, rfl, hy3, hb3⟩
  have HB3 := hidD (Below.next HB2.out hb3)
  have K3 := hidD (K2.out.next hb3)
  have M3 := hidD (M2.out.next hb3)
  have A3 := hidD hy3
  clear hy3 hb3 H14 HB2 K2 M2
  go_wp2_with fail
  go_at_call 15
  refine (H15.out _ _ _ _ _ (HYK.out.next HB3.out) (HYM.out.next HB3.out)).mono ?_
  rintro e w4 ⟨u4, rfl, hy4, hb4⟩
  have HB4 := hidD (Below.next HB3.out hb4)
  have K4 := hidD (K3.out.next hb4)
  have M4 := hidD (M3.out.next hb4)
  have A4 := hidD (A3.out.next hb4)
  have B4 := hidD hy4
  clear hy4 hb4 H15 HB3 K3 M3 A3
  go_wp2_with fail
  go_at_call 16
  refine (H16.out _ _ _ _ _ K4.out M4.out).mono ?_
  rintro e w5 ⟨u5, rfl, hy5, hb5⟩
  have HB5 := hidD (Below.next HB4.out hb5)
  have K5 := hidD (K4.out.next hb5)
  have M5 := hidD (M4.out.next hb5)
  have A5 := hidD (A4.out.next hb5)
  have B5 := hidD (B4.out.next hb5)
  have C5 := hidD hy5
  clear hy5 hb5 H16 HB4 K4 M4 A4 B4
  go_wp2_with fail
  go_at_call 17
  refine (H17.out _ _ _ _ _ (HYK.out.next HB5.out) (HYM.out.next HB5.out)).mono ?_
  rintro e w6 ⟨u6, rfl, hy6, hb6⟩
  have HB6 := hidD (Below.next HB5.out hb6)
  have K6 := hidD (K5.out.next hb6)
  have M6 := hidD (M5.out.next hb6)
  have A6 := hidD (A5.out.next hb6)
  have B6 := hidD (B5.out.next hb6)
  have C6 := hidD (C5.out.next hb6)
  have D6 := hidD hy6
  clear hy6 hb6 H17 HB5 K5 M5 A5 B5 C5
  go_wp2_with fail
  go_at_call 18
  refine (H18.out _ _ _ _ _ K6.out M6.out).mono ?_
  rintro e w7 ⟨u7, rfl, hy7, hb7⟩
  have HB7 := hidD (Below.next HB6.out hb7)
  have K7 := hidD (K6.out.next hb7)
  have M7 := hidD (M6.out.next hb7)
  have A7 := hidD (A6.out.next hb7)
  have B7 := hidD (B6.out.next hb7)
  have C7 := hidD (C6.out.next hb7)
  have D7 := hidD (D6.out.next hb7)
  have E7 := hidD hy7
  clear hy7 hb7 H18 HB6 K6 M6 A6 B6 C6 D6
  go_wp2_with fail
  go_at_call 19
  refine (H19.out _ _ _ _ _ (HYK.out.next HB7.out) (HYM.out.next HB7.out)).mono ?_
  rintro e w8 ⟨u8, rfl, hy8, hb8⟩
  have HB8 := hidD (Below.next HB7.out hb8)
  have K8 := hidD (K7.out.next hb8)
  have M8 := hidD (M7.out.next hb8)
  have A8 := hidD (A7.out.next hb8)
  have B8 := hidD (B7.out.next hb8)
  have C8 := hidD (C7.out.next hb8)
  have D8 := hidD (D7.out.next hb8)
  have E8 := hidD (E7.out.next hb8)
  have F8 := hidD hy8
  clear hy8 hb8 H19 HB7 K7 M7 A7 B7 C7 D7 E7
  go_wp2_with fail
  go_at_call 11
  refine (HSD.out _ _ _ A8.out B8.out).mono ?_
  rintro e w9 ⟨rfl, hb9⟩
  have HB9 := hidD (Below.next HB8.out hb9)
  have K9 := hidD (K8.out.next hb9)
  have M9 := hidD (M8.out.next hb9)
  have C9 := hidD (C8.out.next hb9)
  have D9 := hidD (D8.out.next hb9)
  have E9 := hidD (E8.out.next hb9)
  have F9 := hidD (F8.out.next hb9)
  clear hb9 HB8 K8 M8 A8 B8 C8 D8 E8 F8
  go_wp2_with (go_at_call 12; refine (HNE.out _).mono ?_; rintro e wz ⟨rfl, hwz⟩; subst wz)
  go_at_call 11
  refine (HSD.out _ _ _ C9.out D9.out).mono ?_
  rintro e w10 ⟨rfl, hb10⟩
  have HB10 := hidD (Below.next HB9.out hb10)
  have K10 := hidD (K9.out.next hb10)
  have M10 := hidD (M9.out.next hb10)
  have E10 := hidD (E9.out.next hb10)
  have F10 := hidD (F9.out.next hb10)
  clear hb10 HB9 K9 M9 C9 D9 E9 F9
  go_wp2_with (go_at_call 12; refine (HNE.out _).mono ?_; rintro e wz ⟨rfl, hwz⟩; subst wz)
  go_at_call 11
  refine (HSG.out _ _ _ E10.out F10.out).mono ?_
  rintro e w11 ⟨rfl, hb11⟩
  have HB11 := hidD (Below.next HB10.out hb11)
  have K11 := hidD (K10.out.next hb11)
  have M11 := hidD (M10.out.next hb11)
  clear hb11 HB10 K10 M10 E10 F10
  go_wp2_with (go_at_call 12; refine (HNF.out _).mono ?_; rintro e wz ⟨rfl, hwz⟩; subst wz)
  go_at_call 11
  refine (HSK.out _ _ _ K11.out (HYK.out.next HB11.out)).mono ?_
  rintro e w12 ⟨rfl, hb12⟩
  have HB12 := hidD (Below.next HB11.out hb12)
  have M12 := hidD (M11.out.next hb12)
  clear hb12 HB11 K11 M11
  go_wp2_with fail
  go_at_call 11
  refine (HSM.out _ _ _ M12.out (HYM.out.next HB12.out)).mono ?_
  rintro e w13 ⟨rfl, hb13⟩
  have HB13 := hidD (Below.next HB12.out hb13)
  clear hb13 HB12 M12
  go_wp2_with (go_at_call 13; refine (HLV.out _).mono ?_; rintro e w14 ⟨rfl, hb14⟩)
  go_ret
  exact ⟨rfl, Below.next HB13.out hb14⟩
theorem macs_any (x : Int) (K M : List UInt8) (hK : K.length ≤ 140737488354400) (hM : M.length ≤ 140737488354400) (aK aM : Option Addr) (cK cM : Nat) (z : Int) (hz1 : -9223372036854775808 ≤ z) (hz2 : z < 9223372036854775808) (w : World) (hbK : ByAt w (.slice aK K.length cK) K) (hbM : ByAt w (.slice aM M.length cM) M) : Calls Try.prog 4 #[.int .i64 x, .slice aK K.length cK, .slice aM M.length cM, .int .i64 z] w fun e w' => e = .returned (.bool true) ∧ Below w.heap.size w w' := by
  rcases kind_or x with ⟨k, hk, rfl⟩ | hno
  · have hk8 : k / 8 ≤ 64 := by rcases hk with rfl | rfl | rfl | rfl <;> decide
    have hD : (mkL k K M).length ≤ 4611686018427387904 := by rw [mkL_len]; omega
    have h14 : ∀ (aK aM : Option Addr) (cK cM : Nat) w, ByAt w (.slice aK K.length cK) K → ByAt w (.slice aM M.length cM) M → Calls Try.prog 14 #[.int .i64 (k : Int), .slice aK K.length cK, .slice aM M.length cM] w (AnsIs w (mkL k K M) 0) := fun aK aM cK cM w h1 h2 => (macLaw_any k hk K M (by omega) (by omega) aK aM cK cM w h1 h2).mono fun e w' ⟨g, he, _, hz, hb⟩ => ⟨_, he, rowZ_byL hz, hb⟩
    have h15 : ∀ (aK aM : Option Addr) (cK cM : Nat) w, ByAt w (.slice aK K.length cK) K → ByAt w (.slice aM M.length cM) M → Calls Try.prog 15 #[.int .i64 (k : Int), .slice aK K.length cK, .slice aM M.length cM] w (AnsIs w (mkL k K M) 0) := fun aK aM cK cM w h1 h2 => rMacL_any k hk K M (by omega) (by omega) aK aM cK cM w h1 h2
    by_cases hneg : z < 0
    · refine macs_walk (k : Int) z 0 1 (mkL k K M) [] K M hD (by decide) hK hM aK aM cK cM w hbK hbM h14 h15 (fun aK aM cK cM w h1 h2 => ?_) (fun aK aM cK cM w h1 h2 => ?_)
      · exact (expand_bad (k : Int) _ aM M.length cM z 1 (.inr ⟨k, hk, rfl, .inl ⟨rfl, hneg⟩⟩) w).mono fun e w' ⟨he, hb⟩ => ⟨_, he, ByAt.nil _, hb⟩
      · exact (rExp_bad (k : Int) _ _ z 1 (.inr ⟨k, hk, rfl, .inl ⟨rfl, hneg⟩⟩) w).mono fun e w' ⟨he, hb⟩ => ⟨_, he, ByAt.nil _, hb⟩
    · by_cases hbig : 255 * ((k / 8 : Nat) : Int) < z
      · refine macs_walk (k : Int) z 0 3 (mkL k K M) [] K M hD (by decide) hK hM aK aM cK cM w hbK hbM h14 h15 (fun aK aM cK cM w h1 h2 => ?_) (fun aK aM cK cM w h1 h2 => ?_)
        · exact (expand_bad (k : Int) _ aM M.length cM z 3 (.inr ⟨k, hk, rfl, .inr ⟨rfl, hneg, hbig⟩⟩) w).mono fun e w' ⟨he, hb⟩ => ⟨_, he, ByAt.nil _, hb⟩
        · exact (rExp_bad (k : Int) _ _ z 3 (.inr ⟨k, hk, rfl, .inr ⟨rfl, hneg, hbig⟩⟩) w).mono fun e w' ⟨he, hb⟩ => ⟨_, he, ByAt.nil _, hb⟩
      · obtain ⟨n, rfl⟩ : ∃ n : Nat, z = (n : Int) := ⟨z.toNat, by omega⟩
        refine macs_walk (k : Int) n 0 0 (mkL k K M) (stL (k / 8) (exT k K M) n) K M hD (by rw [stL_len]; omega) hK hM aK aM cK cM w hbK hbM h14 h15 (fun aK aM cK cM w h1 h2 => ?_) (fun aK aM cK cM w h1 h2 => ?_)
        · exact (expand_ok k hk K M (by omega) (by omega) n (by omega) aK aM cK cM w h1 h2).mono fun e w' ⟨g, he, _, hz, hb⟩ => ⟨_, he, rowZ_byL hz, hb⟩
        · exact rExp_ok k hk K M (by omega) (by omega) n (by omega) aK aM cK cM w h1 h2
  · refine macs_walk x z 1 1 [] [] K M (by decide) (by decide) hK hM aK aM cK cM w hbK hbM (fun aK aM cK cM w h1 h2 => ?_) (fun aK aM cK cM w h1 h2 => ?_) (fun aK aM cK cM w h1 h2 => ?_) (fun aK aM cK cM w h1 h2 => ?_)
    · exact (macLaw_no x hno _ _ w).mono fun e w' ⟨he, hb⟩ => ⟨_, he, ByAt.nil _, hb⟩
    · exact (rMacL_no x hno _ _ w).mono fun e w' ⟨he, hb⟩ => ⟨_, he, ByAt.nil _, hb⟩
    · exact (expand_bad x _ aM M.length cM z 1 (.inl ⟨rfl, hno⟩) w).mono fun e w' ⟨he, hb⟩ => ⟨_, he, ByAt.nil _, hb⟩
    · exact (rExp_bad x _ _ z 1 (.inl ⟨rfl, hno⟩) w).mono fun e w' ⟨he, hb⟩ => ⟨_, he, ByAt.nil _, hb⟩
end Go.Proofs.Ytnldpofljeodiaa
