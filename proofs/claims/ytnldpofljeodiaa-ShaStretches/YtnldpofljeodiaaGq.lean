/- Texts of one proof, one behind the other. -/
import Derived.Test.YtnldpofljeodiaaGg
import Derived.Test.YtnldpofljeodiaaLw
import Derived.Test.YtnldpofljeodiaaSt8
import Derived.Test.YtnldpofljeodiaaCt
import Derived.Test.YtnldpofljeodiaaR8p
/- ShaSums. -/
namespace Go.Proofs.Ytnldpofljeodiaa
open Go.RowKit
set_option linter.unusedVariables false

set_option maxRecDepth 100000 in
theorem ownB_any (L : List UInt8) (hL : L.length ≤ 140737488355328) (a : Option Addr) (cap : Nat) (w : World) (hB : ByAt w (.slice a L.length cap) L) : Calls Try.prog 8 #[.slice a L.length cap] w fun e w' => ∃ a' c', e = .returned (.slice a' L.length c') ∧ w'.ownsRow w.heap.size 5 1 (.slice a' L.length c') L.length (L.map encB) ∧ Below w.heap.size w w' := by
  have HR0 : Hid ((w.alloc (.cells #[] (5 : TypeId))).ownsRow w.heap.size 5 1 (.slice (some ⟨w.heap.size, 0, none⟩) 0 0) 0 []) := World.ownsRow_made w #[] 0 (Nat.le_refl _) (by unfold maxLen; omega) rfl
  have HB0 : Hid (Below w.heap.size w (w.alloc (.cells #[] (5 : TypeId)))) := (Below.refl _ _).alloc (Nat.le_refl _) _
  have HBY := hidD hB
  clear hB
  go_enter Try.func8, Try.ntmps8
  go_wp2_with (at_builtin; refine wpList_append_by rfl _ _ rfl w.heap.size (.slice (some ⟨w.heap.size, 0, none⟩) 0 0) 0 [] rfl HR0.out (.slice a L.length cap) L rfl (HBY.out.next HB0.out) (by omega) HB0.out.size ?_; intro v1 w1 hown1 hg1; have HB1 := hidD (row_grown HR0.out HB0.out hg1 HB0.out.size); clear hg1)
  rw [List.nil_append, Nat.zero_add] at hown1
  obtain ⟨a1, k1, rfl⟩ := row_shape hown1
  refine bodyPost_ret (v := .slice a1 L.length k1) (by simp [results, Try.results8, go_sem]) rfl ⟨a1, k1, rfl, hown1, HB1.out⟩
theorem ownBy_any (L : List UInt8) (hL : L.length ≤ 140737488355328) (a : Option Addr) (cap : Nat) (w : World) (hB : ByAt w (.slice a L.length cap) L) : Calls Try.prog 8 #[.slice a L.length cap] w fun e w' => ∃ a' c', e = .returned (.slice a' L.length c') ∧ ByAt w' (.slice a' L.length c') L ∧ Below w.heap.size w w' :=
  (ownB_any L hL a cap w hB).mono fun e w' ⟨a', c', he, ho, hb⟩ => ⟨a', c', he, row_by ho, hb⟩
/- a call of the program and one of the document with the same answers -/
set_option maxRecDepth 100000 in
set_option maxHeartbeats 1600000 in
theorem sums_walk (x E : Int) (D L : List UInt8) (hD : D.length ≤ 4611686018427387904) (hL : L.length ≤ 140737488354816) (a : Option Addr) (cap : Nat) (w : World) (hB : ByAt w (.slice a L.length cap) L)
    (hp : ∀ (a : Option Addr) (cap : Nat) w, ByAt w (.slice a L.length cap) L → Calls Try.prog 9 #[.int .i64 x, .slice a L.length cap] w fun e w' => ∃ u, e = .returned (.tuple #[u, .int .i64 E]) ∧ ByAt w' u D ∧ Below w.heap.size w w')
    (hr : ∀ (a : Option Addr) (cap : Nat) w, ByAt w (.slice a L.length cap) L → Calls Try.prog 10 #[.int .i64 x, .slice a L.length cap] w fun e w' => ∃ u, e = .returned (.tuple #[u, .int .i64 E]) ∧ ByAt w' u D ∧ Below w.heap.size w w') : Calls Try.prog 3 #[.int .i64 x, .slice a L.length cap] w fun e w' => e = .returned (.bool true) ∧ Below w.heap.size w w' := by
  have HOW := hidD (ownBy_any L (by omega))
  have HP := hidD hp
  have HR := hidD hr
  have HNO := hidD (no_any E)
  have HSD := hidD (same_true D hD)
  have HSL := hidD (same_true L (by omega))
  have HLV := hidD live_any
  have HBY := hidD hB
  clear hp hr hB hD hL
  generalize hLL : L.length = LL at *
  clear hLL
  go_enter Try.func3, Try.ntmps3
  go_wp2_with fail
  go_at_call 8
  refine (HOW.out _ _ _ HBY.out).mono ?_
  rintro e w1 ⟨a1, c1, rfl, hown1, hb1⟩
  have HM1 := hidD hown1
  have HB1 := hidD hb1
  clear hown1 hb1 HOW
  go_wp2_with fail
  go_at_call 9
  refine (HP.out _ _ _ HM1.out).mono ?_
  rintro e w2 ⟨u, rfl, hu, hb2⟩
  have HM2 := hidD (HM1.out.next hb2)
  have HB2 := hidD (Below.next HB1.out hb2)
  have HU2 := hidD hu
  clear hu hb2 HM1 HB1 HP
  go_wp2_with fail
  go_at_call 10
  refine (HR.out _ _ _ (HBY.out.next HB2.out)).mono ?_
  rintro e w3 ⟨v, rfl, hv, hb3⟩
  have HM3 := hidD (HM2.out.next hb3)
  have HU3 := hidD (HU2.out.next hb3)
  have HB3 := hidD (Below.next HB2.out hb3)
  have HV3 := hidD hv
  clear hv hb3 HM2 HU2 HB2 HR
  go_wp2_with fail
  go_at_call 11
  refine (HSD.out _ _ _ HU3.out HV3.out).mono ?_
  rintro e w4 ⟨rfl, hb4⟩
  have HB4 := hidD (Below.next HB3.out hb4)
  have HM4 := hidD (HM3.out.next hb4)
  clear hb4 HB3 HM3 HU3 HV3 HSD
  go_wp2_with (first
    | (go_at_call 12; refine (HNO.out _).mono ?_; rintro e wz ⟨rfl, hwz⟩; subst wz)
    | (go_at_call 11; refine (HSL.out _ _ _ HM4.out (HBY.out.next HB4.out)).mono ?_; rintro e w5 ⟨rfl, hb5⟩; have HB5 := hidD (Below.next HB4.out hb5); clear hb5 HB4)
    | (go_at_call 13; refine (HLV.out _).mono ?_; rintro e w6 ⟨rfl, hb6⟩))
  go_ret
  exact ⟨rfl, Below.next HB5.out hb6⟩
theorem sums_any (x : Int) (L : List UInt8) (hL : L.length ≤ 140737488354816) (a : Option Addr) (cap : Nat) (w : World) (hB : ByAt w (.slice a L.length cap) L) : Calls Try.prog 3 #[.int .i64 x, .slice a L.length cap] w fun e w' => e = .returned (.bool true) ∧ Below w.heap.size w w' := by
  rcases kind_or x with ⟨k, hk, rfl⟩ | hno
  · have hkk : k / 8 ≤ 64 := by rcases hk with rfl | rfl | rfl | rfl <;> decide
    refine sums_walk (k : Int) 0 (shaL k L) L (by rw [shaL_len]; omega) hL a cap w hB (fun a cap w h => ?_) (fun a cap w h => ?_)
    · exact (shaSum_any k hk L (by omega) a cap w h).mono fun e w' ⟨g', he, _, hz, hb⟩ => ⟨_, he, by
        have := rowZ_by hz
        rw [show ((List.range (k / 8)).map (dgP k (feedP k (newP k) L))).length = k / 8 by simp] at this
        exact this, hb⟩
    · exact (rSum_any k hk L hL a cap w h).mono fun e w' ⟨g', cap', he, _, hby, hb⟩ => ⟨_, he, hby, hb⟩
  · refine sums_walk x 1 [] L (by decide) hL a cap w hB (fun a cap w h => ?_) (fun a cap w h => ?_)
    · exact (shaSum_no x hno _ w).mono fun e w' ⟨he, hw⟩ => ⟨_, he, .inl ⟨rfl, none, 0, rfl, fun _ => rfl⟩, by rw [hw]; exact Below.refl _ _⟩
    · exact (rSum_no x hno _ w).mono fun e w' ⟨he, hb⟩ => ⟨_, he, .inl ⟨rfl, none, 0, rfl, fun _ => rfl⟩, hb⟩
end Go.Proofs.Ytnldpofljeodiaa
/- ShaStretches. -/
namespace Go.Proofs.Ytnldpofljeodiaa
open Go.RowKit
set_option linter.unusedVariables false

def AnsIs (w : World) (D : List UInt8) (E : Int) (e : Ending) (w' : World) : Prop := ∃ u, e = .returned (.tuple #[u, .int .i64 E]) ∧ ByAt w' u D ∧ Below w.heap.size w w'
theorem ByAt.nil (w : World) : ByAt w (.slice none 0 0) [] := .inl ⟨rfl, none, 0, rfl, fun _ => rfl⟩
theorem rowZ_byL {w : World} {g n : Nat} {f : Nat → UInt8} (h : RowZ w g .u8 n 5 (fun i => ((f i).toNat : Int))) : ByAt w (.slice (some ⟨g, 0, none⟩) n n) ((List.range n).map f) := by
  have := rowZ_by h
  rw [show ((List.range n).map f).length = n by simp] at this
  exact this
set_option maxRecDepth 100000 in
set_option maxHeartbeats 3000000 in
theorem strs_walk (x rd z E : Int) (D K M : List UInt8) (hD : D.length ≤ 4611686018427387904) (hK : K.length ≤ 140737488354400) (hM : M.length ≤ 140737488354400) (aK aM : Option Addr) (cK cM : Nat) (w : World) (hbK : ByAt w (.slice aK K.length cK) K) (hbM : ByAt w (.slice aM M.length cM) M)
    (h20 : ∀ (aK aM : Option Addr) (cK cM : Nat) w, ByAt w (.slice aK K.length cK) K → ByAt w (.slice aM M.length cM) M → Calls Try.prog 20 #[.int .i64 x, .slice aK K.length cK, .slice aM M.length cM, .int .i64 rd, .int .i64 z] w (AnsIs w D E))
    (h21 : ∀ (aK aM : Option Addr) (cK cM : Nat) w, ByAt w (.slice aK K.length cK) K → ByAt w (.slice aM M.length cM) M → Calls Try.prog 21 #[.int .i64 x, .slice aK K.length cK, .slice aM M.length cM, .int .i64 rd, .int .i64 z] w (AnsIs w D E)) : Calls Try.prog 5 #[.int .i64 x, .slice aK K.length cK, .slice aM M.length cM, .int .i64 rd, .int .i64 z] w fun e w' => e = .returned (.bool true) ∧ Below w.heap.size w w' := by
  have HOK := hidD (ownBy_any K (by omega))
  have HOM := hidD (ownBy_any M (by omega))
  have H20 := hidD h20
  have H21 := hidD h21
  have HNE := hidD (no_any E)
  have HSD := hidD (same_true D hD)
  have HLV := hidD live_any
  have HYK := hidD hbK
  have HYM := hidD hbM
  clear h20 h21 hbK hbM hD hK hM
  generalize K.length = KL at *
  generalize M.length = ML at *
  go_enter Try.func5, Try.ntmps5
  go_wp2_with fail
  go_at_call 8
  refine (HOK.out _ _ _ HYK.out).mono ?_
  rintro e w1 ⟨a1, c1, rfl, hy1, hb1⟩
  have HB1 := hidD hb1
  have K1 := hidD hy1
  clear hy1 hb1 HOK
  go_wp2_with fail
  go_at_call 8
  refine (HOM.out _ _ _ (HYM.out.next HB1.out)).mono ?_
  rintro e w2 ⟨a2, c2, rfl, hy2, hb2⟩
  have HB2 := hidD (Below.next HB1.out hb2)
  have K2 := hidD (K1.out.next hb2)
  have M2 := hidD hy2
  clear hy2 hb2 HOM HB1 K1
  go_wp2_with fail
  go_at_call 20
  refine (H20.out _ _ _ _ _ K2.out M2.out).mono ?_
  rintro e w3 ⟨u3, rfl, hy3, hb3⟩
  have HB3 := hidD (Below.next HB2.out hb3)
  have A3 := hidD hy3
  clear hy3 hb3 H20 HB2 K2 M2
  go_wp2_with fail
  go_at_call 21
  refine (H21.out _ _ _ _ _ (HYK.out.next HB3.out) (HYM.out.next HB3.out)).mono ?_
  rintro e w4 ⟨u4, rfl, hy4, hb4⟩
  have HB4 := hidD (Below.next HB3.out hb4)
  have A4 := hidD (A3.out.next hb4)
  have B4 := hidD hy4
  clear hy4 hb4 H21 HB3 A3
  go_wp2_with fail
  go_at_call 11
  refine (HSD.out _ _ _ A4.out B4.out).mono ?_
  rintro e w9 ⟨rfl, hb9⟩
  have HB9 := hidD (Below.next HB4.out hb9)
  clear hb9 HB4 A4 B4
  go_wp2_with (first
    | (go_at_call 12; refine (HNE.out _).mono ?_; rintro e wz ⟨rfl, hwz⟩; subst wz)
    | (go_at_call 13; refine (HLV.out _).mono ?_; rintro e w14 ⟨rfl, hb14⟩))
  go_ret
  exact ⟨rfl, Below.next HB9.out hb14⟩
theorem strs_any (x : Int) (K M : List UInt8) (hK : K.length ≤ 140737488354400) (hM : M.length ≤ 140737488354400) (aK aM : Option Addr) (cK cM : Nat) (rd z : Int) (w : World) (hbK : ByAt w (.slice aK K.length cK) K) (hbM : ByAt w (.slice aM M.length cM) M) : Calls Try.prog 5 #[.int .i64 x, .slice aK K.length cK, .slice aM M.length cM, .int .i64 rd, .int .i64 z] w fun e w' => e = .returned (.bool true) ∧ Below w.heap.size w w' := by
  have bad : ∀ e1 : Int, ((e1 = 1 ∧ x ≠ 224 ∧ x ≠ 256 ∧ x ≠ 384 ∧ x ≠ 512) ∨ (∃ k : Nat, Kind k ∧ x = (k : Int) ∧ ((e1 = 1 ∧ rd < 1) ∨ (e1 = 1 ∧ ¬ rd < 1 ∧ z < 0) ∨ (e1 = 3 ∧ ¬ rd < 1 ∧ ¬ z < 0 ∧ 1024 < rd) ∨ (e1 = 3 ∧ ¬ rd < 1 ∧ ¬ z < 0 ∧ ¬ 1024 < rd ∧ 1024 < z)))) → Calls Try.prog 5 #[.int .i64 x, .slice aK K.length cK, .slice aM M.length cM, .int .i64 rd, .int .i64 z] w fun e w' => e = .returned (.bool true) ∧ Below w.heap.size w w' := fun e1 h => by
    refine strs_walk x rd z e1 [] K M (by decide) hK hM aK aM cK cM w hbK hbM (fun aK aM cK cM w h1 h2 => ?_) (fun aK aM cK cM w h1 h2 => ?_)
    · exact (stretch_bad x K M (by omega) aK aM cK cM rd z e1 w h1 h).mono fun e w' ⟨he, hb⟩ => ⟨_, he, ByAt.nil _, hb⟩
    · exact (rStr_bad x _ _ rd z e1 w h).mono fun e w' ⟨he, hb⟩ => ⟨_, he, ByAt.nil _, hb⟩
  rcases kind_or x with ⟨k, hk, rfl⟩ | hno
  · by_cases h1 : rd < 1
    · exact bad 1 (.inr ⟨k, hk, rfl, .inl ⟨rfl, h1⟩⟩)
    · by_cases h2 : z < 0
      · exact bad 1 (.inr ⟨k, hk, rfl, .inr (.inl ⟨rfl, h1, h2⟩)⟩)
      · by_cases h3 : 1024 < rd
        · exact bad 3 (.inr ⟨k, hk, rfl, .inr (.inr (.inl ⟨rfl, h1, h2, h3⟩))⟩)
        · by_cases h4 : 1024 < z
          · exact bad 3 (.inr ⟨k, hk, rfl, .inr (.inr (.inr ⟨rfl, h1, h2, h3, h4⟩))⟩)
          · obtain ⟨n, rfl⟩ : ∃ n : Nat, z = (n : Int) := ⟨z.toNat, by omega⟩
            obtain ⟨R, rfl⟩ : ∃ R : Nat, rd = (R : Int) + 1 := ⟨(rd - 1).toNat, by omega⟩
            refine strs_walk (k : Int) ((R : Int) + 1) n 0 (stL (k / 8) (stT k K M R) n) K M (by rw [stL_len]; omega) hK hM aK aM cK cM w hbK hbM (fun aK aM cK cM w h1 h2 => ?_) (fun aK aM cK cM w h1 h2 => ?_)
            · exact (stretch_ok k hk K M (by omega) (by omega) R (by omega) n (by omega) aK aM cK cM w h1 h2).mono fun e w' ⟨g, he, _, hz, hb⟩ => ⟨_, he, rowZ_byL hz, hb⟩
            · exact rStr_ok k hk K M (by omega) (by omega) R (by omega) n (by omega) aK aM cK cM w h1 h2
  · exact bad 1 (.inl ⟨rfl, hno⟩)
end Go.Proofs.Ytnldpofljeodiaa
