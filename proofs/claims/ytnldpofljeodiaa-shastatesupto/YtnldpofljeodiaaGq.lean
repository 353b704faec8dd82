/- Texts of one proof, one behind the other. -/
import Derived.Test.YtnldpofljeodiaaGg
import Derived.Test.YtnldpofljeodiaaLw
import Derived.Test.YtnldpofljeodiaaSt8
import Derived.Test.YtnldpofljeodiaaCt
import Derived.Test.YtnldpofljeodiaaGm
/- ShaSums. -/
namespace Go.Proofs.Ytnldpofljeodiaa
open Go.RowKit
set_option linter.unusedVariables false

set_option maxRecDepth 100000 in
theorem ownB_any (L : List UInt8) (hL : L.length ≤ 140737488355328) (a : Option Addr) (cap : Nat) (w : World) (hB : ByAt w (.slice a L.length cap) L) : Calls Try.prog 8 #[.slice a L.length cap] w fun e w' => ∃ a' c', e = .returned (.slice a' L.length c') ∧ w'.ownsRow w.heap.size 5 1 (.slice a' L.length c') L.length (L.map encB) ∧ Below w.heap.size w w' := by
  have HR0 : Hid ((w.alloc (.cells #[] (5 : TypeId))).ownsRow w.heap.size 5 1 (.slice (some ⟨w.heap.size, 0, none⟩) 0 0) 0 []) := World.ownsRow_made w #[] 0 (Nat.le_refl _) (by unfold maxLen; omega) rfl
  have HB0 : Hid (Below w.heap.size w (w.alloc (.cells #[] (5 : TypeId)))) := (Below.refl _ _).alloc (Nat.le_refl _) _
  have HBY := hidD hB
  clear hB
  go_enter Try.func8, Try.ntmps8
  go_wp2_with (at_builtin; refine wpList_append_by rfl _ _ rfl w.heap.size (.slice (some ⟨w.heap.size, 0, none⟩) 0 0) 0 [] rfl HR0.out (.slice a L.length cap) L rfl (HBY.out.next HB0.out) (by omega) HB0.out.size ?_; intro v1 w1 hown1 hg1; have HB1 := hidD (row_grown HR0.out HB0.out hg1 HB0.out.size); clear hg1)
  rw [List.nil_append, Nat.zero_add] at hown1
  obtain ⟨a1, k1, rfl⟩ := row_shape hown1
  refine bodyPost_ret (v := .slice a1 L.length k1) (by simp [results, Try.results8, go_sem]) rfl ⟨a1, k1, rfl, hown1, HB1.out⟩
theorem ownBy_any (L : List UInt8) (hL : L.length ≤ 140737488355328) (a : Option Addr) (cap : Nat) (w : World) (hB : ByAt w (.slice a L.length cap) L) : Calls Try.prog 8 #[.slice a L.length cap] w fun e w' => ∃ a' c', e = .returned (.slice a' L.length c') ∧ ByAt w' (.slice a' L.length c') L ∧ Below w.heap.size w w' :=
  (ownB_any L hL a cap w hB).mono fun e w' ⟨a', c', he, ho, hb⟩ => ⟨a', c', he, row_by ho, hb⟩
/- a call of the program and one of the document with the same answers -/
set_option maxRecDepth 100000 in
set_option maxHeartbeats 1600000 in
theorem sums_walk (x E : Int) (D L : List UInt8) (hD : D.length ≤ 4611686018427387904) (hL : L.length ≤ 140737488354816) (a : Option Addr) (cap : Nat) (w : World) (hB : ByAt w (.slice a L.length cap) L)
    (hp : ∀ (a : Option Addr) (cap : Nat) w, ByAt w (.slice a L.length cap) L → Calls Try.prog 9 #[.int .i64 x, .slice a L.length cap] w fun e w' => ∃ u, e = .returned (.tuple #[u, .int .i64 E]) ∧ ByAt w' u D ∧ Below w.heap.size w w')
    (hr : ∀ (a : Option Addr) (cap : Nat) w, ByAt w (.slice a L.length cap) L → Calls Try.prog 10 #[.int .i64 x, .slice a L.length cap] w fun e w' => ∃ u, e = .returned (.tuple #[u, .int .i64 E]) ∧ ByAt w' u D ∧ Below w.heap.size w w') : Calls Try.prog 3 #[.int .i64 x, .slice a L.length cap] w fun e w' => e = .returned (.bool true) ∧ Below w.heap.size w w' := by
  have HOW := hidD (ownBy_any L (by omega))
  have HP := hidD hp
  have HR := hidD hr
  have HNO := hidD (no_any E)
  have HSD := hidD (same_true D hD)
  have HSL := hidD (same_true L (by omega))
  have HLV := hidD live_any
  have HBY := hidD hB
  clear hp hr hB hD hL
  generalize hLL : L.length = LL at *
  clear hLL
  go_enter Try.func3, Try.ntmps3
  go_wp2_with fail
  go_at_call 8
  refine (HOW.out _ _ _ HBY.out).mono ?_
  rintro e w1 ⟨a1, c1, rfl, hown1, hb1⟩
  have HM1 := hidD hown1
  have HB1 := hidD hb1
  clear hown1 hb1 HOW
  go_wp2_with fail
  go_at_call 9
  refine (HP.out _ _ _ HM1.out).mono ?_
  rintro e w2 ⟨u, rfl, hu, hb2⟩
  have HM2 := hidD (HM1.out.next hb2)
  have HB2 := hidD (Below.next HB1.out hb2)
  have HU2 := hidD hu
  clear hu hb2 HM1 HB1 HP
  go_wp2_with fail
  go_at_call 10
  refine (HR.out _ _ _ (HBY.out.next HB2.out)).mono ?_
  rintro e w3 ⟨v, rfl, hv, hb3⟩
  have HM3 := hidD (HM2.out.next hb3)
  have HU3 := hidD (HU2.out.next hb3)
  have HB3 := hidD (Below.next HB2.out hb3)
  have HV3 := hidD hv
  clear hv hb3 HM2 HU2 HB2 HR
  go_wp2_with fail
  go_at_call 11
  refine (HSD.out _ _ _ HU3.out HV3.out).mono ?_
  rintro e w4 ⟨rfl, hb4⟩
  have HB4 := hidD (Below.next HB3.out hb4)
  have HM4 := hidD (HM3.out.next hb4)
  clear hb4 HB3 HM3 HU3 HV3 HSD
  go_wp2_with (first
    | (go_at_call 12; refine (HNO.out _).mono ?_; rintro e wz ⟨rfl, hwz⟩; subst wz)
    | (go_at_call 11; refine (HSL.out _ _ _ HM4.out (HBY.out.next HB4.out)).mono ?_; rintro e w5 ⟨rfl, hb5⟩; have HB5 := hidD (Below.next HB4.out hb5); clear hb5 HB4)
    | (go_at_call 13; refine (HLV.out _).mono ?_; rintro e w6 ⟨rfl, hb6⟩))
  go_ret
  exact ⟨rfl, Below.next HB5.out hb6⟩
theorem sums_any (x : Int) (L : List UInt8) (hL : L.length ≤ 140737488354816) (a : Option Addr) (cap : Nat) (w : World) (hB : ByAt w (.slice a L.length cap) L) : Calls Try.prog 3 #[.int .i64 x, .slice a L.length cap] w fun e w' => e = .returned (.bool true) ∧ Below w.heap.size w w' := by
  rcases kind_or x with ⟨k, hk, rfl⟩ | hno
  · have hkk : k / 8 ≤ 64 := by rcases hk with rfl | rfl | rfl | rfl <;> decide
    refine sums_walk (k : Int) 0 (shaL k L) L (by rw [shaL_len]; omega) hL a cap w hB (fun a cap w h => ?_) (fun a cap w h => ?_)
    · exact (shaSum_any k hk L (by omega) a cap w h).mono fun e w' ⟨g', he, _, hz, hb⟩ => ⟨_, he, by
        have := rowZ_by hz
        rw [show ((List.range (k / 8)).map (dgP k (feedP k (newP k) L))).length = k / 8 by simp] at this
        exact this, hb⟩
    · exact (rSum_any k hk L hL a cap w h).mono fun e w' ⟨g', cap', he, _, hby, hb⟩ => ⟨_, he, hby, hb⟩
  · refine sums_walk x 1 [] L (by decide) hL a cap w hB (fun a cap w h => ?_) (fun a cap w h => ?_)
    · exact (shaSum_no x hno _ w).mono fun e w' ⟨he, hw⟩ => ⟨_, he, .inl ⟨rfl, none, 0, rfl, fun _ => rfl⟩, by rw [hw]; exact Below.refl _ _⟩
    · exact (rSum_no x hno _ w).mono fun e w' ⟨he, hb⟩ => ⟨_, he, .inl ⟨rfl, none, 0, rfl, fun _ => rfl⟩, hb⟩
end Go.Proofs.Ytnldpofljeodiaa
/- What Len of the program answers; Extract of both sides is Mac. -/
namespace Go.Proofs.Ytnldpofljeodiaa
open Go.RowKit
set_option linter.unusedVariables false

set_option maxRecDepth 100000 in
theorem len_any (g k : Nat) (s : Ps) (w : World) (h : StAt w g k s) : Calls Try.prog 27 #[.pointer (some ⟨g, 0, none⟩)] w fun e w' => e = .returned (.int .u64 (s.n : Int)) ∧ w' = w := by
  have hc := h.len
  clear h
  go_enter Try.func27, Try.ntmps27
  go_wp2_with fail
  go_ret
  exact ⟨rfl, rfl⟩
set_option maxRecDepth 100000 in
theorem len_nil (w : World) : Calls Try.prog 27 #[.pointer none] w fun e w' => e = .returned (.int .u64 0) ∧ w' = w := by
  go_enter Try.func27, Try.ntmps27
  go_wp2_with fail
  go_ret
  exact ⟨rfl, rfl⟩
set_option maxRecDepth 100000 in
theorem extract_of (x y z v u : Value) (w : World) (Q : World → Prop) (h : Calls Try.prog 14 #[x, y, z] w fun e w' => e = .returned (.tuple #[v, u]) ∧ Q w') : Calls Try.prog 16 #[x, y, z] w fun e w' => e = .returned (.tuple #[v, u]) ∧ Q w' := by
  have H := hidD h
  clear h
  go_enter Try.func16, Try.ntmps16
  go_wp2_with (go_at_call 14; refine H.out.mono ?_; rintro e w1 ⟨rfl, hq⟩)
  refine bodyPost_ret (v := .tuple #[v, u]) (by simp [results, Try.results16, go_sem]) rfl ⟨rfl, hq⟩
set_option maxRecDepth 100000 in
theorem extract_ex (x y z u : Value) (w : World) (V : Nat → Value) (Q : Nat → World → Prop) (h : Calls Try.prog 14 #[x, y, z] w fun e w' => ∃ g, e = .returned (.tuple #[V g, u]) ∧ Q g w') : Calls Try.prog 16 #[x, y, z] w fun e w' => ∃ g, e = .returned (.tuple #[V g, u]) ∧ Q g w' := by
  have H := hidD h
  clear h
  go_enter Try.func16, Try.ntmps16
  go_wp2_with (go_at_call 14; refine H.out.mono ?_; rintro e w1 ⟨g, rfl, hq⟩)
  refine bodyPost_ret (v := .tuple #[V g, u]) (by simp [results, Try.results16, go_sem]) rfl ⟨g, rfl, hq⟩
end Go.Proofs.Ytnldpofljeodiaa
