/- SboxGreatest, walked. -/
import Derived.Test.YtdbledfpphkppaaAlv
import Derived.Test.YtdbledfpphkppaaPgx
import Derived.Test.YtdbledfpphkppaaApd
import Derived.Laws.IdiomStrings
namespace Go.Proofs.Ytdbledfpphkppaa
open Go.RowKit
set_option linter.unusedVariables false

theorem low_call' {f : FuncId} {args : Array Value} {w : World} {v : Value} (h : Calls Try.prog f args w fun e w' => e = .returned v ∧ w' = w) : Calls Try.prog f args w fun e w' => e = .returned v ∧ Below w.heap.size w w' := h.mono fun e w' h => ⟨h.1, by rw [h.2]; exact Below.refl _ _⟩
/- what is told of a table -/
def tell (l : List UInt8) (n : Int) : Value := if l.length = 256 then .tuple #[.int .i64 n, .int .i64 0] else .tuple #[.int .i64 0, .int .i64 91]
theorem pUni_tell (l : List UInt8) (v : Value) (w : World) (hv : ByAt w v l) : Calls Try.prog 33 #[v] w fun e w' => e = .returned (tell l (uniS (tbN l) : Nat)) ∧ Below w.heap.size w w' := by
  unfold tell; split
  · rename_i h; exact pUni_any l h v w hv
  · rename_i h; exact pUni_out l h v w hv
theorem refUni_tell (l : List UInt8) (v : Value) (w : World) (hv : ByAt w v l) : Calls Try.prog 34 #[v] w fun e w' => e = .returned (tell l (uniS (tbN l) : Nat)) ∧ Below w.heap.size w w' := by
  unfold tell; split
  · rename_i h; exact refUni_any l h v w hv
  · rename_i h; exact low_call' (refUni_out l h v w hv)
theorem pLin_tell (l : List UInt8) (v : Value) (w : World) (hv : ByAt w v l) : Calls Try.prog 35 #[v] w fun e w' => e = .returned (tell l (strS (tbN l) : Nat)) ∧ Below w.heap.size w w' := by
  unfold tell; split
  · rename_i h; exact pLin_any l h v w hv
  · rename_i h; exact pLin_out l h v w hv
theorem refLin_tell (l : List UInt8) (v : Value) (w : World) (hv : ByAt w v l) : Calls Try.prog 36 #[v] w fun e w' => e = .returned (tell l (strS (tbN l) : Nat)) ∧ Below w.heap.size w w' := by
  unfold tell; split
  · rename_i h; exact refLin_any l h v w hv
  · rename_i h; exact low_call' (refLin_out l h v w hv)
theorem tell_is (l : List UInt8) (n : Int) : ∃ x y : Int, tell l n = .tuple #[.int .i64 x, .int .i64 y] := by
  unfold tell; split
  · exact ⟨_, _, rfl⟩
  · exact ⟨_, _, rfl⟩
set_option maxRecDepth 100000 in
set_option maxHeartbeats 1600000 in
theorem greatest_any (l : List UInt8) (hl : l.length ≤ 281474976710656) (v : Value) (w : World) (hv : ByAt w v l) : Calls Try.prog 5 #[v] w fun e w' => e = .returned (.bool true) ∧ Below w.heap.size w w' := by
  have HV := hidD hv
  have H1 := hidD (fun w v h => pUni_tell l v w h)
  have H2 := hidD (fun w v h => refUni_tell l v w h)
  have H3 := hidD (fun w v h => pLin_tell l v w h)
  have H4 := hidD (fun w v h => refLin_tell l v w h)
  have HA := hidD (fun w => alive_any w)
  obtain ⟨x1, y1, e1⟩ := tell_is l (uniS (tbN l) : Nat)
  obtain ⟨x2, y2, e2⟩ := tell_is l (strS (tbN l) : Nat)
  rw [e1] at H1 H2
  rw [e2] at H3 H4
  have HCV := hidD (fun (w' : World) (v' : Value) (h : ByAt w' v' l) => conv_by h)
  clear e1 e2 hv
  go_enter Try.func5, Try.ntmps5
  go_wp2_with (first
    | (at_builtin; refine wpList_append_fresh rfl _ _ rfl rfl v l rfl HV.out hl ?_; intro vo w1 hs1 hb1; have HS := hidD hs1; have HB1 := hidD hb1; have HV1 := hidD (HV.out.next hb1); clear hs1 hb1)
    | (go_at_call 33; refine (H1.out _ _ HS.out.by').mono ?_; rintro e w2 ⟨rfl, hb2⟩; have HS2 := hidD (HS.out.by'.next hb2); have HV2 := hidD (HV1.out.next hb2); have HB2 := hidD (Below.next HB1.out hb2); clear hb2)
    | (go_at_call 34; refine (H2.out _ _ HV2.out).mono ?_; rintro e w3 ⟨rfl, hb3⟩; have HS3 := hidD (HS2.out.next hb3); have HV3 := hidD (HV2.out.next hb3); have HB3 := hidD (Below.next HB2.out hb3); clear hb3)
    | (go_at_call 35; refine (H3.out _ _ HS3.out).mono ?_; rintro e w4 ⟨rfl, hb4⟩; have HS4 := hidD (HS3.out.next hb4); have HV4 := hidD (HV3.out.next hb4); have HB4 := hidD (Below.next HB3.out hb4); clear hb4)
    | (go_at_call 36; refine (H4.out _ _ HV4.out).mono ?_; rintro e w5 ⟨rfl, hb5⟩; have HB5 := hidD (Below.next HB4.out hb5); have hcv1 := HCV.out _ _ (HS4.out.next hb5); have hcv2 := HCV.out _ _ (HV4.out.next hb5); clear hb5)
    | (go_at_call 23; refine (HA.out _).mono ?_; rintro e w6 ⟨rfl, hb6⟩; have HB6 := hidD (Below.next HB5.out hb6); clear hb6))
  go_ret
  exact ⟨rfl, HB6.out⟩
end Go.Proofs.Ytdbledfpphkppaa
