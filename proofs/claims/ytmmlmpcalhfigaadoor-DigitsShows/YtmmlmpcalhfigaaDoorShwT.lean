/- The walk of DigitsShows. -/
import Derived.Test.YtmmlmpcalhfigaaDoorLive
import Derived.Test.YtmmlmpcalhfigaaDoorByt
import Derived.Test.YtmmlmpcalhfigaaDoorDec
namespace Go.Proofs.YtmmlmpcalhfigaaDoor
open Go.RowKit
set_option linter.unusedVariables false

theorem tab_below {P : Program} {B : Nat} {w w' : World} {name : String} {k : IntKind} {zs : List Int} (h : Lib.TabIs P w name k zs) (hb : Below B w w') (hB : w.heap.size ≤ B) : Lib.TabIs P w' name k zs := by
  unfold Lib.TabIs World.var? at *
  cases hg : P.globalNamed name with
  | none => simp [hg] at h
  | some g =>
    simp only [hg, Option.bind_some] at h ⊢
    have hlt : g < w.heap.size := by
      rcases Nat.lt_or_ge g w.heap.size with h' | h'
      · exact h'
      · rw [Array.getElem?_eq_none h'] at h; simp at h
    rw [hb.block g (by omega)]
    exact h
theorem below_drew (w : World) (n : Nat) : Below w.heap.size w (w.drewN n) := ⟨rfl, rfl, rfl, Nat.le_refl _, fun _ _ => rfl⟩
theorem below_grown (w : World) (n : Nat) (os : Array Obj) : Below w.heap.size w (Sort.grow (w.drewN n) os) :=
  ⟨rfl, rfl, rfl, by simp [Sort.grow, World.drewN], fun k hk => by simp [Sort.grow, World.drewN, Array.getElem?_append_left hk]⟩
theorem cum {P : Program} {f : Nat} {args : Array Value} {w w1 : World} {Q : Ending → Prop} (hb : Below w.heap.size w w1) (h : Calls P f args w1 fun e w' => Q e ∧ Below w1.heap.size w1 w') : Calls P f args w1 fun e w' => Q e ∧ Below w.heap.size w w' :=
  h.mono fun e w' q => ⟨q.1, hb.trans (q.2.mono hb.size)⟩

set_option maxRecDepth 100000 in
set_option maxHeartbeats 1000000 in
theorem shows_any (v : Nat) (kind width : Int) (hv : v ≤ 18446744073709551615) (w : World) (htab : Lib.TabIs Tryd.prog w "internal/strconv.uint64pow10" .u64 Lib.pow10Tab) : Calls Tryd.prog 3 #[.int .u64 v, .int .i64 kind, .int .i64 width] w fun e w' => e = .returned (.bool true) ∧ Below w.heap.size w w' := by
  have HT := hidD (fun (w1 : World) (hb : Below w.heap.size w w1) => tab_below htab hb (Nat.le_refl _))
  obtain ⟨vi, hvi⟩ : ∃ vi, IntKind.i64.wrap (v : Int) = vi := ⟨_, rfl⟩
  have hb0 : -9223372036854775808 ≤ vi ∧ vi ≤ 9223372036854775807 := by rw [← hvi, IntKind.wrap_i64]; omega
  have H5 := hidD (fun (w1 : World) (hb : Below w.heap.size w w1) => cum hb (show_any v kind width hv w1))
  have H6 := hidD (fun (w1 : World) (hb : Below w.heap.size w w1) => cum hb ((refShow_any v kind width hv w1).mono fun e w' (q : _ ∧ ∃ n, w' = w1.drewN n) => ⟨q.1, by obtain ⟨n, rfl⟩ := q.2; exact below_drew w1 n⟩))
  have H8 := hidD (fun (w1 : World) (hb : Below w.heap.size w w1) => cum hb ((decimal_any vi hb0.1 hb0.2 w1 (HT.out w1 hb)).mono fun e w' (q : _ ∧ ∃ k os, w' = Sort.grow (w1.drewN k) os) => ⟨q.1, by obtain ⟨k, os, rfl⟩ := q.2; exact below_grown w1 k os⟩))
  have H9 := hidD (fun (w1 : World) (hb : Below w.heap.size w w1) => cum hb ((refDecimal_any vi hb0.1 hb0.2 w1).mono fun e w' (q : _ ∧ ∃ n, w' = w1.drewN n) => ⟨q.1, by obtain ⟨n, rfl⟩ := q.2; exact below_drew w1 n⟩))
  have H10 := hidD (fun (w1 : World) => bytes_any v hv w1)
  have H11 := hidD (fun (w1 : World) => refBytes_any v hv w1)
  have H12 := hidD (fun (w1 : World) (hb : Below w.heap.size w w1) => cum hb (live_any w1))
  clear htab HT
  generalize showS v kind width = sh at *
  obtain ⟨s1, s2⟩ := sh
  generalize decS vi = dc at *
  generalize bytesS v = by1 at *
  simp only at H5 H6
  have n1 : ∀ x : Int, (x == x) = true := fun x => by simp
  have hbw := Below.refl w.heap.size w
  have HB0 := hidD hbw
  clear hbw hb0
  go_enter Tryd.func3, Tryd.ntmps3
  go_wp2_with (first
    | (go_at_call 5; refine (H5.out _ HB0.out).mono ?_; rintro e w1 ⟨rfl, hb1⟩)
    | (go_at_call 6; refine (H6.out _ hb1).mono ?_; rintro e w2 ⟨rfl, hb2⟩)
    | (go_at_call 7; refine (no_any _ _).mono ?_; rintro e w' ⟨rfl, hw⟩; rw [hw]; clear hw w')
    | (go_at_call 8; refine (H8.out _ hb2).mono ?_; rintro e w3 ⟨rfl, hb3⟩)
    | (go_at_call 9; refine (H9.out _ hb3).mono ?_; rintro e w4 ⟨rfl, hb4⟩)
    | (go_at_call 10; refine (H10.out _).mono ?_; rintro e w' ⟨rfl, hw⟩; rw [hw]; clear hw w')
    | (go_at_call 11; refine (H11.out _).mono ?_; rintro e w' ⟨rfl, hw⟩; rw [hw]; clear hw w')
    | (go_at_call 12; refine (H12.out _ hb4).mono ?_; rintro e w5 ⟨rfl, hb5⟩))
  go_ret
  exact ⟨rfl, hb5⟩
end Go.Proofs.YtmmlmpcalhfigaaDoor
