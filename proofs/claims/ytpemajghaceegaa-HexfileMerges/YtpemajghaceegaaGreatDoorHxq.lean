/- What Split and Record answer. -/
import Derived.Test.YtpemajghaceegaaGreatDoorHxo
import Derived.Test.YtpemajghaceegaaGreatDoorHxh
import Derived.Test.YtpemajghaceegaaGreatDoorHxi
namespace Go.Proofs.YtpemajghaceegaaGreatDoor
open Go.RowKit
set_option linter.unusedVariables false

/- what Split tells -/
def SplIs (r : Res) (e : Ending) (w w' : World) : Prop :=
  Below w.heap.size w w' ∧ match r with
    | .error n => e = .returned (.tuple #[.int .i64 0, .int .i64 0, .int .i64 0, .slice none 0 0, .int .i64 (n : Int)]) ∧ (n = 210 ∨ n = 211)
    | .ok (f, k, a, d) => ∃ v, e = .returned (.tuple #[.int .i64 (f : Int), .int .i64 (k : Int), .int .i64 (a : Int), v, .int .i64 0]) ∧ ByAt w' v d
theorem line_err {l : List UInt8} {n : Nat} (h : lineS l = .error n) : n = 210 ∨ n = 211 := by
  have hfin : ∀ f r, (∀ n, r = .error n → n = 210 ∨ n = 211) → finR f r = .error n → n = 210 ∨ n = 211 := by
    intro f r hr h
    cases r with
    | error m => cases h; exact hr _ rfl
    | ok x =>
      obtain ⟨k, a, d⟩ := x
      cases hm : mayS f k a d with
      | true => rw [fin_ok hm] at h; cases h
      | false => rw [fin_no hm] at h; cases h; exact .inl rfl
  cases l with
  | nil => cases h; exact .inl rfl
  | cons c t =>
    by_cases h1 : c = 58
    · subst h1; rw [line_int] at h; exact hfin _ _ (fun n hr => match_err (fun b n hb => raw_err.1 hb) hr) h
    · by_cases h2 : c = 83
      · subst h2; rw [line_mot] at h; exact hfin _ _ (fun n hr => motL_err hr) h
      · by_cases h3 : c = 59
        · subst h3; rw [line_mos] at h; exact hfin _ _ (fun n hr => match_err (fun b n hb => raw_err.2.2 hb) hr) h
        · rw [line_no h1 h2 h3] at h; cases h; exact .inl rfl
set_option maxRecDepth 100000 in
set_option maxHeartbeats 1600000 in
theorem Split_any (l : List UInt8) (hl : l.length ≤ 140737488355000) (w : World) :
    Calls Tryz.prog 18 #[.string (bA l)] w fun e w' => SplIs (lineS l) e w w' := by
  have HFO := hidD (fun w => formats_any w)
  have HSP := hidD (fun g w hT => split_any l hl g w hT)
  have HER : Hid (∀ n, lineS l = .error n → n = 210 ∨ n = 211) := fun n h => line_err h
  obtain ⟨hz, hsz3⟩ := zero_of_info Tryz.zeroRec
  generalize bA l = s at *
  generalize lineS l = r at *
  go_enter Tryz.func18, Tryz.ntmps18
  go_wp2_with fail
  go_at_call 37
  refine (HFO.out _).mono ?_
  rintro e w1 ⟨g, rfl, hT, hge, hb⟩
  have HT1 := hidD hT
  have HB1 := hidD hb
  clear hT hge hb HFO
  go_wp2_with fail
  go_at_call 42
  refine (HSP.out _ _ HT1.out).mono ?_
  rintro e w2 ⟨hb, hm⟩
  have HB2 := hidD (Below.next HB1.out hb)
  clear hb HSP
  cases r with
  | error n =>
    have hm2 : e = .returned (.tuple #[.int .i64 0, .agg #[.int .i64 0, .int .i64 0, .slice none 0 0], .int .i64 (n : Int)]) := hm
    subst hm2
    clear hm
    have HAL := hidD ((Below.refl w2.heap.size w2).alloc (Nat.le_refl _) (.cells #[.int .i64 0, .int .i64 0, .slice none 0 0] (80 : TypeId)))
    have hn : ((n : Int) != 0) = true := by
      rcases HER.out n rfl with rfl | rfl <;> rfl
    go_wp2_with fail
    refine bodyPost_ret (v := .tuple #[.int .i64 0, .int .i64 0, .int .i64 0, .slice none 0 0, .int .i64 (n : Int)]) (by simp [results, Tryz.results18, go_sem]) rfl ?_
    exact ⟨Below.next HB2.out HAL.out, rfl, HER.out n rfl⟩
  | ok x =>
    obtain ⟨f, k, a, d⟩ := x
    obtain ⟨v, rfl, hby, hnv⟩ := hm
    obtain ⟨va, vc, rfl⟩ := hby.len
    obtain ⟨N, HN⟩ : ∃ N, Hid (d.length = N) := ⟨_, rfl⟩
    have HBY := hidD hby
    clear hby hnv
    rw [HN.out] at HBY ⊢
    have HAL := hidD ((Below.refl w2.heap.size w2).alloc (Nat.le_refl _) (.cells #[.int .i64 (k : Int), .int .i64 (a : Int), .slice va N vc] (80 : TypeId)))
    have HX := hidD (heap_alloc_last w2 (recO k a (.slice va N vc)))
    have HY := hidD (HBY.out.next HAL.out)
    go_wp2_with fail
    change Hid ((w2.alloc (.cells #[.int .i64 (k : Int), .int .i64 (a : Int), .slice va N vc] (80 : TypeId))).heap[w2.heap.size]? = some (.cells #[.int .i64 (k : Int), .int .i64 (a : Int), .slice va N vc] (80 : TypeId))) at HX
    have HB3 := hidD (Below.next HB2.out HAL.out)
    clear HAL
    generalize w2.alloc (.cells #[.int .i64 (k : Int), .int .i64 (a : Int), .slice va N vc] (80 : TypeId)) = W3 at *
    obtain ⟨y0, y1, y2⟩ := rec_box (k := k) (a := a) HX.out
    go_quiet (fail)
    go_wp2_with fail
    refine bodyPost_ret (v := .tuple #[.int .i64 (f : Int), .int .i64 (k : Int), .int .i64 (a : Int), .slice va N vc, .int .i64 0]) (by simp [results, Tryz.results18, go_sem]) rfl ?_
    exact ⟨below_drewN HB3.out _, _, rfl, HY.out.next (below_drewN (Below.refl _ _) _)⟩
end Go.Proofs.YtpemajghaceegaaGreatDoor
