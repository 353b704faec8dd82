/- What Useless answers. -/
import Derived.Test.YtgmbkelmgolkpabDoorNwa
namespace Go.Proofs.YtgmbkelmgolkpabDoor
open Go.RowKit Go.Maps
set_option linter.unusedVariables false

/-- Of the first k nonterminals those that are not in both sets. -/
def usTo (E X T : Nat) : Nat → List Int
  | 0 => []
  | k + 1 => if E.testBit (T + k) && X.testBit (T + k) then usTo E X T k else usTo E X T k ++ [((T + k : Nat) : Int)]
theorem us_len (E X T : Nat) : ∀ k, (usTo E X T k).length ≤ k
  | 0 => Nat.le_refl _
  | k + 1 => by
    have := us_len E X T k
    rw [usTo]; split
    · omega
    · rw [List.length_append, List.length_singleton]; omega
set_option maxRecDepth 100000 in
set_option maxHeartbeats 1600000 in
theorem useless_any {p : Nat} {w : World} {T O : List Tx} {st nul : Nat} {R : List (Nat × List Int)} {bg fo : Nat → Nat} (h : GfAt w p T O st R nul bg fo) : Calls Tryd.prog 8 #[.pointer (some ⟨p, 0, none⟩)] w fun e w' => ∃ E X u, e = .returned u ∧ GrIs R (utS (T.length + 1)) E ∧ ReIs R E (2 ^ st) X ∧ IlAt w' u (usTo E X (T.length + 1) O.length) ∧ Below w.heap.size w w' := by
  obtain ⟨cs, h1, ⟨nv, B, e1, e2⟩, _, h2, h3, ⟨vr, h4, h5⟩, _⟩ := h.cs
  obtain ⟨na, nc, rfl⟩ := e2.shape
  have hal : (allN T O).length = T.length + 1 + O.length := by unfold allN; simp; omega
  have hfew := h.few
  have hst := h.stl
  have f0 : w.cell? ⟨p, 0, none⟩ = some (.slice na (allN T O).length nc) := by rw [h1.cell]; exact e1
  have f2 : w.cell? ⟨p, 2, none⟩ = some (.int .i64 ((T.length : Int) + 1)) := by rw [h1.cell]; exact h2
  have f3 : w.cell? ⟨p, 3, none⟩ = some (.int .i64 (st : Int)) := by rw [h1.cell]; exact h3
  have f4 : w.cell? ⟨p, 4, none⟩ = some vr := by rw [h1.cell]; exact h4
  have hp := h1.lt
  have HUT := hidD (upTo_any (T.length + 1) (by omega) w)
  have HGR := hidD (fun w' (hb : Below w.heap.size w w') => grown_any (p := p) R _ h.ok hfew (by have := h.len; omega) (utS (T.length + 1)) (ut_top _ (by omega)) vr w' (Nat.lt_of_lt_of_le hp hb.size) ((hb.cell (p := ⟨p, 4, none⟩) hp).trans f4) (h5.next hb))
  have HRE := hidD (fun w' (hb : Below w.heap.size w w') E (hE : E < Top) => reached_any (p := p) R _ h.ok hfew (by have := h.len; omega) st (by omega) E hE vr w' (Nat.lt_of_lt_of_le hp hb.size) ((hb.cell (p := ⟨p, 3, none⟩) hp).trans f3) ((hb.cell (p := ⟨p, 4, none⟩) hp).trans f4) (h5.next hb))
  have HF0 := hidD (fun w' (hb : Below w.heap.size w w') => (hb.cell (p := ⟨p, 0, none⟩) hp).trans f0)
  have HSL := hidD (us_len)
  have HPP := hidD hp
  clear h e2 h5 h1 f4 f3 f0
  rw [hal] at HF0
  rw [show ((T.length : Int) + 1) = ((T.length + 1 : Nat) : Int) from by omega] at f2
  rw [hal] at hfew
  generalize T.length + 1 = t at *
  generalize O.length = on at *
  obtain ⟨hz, hsz⟩ := zero_of_info Tryd.zero61
  go_enter Tryd.func8, Tryd.ntmps8
  go_wp2_with first
    | (go_at_call 32; refine HUT.out.mono ?_; rintro e w1 ⟨rfl, hb⟩; have HB1 := hidD hb; clear hb)
    | (go_at_call 31; refine (HGR.out _ HB1.out).mono ?_; rintro e w2 ⟨E, rfl, hE, hgr, hb⟩; have HE := hidD hE; have HGI := hidD hgr; have HB2 := hidD (Below.next HB1.out hb); clear hE hgr hb; unfold setV; generalize hea : lw E = ea at *; generalize heb : hw E = eb at *; have HEA := hidD hea; have HEB := hidD heb; clear hea heb)
    | (go_at_call 33; have hre := HRE.out _ (Below.next HB2.out ((Below.refl _ _).alloc (Nat.le_refl _) (.cells #[.int .u64 (ea : Int), .int .u64 (eb : Int)] (61 : TypeId)))) E HE.out; unfold setV at hre; rw [HEA.out, HEB.out] at hre; refine hre.mono ?_; clear hre; rintro e w3 ⟨X, rfl, hX, hri, hb⟩; have HX := hidD hX; have HRI := hidD hri; have HC3 := hidD (CsAt.next (show CsAt _ _ #[.int .u64 (ea : Int), .int .u64 (eb : Int)] 61 from heap_alloc_new w2 (.cells #[.int .u64 (ea : Int), .int .u64 (eb : Int)] (61 : TypeId))) hb); have HB3 := hidD (Below.next (Below.next HB2.out ((Below.refl _ _).alloc (Nat.le_refl _) _)) hb); have HP3 := hidD ((HB3.out.cell (p := ⟨p, 2, none⟩) HPP.out).trans f2); clear hX hri hb; generalize hxa : lw X = xa at *; generalize hxb : hw X = xb at *; have HXA := hidD hxa; have HXB := hidD hxb; clear hxa hxb; have f3 : (w3.alloc (.cells #[.int .u64 (xa : Int), .int .u64 (xb : Int)] (61 : TypeId))).cell? ⟨p, 2, none⟩ = some (.int .i64 (t : Int)) := (((Below.refl _ _).alloc (Nat.le_refl _) _).cell (p := ⟨p, 2, none⟩) (Nat.lt_of_lt_of_le HPP.out HB3.out.size)).trans HP3.out)
  have HC4 := hidD (HC3.out.next ((Below.refl _ _).alloc (Nat.le_refl _) (.cells #[.int .u64 (xa : Int), .int .u64 (xb : Int)] (61 : TypeId))))
  have HD4 : Hid (CsAt (w3.alloc (.cells #[.int .u64 (xa : Int), .int .u64 (xb : Int)] (61 : TypeId))) w3.heap.size #[.int .u64 (xa : Int), .int .u64 (xb : Int)] 61) := heap_alloc_new _ _
  have HB4 := hidD (Below.next HB3.out ((Below.refl _ _).alloc (Nat.le_refl _) (.cells #[.int .u64 (xa : Int), .int .u64 (xb : Int)] (61 : TypeId))))
  have HF4 := hidD (HF0.out _ HB4.out)
  have HP4 : Hid (p < (w3.alloc (.cells #[.int .u64 (xa : Int), .int .u64 (xb : Int)] (61 : TypeId))).heap.size) := Nat.lt_of_lt_of_le HPP.out HB4.out.size
  generalize hW4 : w3.alloc (.cells #[.int .u64 (xa : Int), .int .u64 (xb : Int)] (61 : TypeId)) = w4 at *
  clear hW4 f3
  go_loopw [5, 6] (fun o i wr => ∃ k : Nat, k ≤ on ∧ i = .int .i64 ((t + k : Nat) : Int) ∧ wr.ownsRow w4.heap.size 3 1 o (usTo E X t k).length ((usTo E X t k).map encI) ∧ Below w4.heap.size w4 wr) (fun _ i _ => t + on - (intOf i).toNat)
  case atStart => exact ⟨0, Nat.zero_le _, rfl, World.ownsRow_nil _ _ _ _, Below.refl _ _⟩
  case round =>
    obtain ⟨k, hk, rfl, hown, hbel⟩ := hrel
    have HOW := hidD hown
    have HBW := hidD hbel
    by_cases hlt : k < on
    · have hs1 : t + k < 128 := by omega
      have hs2 : t + k < t + on := by omega
      have hs3 : ((t + k : Nat) : Int) < ((t + on : Nat) : Int) := by omega
      have f0 : wr.cell? ⟨p, 0, none⟩ = some (.slice na (t + on) nc) := (hbel.cell (p := ⟨p, 0, none⟩) HP4.out).trans HF4.out
      have fa : wr.cell? ⟨w2.heap.size, 0, none⟩ = some (.int .u64 (ea : Int)) := (hbel.cell (p := ⟨w2.heap.size, 0, none⟩) HC4.out.lt).trans (by rw [HC4.out.cell]; rfl)
      have fb : wr.cell? ⟨w2.heap.size, 1, none⟩ = some (.int .u64 (eb : Int)) := (hbel.cell (p := ⟨w2.heap.size, 1, none⟩) HC4.out.lt).trans (by rw [HC4.out.cell]; rfl)
      have HH1 := hidD (fun w' => setHas_any E HE.out (t + k) hs1 w')
      have HH2 := hidD (fun w' => setHas_any X HX.out (t + k) hs1 w')
      unfold setV at HH1 HH2
      rw [HEA.out, HEB.out] at HH1
      rw [HXA.out, HXB.out] at HH2
      have HNX : Hid (usTo E X t (k + 1) = if E.testBit (t + k) && X.testBit (t + k) then usTo E X t k else usTo E X t k ++ [((t + k : Nat) : Int)]) := rfl
      have hln := HSL.out E X t k
      have hms : t + (k + 1) = t + k + 1 := by omega
      have hms2 : t + k + 1 ≤ t + on := by omega
      clear hown hbel
      generalize hLL : usTo E X t k = LL at *
      clear hLL
      generalize hll : LL.length = ll at *
      have HLL := hidD hll
      clear hll
      obtain ⟨a5, c5, h5⟩ := row_shape HOW.out
      subst h5
      have hkl : ll ≤ 128 := by omega
      have HTK : Hid (t + k = t + k) := rfl
      generalize hs : t + k = s at *
      have HSK := hidD hs
      clear hs
      generalize htn : t + on = tn at *
      have HTN := hidD htn
      clear htn
      cases hbE : E.testBit s with
      | false =>
        rw [hbE] at HH1 HNX
        rw [Bool.false_and, if_neg (by decide)] at HNX
        clear hbE
        go_wp2_with first
          | (go_at_call 34; refine (HH1.out _).mono ?_; rintro e w5 ⟨rfl, hb5⟩; have HO5 := hidD (row_below HOW.out hb5); have HB5 := hidD (Below.next HBW.out hb5); have f5 : w5.cell? ⟨w3.heap.size, 0, none⟩ = some (.int .u64 (xa : Int)) := (HB5.out.cell (p := ⟨w3.heap.size, 0, none⟩) HD4.out.lt).trans (by rw [HD4.out.cell]; rfl); have f6 : w5.cell? ⟨w3.heap.size, 1, none⟩ = some (.int .u64 (xb : Int)) := (HB5.out.cell (p := ⟨w3.heap.size, 1, none⟩) HD4.out.lt).trans (by rw [HD4.out.cell]; rfl); clear hb5 HH1)
          | (at_builtin; refine wpList_append_int rfl _ _ rfl w4.heap.size (.slice a5 ll c5) ll (LL.map encI) rfl (HO5.out.alloc _) w5.heap.size (s : Int) rfl (new_cell1 w5 (.int .i64 (s : Int)) 3 0 _ rfl) (by omega) (by have := HB5.out.size; simp; omega) ?_; intro v8 w8 hown8 hg8; have HO8 := hidD hown8; have HB8 := hidD (row_grown (HO5.out.alloc _) (Below.next HB5.out ((Below.refl _ _).alloc (Nat.le_refl _) _)) hg8 (by have := HB5.out.size; simp; omega)); clear hown8 hg8)
        go_roundw
        case rel => exact ⟨k + 1, by omega, by go_num, by rw [HNX.out, List.length_append, List.map_append, HLL.out]; exact HO8.out, HB8.out⟩
        case measure => simp [intOf]; omega
      | true =>
        cases hbX : X.testBit s with
        | false =>
          rw [hbE] at HH1 HNX
          rw [hbX] at HH2 HNX
          rw [Bool.true_and, if_neg (by decide)] at HNX
          clear hbE hbX
          go_wp2_with first
            | (go_at_call 34; refine (HH1.out _).mono ?_; rintro e w5 ⟨rfl, hb5⟩; have HO5 := hidD (row_below HOW.out hb5); have HB5 := hidD (Below.next HBW.out hb5); have f5 : w5.cell? ⟨w3.heap.size, 0, none⟩ = some (.int .u64 (xa : Int)) := (HB5.out.cell (p := ⟨w3.heap.size, 0, none⟩) HD4.out.lt).trans (by rw [HD4.out.cell]; rfl); have f6 : w5.cell? ⟨w3.heap.size, 1, none⟩ = some (.int .u64 (xb : Int)) := (HB5.out.cell (p := ⟨w3.heap.size, 1, none⟩) HD4.out.lt).trans (by rw [HD4.out.cell]; rfl); clear hb5 HH1)
            | (go_at_call 34; refine (HH2.out _).mono ?_; rintro e w6 ⟨rfl, hb6⟩; have HO6 := hidD (row_below HO5.out hb6); have HB6 := hidD (Below.next HB5.out hb6); clear hb6 HH2)
            | (at_builtin; refine wpList_append_int rfl _ _ rfl w4.heap.size (.slice a5 ll c5) ll (LL.map encI) rfl (HO6.out.alloc _) w6.heap.size (s : Int) rfl (new_cell1 w6 (.int .i64 (s : Int)) 3 0 _ rfl) (by omega) (by have := HB6.out.size; simp; omega) ?_; intro v8 w8 hown8 hg8; have HO8 := hidD hown8; have HB8 := hidD (row_grown (HO6.out.alloc _) (Below.next HB6.out ((Below.refl _ _).alloc (Nat.le_refl _) _)) hg8 (by have := HB6.out.size; simp; omega)); clear hown8 hg8)
          go_roundw
          case rel => exact ⟨k + 1, by omega, by go_num, by rw [HNX.out, List.length_append, List.map_append, HLL.out]; exact HO8.out, HB8.out⟩
          case measure => simp [intOf]; omega
        | true =>
          rw [hbE] at HH1 HNX
          rw [hbX] at HH2 HNX
          rw [Bool.true_and, if_pos rfl] at HNX
          clear hbE hbX
          go_wp2_with first
            | (go_at_call 34; refine (HH1.out _).mono ?_; rintro e w5 ⟨rfl, hb5⟩; have HO5 := hidD (row_below HOW.out hb5); have HB5 := hidD (Below.next HBW.out hb5); have f5 : w5.cell? ⟨w3.heap.size, 0, none⟩ = some (.int .u64 (xa : Int)) := (HB5.out.cell (p := ⟨w3.heap.size, 0, none⟩) HD4.out.lt).trans (by rw [HD4.out.cell]; rfl); have f6 : w5.cell? ⟨w3.heap.size, 1, none⟩ = some (.int .u64 (xb : Int)) := (HB5.out.cell (p := ⟨w3.heap.size, 1, none⟩) HD4.out.lt).trans (by rw [HD4.out.cell]; rfl); clear hb5 HH1)
            | (go_at_call 34; refine (HH2.out _).mono ?_; rintro e w6 ⟨rfl, hb6⟩; have HO6 := hidD (row_below HO5.out hb6); have HB6 := hidD (Below.next HB5.out hb6); clear hb6 HH2)
          go_roundw
          case rel => exact ⟨k + 1, by omega, by go_num, by rw [HNX.out, HLL.out]; exact HO6.out, HB6.out⟩
          case measure => simp [intOf]; omega
    · obtain rfl : k = on := by omega
      have HIL := hidD (il_of_own hown)
      obtain ⟨a5, c5, h5⟩ := row_shape hown
      subst h5
      have f0 : wr.cell? ⟨p, 0, none⟩ = some (.slice na (t + k) nc) := (hbel.cell (p := ⟨p, 0, none⟩) HP4.out).trans HF4.out
      clear hown hbel
      generalize hLL : usTo E X t k = LL at *
      have HLL := hidD hLL
      clear hLL
      generalize hll : LL.length = ll at *
      generalize hs : t + k = s at *
      go_wp2_with fail
      refine bodyPost_ret (v := .slice a5 ll c5) (by simp [results, Tryd.results8, go_sem]) rfl ?_
      exact ⟨E, X, _, rfl, HGI.out, HRI.out, by rw [HLL.out]; exact HIL.out, Below.next HB4.out HBW.out⟩
end Go.Proofs.YtgmbkelmgolkpabDoor
