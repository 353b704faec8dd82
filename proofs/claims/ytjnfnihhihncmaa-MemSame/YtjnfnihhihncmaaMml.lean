/- What New answers. -/
import Derived.Test.YtjnfnihhihncmaaMmk
import Derived.Carry
namespace Go.Proofs.Ytjnfnihhihncmaa
open Go.RowKit
set_option linter.unusedVariables false

def okR (x : Rgn) : Prop := 0 ≤ x.1 ∧ x.2.1 ≤ 65536 ∧ x.1 < x.2.1 ∧ 1 ≤ x.2.2 ∧ x.2.2 ≤ 3
def overR (M : List Rgn) : Prop := ∃ i, ∃ h : i + 1 < M.length, (M[i + 1]'h).1 < (M[i]'(by omega)).2.1
theorem grown_none {w w' : World} (h : w.grownBy w' none) : Below w.heap.size w w' := ⟨h.os, h.tape, h.output, h.size, fun i hi => h.block i hi (by simp)⟩
theorem Try.infoWd : (Try.prog.info? 58).map (fun i => (i.zero, i.size, i.bytes)) = some (some (.agg #[.int .u64 0, .int .u8 0]), 2, 16) := by kernel_rfl
theorem made_ce {w : World} {base c : Nat} (h : w.ownsRow base 58 2 (.slice (some ⟨c, 0, none⟩) 65536 65536) 65536 (madeCells (Value.agg #[.int .u64 0, .int .u8 0]).cells (65536 * 2)).toList) : CeAt w c (fun _ => (0, 0)) := by
  rcases h.2 with ⟨h0, _⟩ | ⟨g', cap', cur, e, hb, hg, h1, h2, h3, h4⟩
  · cases h0
  · cases e
    refine ⟨cur, hg, h3, fun i hi => ⟨⟨?_, ?_⟩, (by show 0 < 256; decide), (by show 0 < 32; decide)⟩⟩
    · have e1 : (cur.toList.take (65536 * 2))[i * 2]? = cur[i * 2]? := by rw [List.getElem?_take_of_lt (by omega), Array.getElem?_toList]
      rw [← e1, h4, Array.getElem?_toList]
      have hi2 : i * 2 < 131072 := by omega
      have hm : i * 2 % 2 = 0 := by omega
      simp [madeCells, Value.cells, hi2, hm]
    · have e1 : (cur.toList.take (65536 * 2))[i * 2 + 1]? = cur[i * 2 + 1]? := by rw [List.getElem?_take_of_lt (by omega), Array.getElem?_toList]
      rw [← e1, h4, Array.getElem?_toList]
      have hi2 : i * 2 + 1 < 131072 := by omega
      have hm : (i * 2 + 1) % 2 = 1 := by omega
      simp [madeCells, Value.cells, hi2, hm]
theorem own_ra {w : World} {base n p : Nat} {v : Value} {L : List Rgn} (h : w.ownsRow base 35 3 v n (flatR L)) (hn : n = L.length) (hp : p < w.heap.size) : ∃ va rc r, v = .slice va L.length rc ∧ RgAt w va r L ∧ (r = p ∨ (base ≤ r ∧ v.ownBlock = some r)) := by
  subst hn
  rcases h.2 with ⟨rfl, h0⟩ | ⟨g, cap, cur, rfl, hb, hg, h1, h2, h3, h4⟩
  · exact ⟨none, 0, p, by rw [h0], ⟨hp, fun i hi => by omega⟩, .inl rfl⟩
  · exact ⟨_, _, g, rfl, own_rg h rfl, .inr ⟨hb, rfl⟩⟩
theorem own_rb {w : World} {base n : Nat} {v : Value} {L : List Rgn} (h : w.ownsRow base 35 3 v n (flatR L)) (hn : n = L.length) : ∃ va rc, v = .slice va L.length rc ∧
    (∀ i (h : i < L.length), ∃ g, va = some ⟨g, 0, none⟩ ∧ g < w.heap.size ∧ w.cell? ⟨g, i * 3, none⟩ = some (.int .i64 L[i].1) ∧ w.cell? ⟨g, i * 3 + 1, none⟩ = some (.int .i64 L[i].2.1)) ∧
    ∀ w' p, Below w.heap.size w w' → p < w'.heap.size → ∃ r, RgAt w' va r L ∧ (r = p ∨ (base ≤ r ∧ r < w.heap.size)) := by
  subst hn
  rcases h.2 with ⟨rfl, h0⟩ | ⟨g, cap, cur, rfl, hb, hg, h1, h2, h3, h4⟩
  · exact ⟨none, 0, by rw [h0], fun i hi => by omega, fun w' p hb hp => ⟨p, ⟨hp, fun i hi => by omega⟩, .inl rfl⟩⟩
  · have hr := own_rg h rfl
    exact ⟨_, _, rfl, fun i hi => ⟨g, rfl, hr.1, (hr.2 i hi).2.1, (hr.2 i hi).2.2.1⟩, fun w' p hb2 hp => ⟨g, hr.keep hb2.size (hb2.block g hr.1), .inr ⟨hb, hr.1⟩⟩⟩
theorem sorted_len {L M : List Rgn} (h : SortedTo L M) : M.length = L.length := h.1.length_eq
theorem pin_map {w : World} (o : Obj) : Below w.heap.size w (w.alloc o) := (Below.refl _ _).alloc (Nat.le_refl _) _
/- what New tells of regions that are ones, sorted -/
def NewTo (w : World) (M : List Rgn) (e : Ending) (w' : World) : Prop :=
  (overR M ∧ e = .returned (.tuple #[.pointer none, .int .i64 194]) ∧ Below w.heap.size w w') ∨
  (¬ overR M ∧ 64 < M.length ∧ e = .returned (.tuple #[.pointer none, .int .i64 3]) ∧ Below w.heap.size w w') ∨
  (¬ overR M ∧ M.length ≤ 64 ∧ ∃ k : Mk, k.R = M ∧ e = .returned (.tuple #[.pointer (some ⟨k.m, 0, none⟩), .int .i64 0]) ∧ MeAt w' k (fun _ => (0, 0)) 0 0 ∧ w'.heap[k.p]? = some (.map #[] 0) ∧ w.heap.size ≤ k.m ∧ w.heap.size ≤ k.r ∧ w.heap.size ≤ k.p ∧ w.heap.size ≤ k.c ∧ Below w.heap.size w w')
set_option maxRecDepth 100000 in
set_option maxHeartbeats 3200000 in
theorem new_ok (L : List Rgn) (hl : L.length ≤ 4398046511104) (v : Value) (w : World) (h : RsAt w v L) (hok : ∀ x ∈ L, okR x) : Calls Try.prog 9 #[v] w fun e w' => ∃ M, SortedTo L M ∧ NewTo w M e w' := by
  have HIR : Hid (∀ x : Rgn, okR x → ∀ w, Calls Try.prog 28 #[.agg #[.int .i64 x.1, .int .i64 x.2.1, .int .i64 x.2.2]] w fun e w' => e = .returned (.bool true) ∧ Below w.heap.size w w') := fun x hx w => by
    have := isRegion_any x.1 x.2.1 x.2.2 w
    rw [decide_eq_true (show 0 ≤ x.1 ∧ x.2.1 ≤ 65536 ∧ x.1 < x.2.1 ∧ 1 ≤ x.2.2 ∧ x.2.2 ≤ 3 from hx)] at this
    exact this
  have HCL : Hid (∀ w, RsAt w v L → Calls Try.prog 29 #[v] w fun e w' => ∃ u, e = .returned u ∧ w'.ownsRow w.heap.size 35 3 u L.length (flatR L) ∧ Below w.heap.size w w') := fun w h => clone_rg L hl v w h
  have HSO : Hid (∀ base u w, w.ownsRow base 35 3 u L.length (flatR L) → base ≤ w.heap.size → Calls Try.prog 30 #[u, .func (.func 31) #[] #[]] w fun e w' => e = .returned (.tuple #[]) ∧ ∃ M, SortedTo L M ∧ w'.ownsRow base 35 3 u L.length (flatR M) ∧ w.grownBy w' u.ownBlock) := fun base u w h hB => sortRg_any base u L (by omega) w h hB
  have HR := hidD h
  have HOK := hidD hok
  have hmm := @run_makeMap Try.prog
  obtain ⟨va, rc, rfl, h0, hc⟩ := h
  have HC := hidD hc
  clear hok h0 hc
  go_enter Try.func9, Try.ntmps9
  go_wp2_with fail
  go_loopw [10] (fun i wr => ∃ n : Nat, n ≤ L.length ∧ i = .int .i64 n ∧ Below w.heap.size w wr) (fun i _ => L.length - (intOf i).toNat)
  case atStart => exact ⟨0, Nat.zero_le _, rfl, Below.refl _ _⟩
  case round =>
    obtain ⟨n, hn, rfl, hbel⟩ := hrel
    have HBW := hidD hbel
    clear hbel
    by_cases hlt : n < L.length
    · have hlti : (n : Int) < L.length := by omega
      obtain ⟨g, o, rfl, hg, k0, k1, k2⟩ := HC.out n hlt
      have hx := HOK.out L[n] (List.getElem_mem hlt)
      have HI1 := hidD (HIR.out L[n] hx)
      have e0 := (HBW.out.cell (p := ⟨g, o + n * 3, none⟩) hg).trans k0
      have e1 := (HBW.out.cell (p := ⟨g, o + (n * 3 + 1), none⟩) hg).trans k1
      have e2 := (HBW.out.cell (p := ⟨g, o + (n * 3 + 2), none⟩) hg).trans k2
      clear k0 k1 k2 hx
      generalize L[n] = q at *
      obtain ⟨f, t, kd⟩ := q
      change wr.cell? ⟨g, o + n * 3, none⟩ = some (.int .i64 f) at e0
      change wr.cell? ⟨g, o + n * 3 + 1, none⟩ = some (.int .i64 t) at e1
      change wr.cell? ⟨g, o + n * 3 + 2, none⟩ = some (.int .i64 kd) at e2
      change Hid (∀ w, Calls Try.prog 28 #[.agg #[.int .i64 f, .int .i64 t, .int .i64 kd]] w _) at HI1
      obtain ⟨g0, g1, g2⟩ := rg_cells wr f t kd
      have HA : Hid (Below wr.heap.size wr (wr.alloc (.cells #[.int .i64 f, .int .i64 t, .int .i64 kd] 35))) := (Below.refl _ _).alloc (Nat.le_refl _) _
      go_wp2_with (go_at_call 28; refine (HI1.out _).mono ?_; rintro e w2 ⟨rfl, hb2⟩; have HB2 := hidD hb2; clear hb2)
      exact ⟨⟨n + 1, by omega, by simp, Below.next HBW.out (HA.out.trans (HB2.out.mono HA.out.size))⟩, by simp [intOf]; omega⟩
    · have hn2 : n = L.length := by omega
      subst hn2
      have HR2 := hidD (HR.out.next HBW.out)
      go_wp2_with (first
        | (go_at_call 29; refine (HCL.out _ HR2.out).mono ?_; rintro e w2 ⟨u, rfl, ho2, hb2⟩
           have HO2 := hidD (row_mono ho2 HBW.out.size); have HB2 := hidD (Below.next HBW.out hb2); clear ho2 hb2)
        | (go_at_call 30; refine (HSO.out _ _ _ HO2.out HB2.out.size).mono ?_; rintro e w3 ⟨rfl, M, hM, ho3, hg3⟩
           have HSM := hidD hM; have HO3 := hidD ho3; have HB3 := hidD (row_grown HO2.out HB2.out hg3 HB2.out.size); clear hM ho3 hg3))
      have hML := sorted_len HSM.out
      obtain ⟨ua, uc, rfl, hcu, hru⟩ := own_rb HO3.out hML.symm
      have HCU := hidD hcu
      have HRU := hidD hru
      have HML := hidD hML
      clear hcu hru HIR HSO HOK HCL HR HC HBW hn hlt HR2 HO2 HB2 HO3
      rw [hML]
      clear hML
      generalize L.length = N at *
      go_loopw [7] (fun i wr => ∃ n : Nat, 1 ≤ n ∧ (n = 1 ∨ n ≤ N) ∧ i = .int .i64 n ∧ Below w3.heap.size w3 wr ∧ ∀ i, i + 1 < n → ∀ h : i + 1 < M.length, ¬ (M[i + 1].1 < (M[i]'(by omega)).2.1)) (fun i _ => N - (intOf i).toNat)
      case atStart => exact ⟨1, Nat.le_refl _, .inl rfl, rfl, Below.refl _ _, fun i hi => by omega⟩
      case round =>
        obtain ⟨n, hn1, hnN, rfl, hbel, hno⟩ := hrel
        have HBR := hidD hbel
        have HNO := hidD hno
        have HN1 := hidD (And.intro hn1 hnN)
        clear hbel hno hnN
        by_cases hlt : n < N
        · have hlti : (n : Int) < N := by omega
          obtain ⟨j, hj⟩ : ∃ j, Hid (n = j + 1) := ⟨n - 1, by show n = n - 1 + 1; omega⟩
          have hsub : ((n : Int) - 1 + 9223372036854775808) % 18446744073709551616 - 9223372036854775808 = (j : Int) := by have : n = j + 1 := hj.out; omega
          have hsub2 : IntKind.i64.wrap ((n : Int) - 1) = (j : Int) := by have h1 : n = j + 1 := hj.out; subst h1; unfold IntKind.wrap; simp [IntKind.bits, IntKind.signed]; omega
          have hnM : n < M.length := by have := HML.out; omega
          have hjM : j < M.length := by have h1 : n = j + 1 := hj.out; omega
          obtain ⟨g, rfl, hg, c0, -⟩ := HCU.out n hnM
          obtain ⟨g2, e2, -, -, c1⟩ := HCU.out j hjM
          cases e2
          have e0 := (HBR.out.cell (p := ⟨g, n * 3, none⟩) hg).trans c0
          have e1 := (HBR.out.cell (p := ⟨g, j * 3 + 1, none⟩) hg).trans c1
          have HOV : Hid (M[n].1 < M[j].2.1 → overR M) := fun h => by
            have h1 : n = j + 1 := hj.out
            subst h1
            exact ⟨j, hnM, h⟩
          have HNV : Hid (¬ M[n].1 < M[j].2.1 → ∀ i, i + 1 < n + 1 → ∀ h : i + 1 < M.length, ¬ (M[i + 1].1 < (M[i]'(by omega)).2.1)) := fun hv i hi h => by
            have h1 : n = j + 1 := hj.out
            by_cases hij : i = j
            · subst hij; subst h1; exact hv
            · exact HNO.out i (by omega) h
          have hjN : (j : Int) < N := by have h1 : n = j + 1 := hj.out; omega
          clear c0 c1 HCU hn1
          generalize M[n].1 = A at *
          generalize M[j].2.1 = B at *
          by_cases hov : A < B
          · go_wp2_with fail
            go_quiet (fail)
            go_wp2_with fail
            refine bodyPost_ret (v := .tuple #[.pointer none, .int .i64 194]) (by simp [results, Try.results9, go_sem]) rfl ?_
            exact ⟨M, HSM.out, .inl ⟨HOV.out hov, rfl, below_drewN (Below.next HB3.out HBR.out) _⟩⟩
          · have HNW := hidD (HNV.out hov)
            go_wp2_with fail
            go_quiet (fail)
            go_wp2_with fail
            exact ⟨⟨n + 1, by omega, .inr (by omega), by simp, below_drewN HBR.out _, fun i hi h => Int.not_lt.2 (HNW.out i hi h)⟩, by simp [intOf]; omega⟩
        · have HNO2 : Hid (¬ overR M) := fun ⟨i, h, hv⟩ => HNO.out i (by have := HML.out; have := HN1.out; omega) h hv
          have hnn : ¬ (n : Int) < N := by omega
          by_cases h64 : 64 < N
          · have h64i : (N : Int) > 64 := by omega
            go_wp2_with fail
            refine bodyPost_ret (v := .tuple #[.pointer none, .int .i64 3]) (by simp [results, Try.results9, go_sem]) rfl ?_
            exact ⟨M, HSM.out, .inr (.inl ⟨HNO2.out, by have := HML.out; omega, rfl, Below.next HB3.out HBR.out⟩)⟩
          · have h64i : ¬ (N : Int) > 64 := by omega
            obtain ⟨i0, hi, hz0, hz1, hz2⟩ := info_parts Try.infoWd
            have HI := hidD (And.intro hi (And.intro hz0 (And.intro hz1 hz2)))
            have HBM := hidD (pin_map (w := wr) (.map #[] 0))
            have HPM := hidD (heap_alloc_last wr (.map #[] 0))
            clear hi hz0 hz1 hz2 HCU HNO HN1
            go_wp2_with (refine wpList_make_full _ rfl _ _ 83 rfl (wr.alloc (.map #[] 0)).heap.size 58 i0 (.agg #[.int .u64 0, .int .u8 0]) 2 Try.underlying83 HI.out.1 HI.out.2.1 HI.out.2.2.1 .i64 .i64 65536 65536 65536 rfl rfl rfl rfl (by have := HI.out.2.2.2; omega) (by decide) (Nat.le_refl _) ?_; intro w5 h5 g5; have HC5 := hidD (made_ce h5); have HB5 := hidD (grown_none g5); clear h5 g5)
            refine bodyPost_ret (v := .tuple #[.pointer (some ⟨w5.heap.size, 0, none⟩), .int .i64 0]) (by simp [results, Try.results9, go_sem]) rfl ?_
            have hsz : (wr.alloc (.map #[] 0)).heap.size = wr.heap.size + 1 := by show (wr.heap.push _).size = _; exact Array.size_push _
            have hp5 : wr.heap.size + 1 < w5.heap.size := by
              obtain ⟨cs, hc, _⟩ := HC5.out
              have := row_lt hc
              omega
            have B1 : Below w3.heap.size w3 w5 := (HBR.out.trans ((HBM.out.mono HBR.out.size).trans (HB5.out.mono (by have := HBR.out.size; omega))))
            have B2 := pin_map (w := w5) (.cells #[.slice ua N uc, .map (some wr.heap.size), .slice (some ⟨wr.heap.size + 1, 0, none⟩) 65536 65536, .int .i64 0, .int .i64 0] (85 : TypeId))
            have B3 := B1.trans (B2.mono B1.size)
            obtain ⟨r, hrg, hr⟩ := HRU.out _ wr.heap.size B3 (by have := B2.size; omega)
            have hws := HB3.out.size
            have hwr := HBR.out.size
            refine ⟨M, HSM.out, .inr (.inr ⟨HNO2.out, by have := HML.out; omega, ⟨w5.heap.size, r, wr.heap.size, wr.heap.size + 1, ua, uc, M⟩, rfl, rfl, ⟨?_, hrg, ?_, ?_⟩, ?_, ?_, ?_, ?_, ?_, Below.next HB3.out B3⟩)⟩
            · show _ = some (Obj.cells #[.slice ua M.length uc, .map (some wr.heap.size), .slice (some ⟨wr.heap.size + 1, 0, none⟩) 65536 65536, .int .i64 0, .int .i64 0] 85 (0, 0))
              rw [HML.out]
              exact heap_alloc_last _ _
            · obtain ⟨cs, hc, hc2⟩ := HC5.out
              rw [hsz] at hc
              exact ⟨cs, (B2.block _ hp5).trans hc, hc2⟩
            · refine ⟨?_, ?_, ?_, ?_, ?_, ?_⟩
              · show w5.heap.size ≠ r; rcases hr with rfl | ⟨h1, h2⟩ <;> omega
              · show w5.heap.size ≠ wr.heap.size; omega
              · show w5.heap.size ≠ wr.heap.size + 1; omega
              · show r ≠ wr.heap.size + 1; rcases hr with rfl | ⟨h1, h2⟩ <;> omega
              · show wr.heap.size ≠ wr.heap.size + 1; omega
              · show M.length ≤ 64; have := HML.out; omega
            · exact (B2.block wr.heap.size (by omega)).trans ((HB5.out.block wr.heap.size (by omega)).trans HPM.out)
            · show w.heap.size ≤ w5.heap.size; omega
            · show w.heap.size ≤ r; rcases hr with rfl | ⟨h1, h2⟩ <;> omega
            · show w.heap.size ≤ wr.heap.size; omega
            · show w.heap.size ≤ wr.heap.size + 1; omega
set_option maxRecDepth 100000 in
set_option maxHeartbeats 1600000 in
theorem new_bad (L : List Rgn) (v : Value) (w : World) (h : RsAt w v L) (hbad : ¬ ∀ x ∈ L, okR x) (hl : L.length ≤ 4398046511104) : Calls Try.prog 9 #[v] w fun e w' => e = .returned (.tuple #[.pointer none, .int .i64 1]) ∧ Below w.heap.size w w' := by
  have HIR : Hid (∀ x : Rgn, okR x → ∀ w, Calls Try.prog 28 #[.agg #[.int .i64 x.1, .int .i64 x.2.1, .int .i64 x.2.2]] w fun e w' => e = .returned (.bool true) ∧ Below w.heap.size w w') := fun x hx w => by
    have := isRegion_any x.1 x.2.1 x.2.2 w
    rw [decide_eq_true (show 0 ≤ x.1 ∧ x.2.1 ≤ 65536 ∧ x.1 < x.2.1 ∧ 1 ≤ x.2.2 ∧ x.2.2 ≤ 3 from hx)] at this
    exact this
  have HIN : Hid (∀ x : Rgn, ¬ okR x → ∀ w, Calls Try.prog 28 #[.agg #[.int .i64 x.1, .int .i64 x.2.1, .int .i64 x.2.2]] w fun e w' => e = .returned (.bool false) ∧ Below w.heap.size w w') := fun x hx w => by
    have := isRegion_any x.1 x.2.1 x.2.2 w
    rw [decide_eq_false (show ¬ (0 ≤ x.1 ∧ x.2.1 ≤ 65536 ∧ x.1 < x.2.1 ∧ 1 ≤ x.2.2 ∧ x.2.2 ≤ 3) from hx)] at this
    exact this
  have HBAD := hidD hbad
  obtain ⟨va, rc, rfl, h0, hc⟩ := h
  have HC := hidD hc
  clear hbad h0 hc
  go_enter Try.func9, Try.ntmps9
  go_wp2_with fail
  go_loopw [10] (fun i wr => ∃ n : Nat, n ≤ L.length ∧ i = .int .i64 n ∧ Below w.heap.size w wr ∧ ∀ j (h : j < L.length), j < n → okR L[j]) (fun i _ => L.length - (intOf i).toNat)
  case atStart => exact ⟨0, Nat.zero_le _, rfl, Below.refl _ _, fun j _ hj => by omega⟩
  case round =>
    obtain ⟨n, hn, rfl, hbel, hok⟩ := hrel
    have HBW := hidD hbel
    have HOK := hidD hok
    clear hbel hok
    by_cases hlt : n < L.length
    · have hlti : (n : Int) < L.length := by omega
      obtain ⟨g, o, rfl, hg, k0, k1, k2⟩ := HC.out n hlt
      have e0 := (HBW.out.cell (p := ⟨g, o + n * 3, none⟩) hg).trans k0
      have e1 := (HBW.out.cell (p := ⟨g, o + (n * 3 + 1), none⟩) hg).trans k1
      have e2 := (HBW.out.cell (p := ⟨g, o + (n * 3 + 2), none⟩) hg).trans k2
      clear k0 k1 k2
      have HNX : Hid (okR L[n] → ∀ j (h : j < L.length), j < n + 1 → okR L[j]) := fun hx j h hj => by
        by_cases hjn : j = n
        · subst hjn; exact hx
        · exact HOK.out j h (by omega)
      generalize L[n] = q at *
      by_cases hq : okR q
      · have HI1 := hidD (HIR.out q hq)
        have HNY := hidD (HNX.out hq)
        clear hq HNX
        obtain ⟨f, t, kd⟩ := q
        change wr.cell? ⟨g, o + n * 3, none⟩ = some (.int .i64 f) at e0
        change wr.cell? ⟨g, o + n * 3 + 1, none⟩ = some (.int .i64 t) at e1
        change wr.cell? ⟨g, o + n * 3 + 2, none⟩ = some (.int .i64 kd) at e2
        change Hid (∀ w, Calls Try.prog 28 #[.agg #[.int .i64 f, .int .i64 t, .int .i64 kd]] w _) at HI1
        obtain ⟨g0, g1, g2⟩ := rg_cells wr f t kd
        have HA : Hid (Below wr.heap.size wr (wr.alloc (.cells #[.int .i64 f, .int .i64 t, .int .i64 kd] 35))) := (Below.refl _ _).alloc (Nat.le_refl _) _
        go_wp2_with (go_at_call 28; refine (HI1.out _).mono ?_; rintro e w2 ⟨rfl, hb2⟩; have HB2 := hidD hb2; clear hb2)
        exact ⟨⟨n + 1, by omega, by simp, Below.next HBW.out (HA.out.trans (HB2.out.mono HA.out.size)), HNY.out⟩, by simp [intOf]; omega⟩
      · have HI1 := hidD (HIN.out q hq)
        clear hq HNX
        obtain ⟨f, t, kd⟩ := q
        change wr.cell? ⟨g, o + n * 3, none⟩ = some (.int .i64 f) at e0
        change wr.cell? ⟨g, o + n * 3 + 1, none⟩ = some (.int .i64 t) at e1
        change wr.cell? ⟨g, o + n * 3 + 2, none⟩ = some (.int .i64 kd) at e2
        change Hid (∀ w, Calls Try.prog 28 #[.agg #[.int .i64 f, .int .i64 t, .int .i64 kd]] w _) at HI1
        obtain ⟨g0, g1, g2⟩ := rg_cells wr f t kd
        have HA : Hid (Below wr.heap.size wr (wr.alloc (.cells #[.int .i64 f, .int .i64 t, .int .i64 kd] 35))) := (Below.refl _ _).alloc (Nat.le_refl _) _
        go_wp2_with (go_at_call 28; refine (HI1.out _).mono ?_; rintro e w2 ⟨rfl, hb2⟩; have HB2 := hidD hb2; clear hb2)
        refine bodyPost_ret (v := .tuple #[.pointer none, .int .i64 1]) (by simp [results, Try.results9, go_sem]) rfl ?_
        exact ⟨rfl, Below.next HBW.out (HA.out.trans (HB2.out.mono HA.out.size))⟩
    · exact absurd (fun x hx => by obtain ⟨j, hj, rfl⟩ := List.mem_iff_getElem.1 hx; exact HOK.out j hj (by omega)) HBAD.out
end Go.Proofs.Ytjnfnihhihncmaa
