/- What Merge answers, by what joined answers. -/
import Derived.Test.YtpemajghaceegaaGreatDoorHxu
namespace Go.Proofs.YtpemajghaceegaaGreatDoor
open Go.RowKit
set_option linter.unusedVariables false

/- a slice of segments in memory -/
def SgAt (w : World) (v : Value) (L : List Sgc) : Prop := ∃ a cap, v = .slice a L.length cap ∧ ∀ k (hk : k < L.length), ∃ g o, a = some ⟨g, o, none⟩ ∧ g < w.heap.size ∧ w.cell? ⟨g, o + k * 2, none⟩ = some (.int .i64 (L[k]).1) ∧ w.cell? ⟨g, o + k * 2 + 1, none⟩ = some (.slice (L[k]).2.1 (L[k]).2.2.1 (L[k]).2.2.2)
def fitG (x : Sgc) : Bool := decide (0 ≤ x.1) && decide (x.1 ≤ 65536 - x.2.2.1)
def fullG (x : Sgc) : Bool := decide (0 < x.2.2.1)
theorem full_snoc (L : List Sgc) (k : Nat) (hk : k < L.length) : (L.take (k + 1)).filter fullG = (L.take k).filter fullG ++ (if fullG L[k] then [L[k]] else []) := by
  rw [List.take_add_one, List.getElem?_eq_getElem hk, List.filter_append]
  congr 1
  simp only [Option.toList_some, List.filter_cons, List.filter_nil]
set_option maxRecDepth 100000 in
set_option maxHeartbeats 1600000 in
theorem Merge_with (Post : Ending → World → Prop) (v : Value) (L : List Sgc) (hl : L.length ≤ 4398046510976) (hn : ∀ x ∈ L, x.2.2.1 ≤ 140737488355328) (w : World) (h : SgAt w v L)
    (hno : ∀ w', Below w.heap.size w w' → (∃ x ∈ L, fitG x = false) → Post (.returned (.tuple #[.slice none 0 0, .int .i64 1])) w')
    (hj : ∀ M r w1, (∀ x ∈ L, fitG x = true) → SortedTo (L.filter fullG) M → w1.ownsRow w.heap.size 36 2 r M.length (flatV M) → Below w.heap.size w w1 → Calls Tryz.prog 30 #[r] w1 fun e w' => ∃ a b, e = .returned (.tuple #[a, b]) ∧ Post e w') :
    Calls Tryz.prog 10 #[v] w fun e w' => Post e w' ∧ True := by
  obtain ⟨a, cap, rfl, hc⟩ := h
  have HC := hidD hc
  have HJ := hidD hj
  have HNO := hidD hno
  have HN := hidD hn
  have HFS := hidD (fun k hk => full_snoc L k hk)
  have HFM := hidD (fun x hx w => fitsMemory_any x hx w)
  have HSO := hidD (fun base v L hl w h hB => sortSeg_any base v L hl w h hB)
  clear hc hj hno hn
  go_enter Tryz.func10, Tryz.ntmps10
  go_wp2_with fail
  go_loopw [4, 9] (fun r i wr => ∃ k : Nat, k ≤ L.length ∧ i = .int .i64 k ∧ (∀ x ∈ L.take k, fitG x = true) ∧ wr.ownsRow w.heap.size 36 2 r ((L.take k).filter fullG).length (flatV ((L.take k).filter fullG)) ∧ Below w.heap.size w wr) (fun _ i _ => L.length - (intOf i).toNat)
  case atStart => exact ⟨0, Nat.zero_le _, rfl, fun x hx => absurd hx (by simp), World.ownsRow_nil _ _ _ _, Below.refl _ _⟩
  case round =>
    obtain ⟨k, hk, rfl, hfit, hown, hbel⟩ := hrel
    have HFI := hidD hfit
    have HOW := hidD hown
    have HBW := hidD hbel
    obtain ⟨ra, rc, rfl⟩ := row_shape hown
    clear hfit hown hbel
    by_cases hlt : k < L.length
    · have hlti : (k : Int) < L.length := by omega
      obtain ⟨g, o, rfl, hg, hc0, hc1⟩ := HC.out k hlt
      have k0 := (HBW.out.cell (p := ⟨g, o + k * 2, none⟩) hg).trans hc0
      have k1 := (HBW.out.cell (p := ⟨g, o + k * 2 + 1, none⟩) hg).trans hc1
      have HXN := hidD (HN.out L[k] (List.getElem_mem hlt))
      have HF1 := hidD (HFS.out k hlt)
      have HMEM := hidD (List.getElem_mem hlt)
      have HTK : Hid (∀ z, z ∈ L.take (k + 1) → z ∈ L.take k ∨ z = L[k]) := fun z hz => by
        rw [List.take_add_one, List.getElem?_eq_getElem hlt] at hz
        exact (List.mem_append.1 hz).imp id (fun h => by simpa using h)
      obtain ⟨x, HX⟩ : ∃ x, Hid (L[k] = x) := ⟨L[k], hidD rfl⟩
      rw [HX.out] at k0 k1 HXN HF1 HMEM HTK
      have HFX := hidD (fun w => HFM.out x HXN.out w)
      obtain ⟨sa, sp, sn, sc⟩ := x
      have HAL := hidD ((Below.refl wr.heap.size wr).alloc (Nat.le_refl _) (.cells #[.int .i64 sa, .slice sp sn sc] (36 : TypeId)))
      have HA4 := hidD (heap_alloc_last wr (.cells #[.int .i64 sa, .slice sp sn sc] (36 : TypeId)))
      cases hfx : fitG (sa, sp, sn, sc) with
      | false =>
        have HFF : Hid (∀ w, Calls Tryz.prog 26 #[.agg #[.int .i64 sa, .slice sp sn sc]] w fun e w' => e = .returned (.bool false) ∧ Below w.heap.size w w') := fun w => by
          have := HFX.out w
          rw [show (decide (0 ≤ sa) && decide (sa ≤ 65536 - sn)) = false from hfx] at this
          exact this
        have HBAD := hidD (show ∃ x ∈ L, fitG x = false from ⟨_, HMEM.out, hfx⟩)
        clear HFX HFM HSO hfx
        go_wp2_with fail
        go_at_call 26
        refine (HFF.out _).mono ?_
        rintro e w2 ⟨rfl, hb⟩
        have HB2 := hidD ((HBW.out.trans (HAL.out.mono HBW.out.size)).trans (hb.mono (Nat.le_trans HBW.out.size HAL.out.size)))
        clear hb
        go_wp2_with fail
        go_ret2
        exact ⟨HNO.out _ HB2.out HBAD.out, trivial⟩
      | true =>
        have HFF : Hid (∀ w, Calls Tryz.prog 26 #[.agg #[.int .i64 sa, .slice sp sn sc]] w fun e w' => e = .returned (.bool true) ∧ Below w.heap.size w w') := fun w => by
          have := HFX.out w
          rw [show (decide (0 ≤ sa) && decide (sa ≤ 65536 - sn)) = true from hfx] at this
          exact this
        have HFT : Hid (∀ z ∈ L.take (k + 1), fitG z = true) := fun z hz => (HTK.out z hz).elim (HFI.out z) (fun e => e ▸ hfx)
        clear HFX HFM HSO hfx HFI HTK
        by_cases hz : 0 < sn
        · have hzi : (sn : Int) > 0 := by omega
          have HF2 : Hid ((L.take (k + 1)).filter fullG = (L.take k).filter fullG ++ [(sa, sp, sn, sc)]) := by
            have := HF1.out
            rw [show fullG (sa, sp, sn, sc) = true from decide_eq_true hz] at this
            exact this
          clear HF1
          go_wp2_with fail
          go_at_call 26
          refine (HFF.out _).mono ?_
          rintro e w2 ⟨rfl, hb⟩
          have HB2 := hidD ((HBW.out.trans (HAL.out.mono HBW.out.size)).trans (hb.mono (Nat.le_trans HBW.out.size HAL.out.size)))
          have HO2 := hidD (row_below (row_below HOW.out HAL.out) hb)
          have HA2 := hidD ((hb.block _ (row_lt HA4.out)).trans HA4.out)
          have d0 : w2.cell? ⟨wr.heap.size, 0, none⟩ = some (.int .i64 sa) := by rw [cell_of_row _ _ _ _ _ _ HA2.out]; rfl
          have d1 : w2.cell? ⟨wr.heap.size, 1, none⟩ = some (.slice sp sn sc) := by rw [cell_of_row _ _ _ _ _ _ HA2.out]; rfl
          clear hb
          have HL1 := hidD (heap_alloc_last w2 (.cells #[.int .i64 sa, .slice sp sn sc] (36 : TypeId)))
          have HAC := hidD ((Below.refl w2.heap.size w2).alloc (Nat.le_refl _) (.cells #[.int .i64 sa, .slice sp sn sc] (36 : TypeId)))
          have HO3 := hidD (row_below HO2.out HAC.out)
          have HB3 := hidD (HB2.out.trans (HAC.out.mono HB2.out.size))
          have HLE : Hid (((L.take k).filter fullG).length + 1 ≤ 4398046511104) := by
            have h1 := List.length_filter_le fullG (L.take k)
            have h2 : (L.take k).length ≤ L.length := by rw [List.length_take]; omega
            show _ ≤ _
            omega
          go_wp2_with (at_builtin; refine wpList_append_sg rfl _ _ rfl w.heap.size (.slice ra ((L.take k).filter fullG).length rc) ((L.take k).filter fullG).length (flatV ((L.take k).filter fullG)) rfl HO3.out w2.heap.size (.int .i64 sa) (.slice sp sn sc) rfl HL1.out rfl rfl HLE.out HB3.out.size ?_; intro v4 w4 ho4 hg4; have HO4 := hidD ho4; have HG4 := hidD hg4; clear ho4 hg4)
          go_roundw
          case rel => exact ⟨k + 1, by omega, by go_num, HFT.out, by rw [HF2.out, List.length_append, flatV_app]; exact HO4.out, row_grown HO3.out HB3.out HG4.out HB3.out.size⟩
          case measure => simp [intOf]; omega
        · have hzi : ¬ (sn : Int) > 0 := by omega
          have HF2 : Hid ((L.take (k + 1)).filter fullG = (L.take k).filter fullG) := by
            have := HF1.out
            rw [show fullG (sa, sp, sn, sc) = false from decide_eq_false hz] at this
            exact this.trans (List.append_nil _)
          clear HF1
          go_wp2_with fail
          go_at_call 26
          refine (HFF.out _).mono ?_
          rintro e w2 ⟨rfl, hb⟩
          have HB2 := hidD ((HBW.out.trans (HAL.out.mono HBW.out.size)).trans (hb.mono (Nat.le_trans HBW.out.size HAL.out.size)))
          have HO2 := hidD (row_below (row_below HOW.out HAL.out) hb)
          have HA2 := hidD ((hb.block _ (row_lt HA4.out)).trans HA4.out)
          have d0 : w2.cell? ⟨wr.heap.size, 0, none⟩ = some (.int .i64 sa) := by rw [cell_of_row _ _ _ _ _ _ HA2.out]; rfl
          have d1 : w2.cell? ⟨wr.heap.size, 1, none⟩ = some (.slice sp sn sc) := by rw [cell_of_row _ _ _ _ _ _ HA2.out]; rfl
          clear hb
          go_wp2_with fail
          go_roundw
          case rel => exact ⟨k + 1, by omega, by go_num, HFT.out, by rw [HF2.out]; exact HO2.out, HB2.out⟩
          case measure => simp [intOf]; omega
    · obtain rfl : k = L.length := by omega
      have HTL := hidD (List.take_length (l := L))
      rw [HTL.out] at HOW HFI
      have hlt' : ¬ (L.length : Int) < L.length := by omega
      have HLF : Hid ((L.filter fullG).length ≤ 140737488355328) := by
        have h1 := List.length_filter_le fullG L
        show _ ≤ _
        omega
      have HS1 := hidD (HSO.out w.heap.size (.slice ra (L.filter fullG).length rc) (L.filter fullG) HLF.out wr HOW.out HBW.out.size)
      clear HC HNO HN HFS HFM HSO hlt
      go_wp2_with fail
      refine HS1.out.mono ?_
      rintro e w2 ⟨rfl, M, hso, ho, hg⟩
      have HB2 := hidD (row_grown HOW.out HBW.out hg HBW.out.size)
      have hml : M.length = (L.filter fullG).length := hso.1.length_eq
      have HO2 : Hid (w2.ownsRow w.heap.size 36 2 (.slice ra (L.filter fullG).length rc) M.length (flatV M)) := by show World.ownsRow _ _ _ _ _ _ _; rw [hml]; exact ho
      have HSO2 := hidD hso
      clear ho hg hml hso HS1 HOW HBW
      go_wp2_with fail
      go_at_call 30
      refine (HJ.out M _ w2 HFI.out HSO2.out HO2.out HB2.out).mono ?_
      rintro e w3 ⟨ja, jb, rfl, hp⟩
      have HP := hidD hp
      clear hp
      go_wp2_with fail
      go_ret2
      exact ⟨HP.out, trivial⟩
theorem sorted_two (x y : Sgc) (h : x.1 < y.1) (M : List Sgc) (hs : SortedTo [y, x] M) : M = [x, y] := by
  obtain ⟨hp, hr⟩ := hs
  have hl := hp.length_eq
  match M, hl with
  | [a, b], _ =>
    have h1 := hr 0 1 (by omega) (by simp)
    simp at h1
    have ha : a ∈ [y, x] := hp.subset (by simp)
    have hx : x ∈ [a, b] := hp.symm.subset (by simp)
    have hy : y ∈ [a, b] := hp.symm.subset (by simp)
    simp at ha hx hy
    have hne : x ≠ y := fun e => by rw [e] at h; omega
    rcases ha with rfl | rfl
    · rcases hx with rfl | rfl
      · exact absurd rfl hne
      · omega
    · rcases hy with rfl | rfl
      · exact absurd rfl hne
      · rfl
/- the two of the chapter's example -/
theorem mergeTwo (v : Value) (p q : Option Addr) (c1 c2 : Nat) (w : World) (h : SgAt w v [(3, q, 1, c2), (1, p, 2, c1)])
    (h1 : ByAt w (.slice p 2 c1) [5, 6]) (h2 : ByAt w (.slice q 1 c2) [7]) :
    Calls Tryz.prog 10 #[v] w fun e w' => ∃ l, e = .returned (.tuple #[l, .int .i64 0]) ∧ Below w.heap.size w w' ∧ JnAt w.heap.size [5, 6, 7] l w' := by
  refine Calls.mono (Merge_with (fun e w' => ∃ l, e = .returned (.tuple #[l, .int .i64 0]) ∧ Below w.heap.size w w' ∧ JnAt w.heap.size [5, 6, 7] l w') v _ (by simp) (fun x hx => by simp at hx; rcases hx with rfl | rfl <;> simp) w h (fun w' _ hx => ?_) (fun M r w1 _ hs ho hb => ?_)) (fun e w' hh => hh.1)
  · obtain ⟨x, hx, hf⟩ := hx
    simp at hx
    rcases hx with rfl | rfl <;> simp [fitG] at hf
  · have hM := sorted_two (1, p, 2, c1) (3, q, 1, c2) (by show (1 : Int) < 3; omega) M hs
    subst hM
    refine (joinedTwo w.heap.size r p q c1 c2 w1 ho (h1.next hb) (h2.next hb)).mono ?_
    rintro e w' ⟨l, rfl, hb2, g, c, x, rfl, hg, hrest⟩
    exact ⟨_, _, rfl, _, rfl, hb.trans (hb2.mono hb.size), g, c, x, rfl, Nat.le_trans hb.size hg, hrest⟩
end Go.Proofs.YtpemajghaceegaaGreatDoor
