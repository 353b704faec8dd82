/- Load: segments are laid. -/
import Derived.Test.YtjnfnihhihncmaaMmp
namespace Go.Proofs.Ytjnfnihhihncmaa
open Go.RowKit
set_option linter.unusedVariables false

abbrev Sg := Int × List UInt8
/- bytes that read so, in a block that P holds of -/
def BtP (P : Nat → Prop) (w : World) (v : Value) (bs : List UInt8) : Prop :=
  ∃ ba bc, v = .slice ba bs.length bc ∧ ∀ j, j < bs.length → ∃ g o, ba = some ⟨g, o, none⟩ ∧ g < w.heap.size ∧ P g ∧ w.cell? ⟨g, o + j, none⟩ = some (.int .u8 ((bs.getD j 0).toNat : Int))
theorem BtP.keep {P S : Nat → Prop} {w w' : World} {v : Value} {bs : List UInt8} (h : BtP P w v bs) (hc : Chg S w w') (hp : ∀ g, P g → ¬ S g) : BtP P w' v bs := by
  obtain ⟨ba, bc, rfl, hb⟩ := h
  refine ⟨ba, bc, rfl, fun j hj => ?_⟩
  obtain ⟨g, o, e, hg, hP, hcell⟩ := hb j hj
  exact ⟨g, o, e, Nat.lt_of_lt_of_le hg hc.size, hP, (World.cell?_of_block (w := w) (a := ⟨g, _, none⟩) (hc.block g hg (hp g hP))).trans hcell⟩
def SgsAt (P : Nat → Prop) (w : World) (v : Value) (L : List Sg) : Prop :=
  ∃ va rc, v = .slice va L.length rc ∧ ∀ i (h : i < L.length), ∃ g o sv, va = some ⟨g, o, none⟩ ∧ g < w.heap.size ∧ P g ∧ w.cell? ⟨g, o + i * 2, none⟩ = some (.int .i64 L[i].1) ∧ w.cell? ⟨g, o + i * 2 + 1, none⟩ = some sv ∧ BtP P w sv L[i].2
theorem SgsAt.keep {P S : Nat → Prop} {w w' : World} {v : Value} {L : List Sg} (h : SgsAt P w v L) (hc : Chg S w w') (hp : ∀ g, P g → ¬ S g) : SgsAt P w' v L := by
  obtain ⟨va, rc, rfl, hb⟩ := h
  refine ⟨va, rc, rfl, fun i hi => ?_⟩
  obtain ⟨g, o, sv, e, hg, hP, c0, c1, hbt⟩ := hb i hi
  exact ⟨g, o, sv, e, Nat.lt_of_lt_of_le hg hc.size, hP, (World.cell?_of_block (w := w) (a := ⟨g, _, none⟩) (hc.block g hg (hp g hP))).trans c0, (World.cell?_of_block (w := w) (a := ⟨g, _, none⟩) (hc.block g hg (hp g hP))).trans c1, hbt.keep hc hp⟩
theorem BtP.mono {P Q : Nat → Prop} {w : World} {v : Value} {bs : List UInt8} (h : BtP P w v bs) (hp : ∀ g, P g → Q g) : BtP Q w v bs := by
  obtain ⟨ba, bc, rfl, hb⟩ := h
  exact ⟨ba, bc, rfl, fun j hj => by obtain ⟨g, o, e, hg, hP, hc⟩ := hb j hj; exact ⟨g, o, e, hg, hp g hP, hc⟩⟩
theorem SgsAt.mono {P Q : Nat → Prop} {w : World} {v : Value} {L : List Sg} (h : SgsAt P w v L) (hp : ∀ g, P g → Q g) : SgsAt Q w v L := by
  obtain ⟨va, rc, rfl, hb⟩ := h
  exact ⟨va, rc, rfl, fun i hi => by obtain ⟨g, o, sv, e, hg, hP, c0, c1, hbt⟩ := hb i hi; exact ⟨g, o, sv, e, hg, hp g hP, c0, c1, hbt.mono hp⟩⟩
def okA (s : Sg) : Prop := 0 ≤ s.1 ∧ s.1 + s.2.length ≤ 65536
def okC (R : List Rgn) (s : Sg) : Prop := allR R s.1 (s.1 + s.2.length)
/- the cells behind the first n bytes laid from a on; behind the first n segments -/
def layN (Z : Nat → Nat × Nat) (a : Nat) (bs : List UInt8) : Nat → Nat → Nat × Nat
  | 0 => Z
  | n + 1 => upd (layN Z a bs n) (a + n) (encZ (bs.getD n 0).toNat)
def loadTo (Z : Nat → Nat × Nat) (L : List Sg) : Nat → Nat → Nat × Nat
  | 0 => Z
  | n + 1 => layN (loadTo Z L n) (L.getD n (0, [])).1.toNat (L.getD n (0, [])).2 (L.getD n (0, [])).2.length
theorem sg_cells (w : World) (a : Int) (sv : Value) : (w.alloc (.cells #[.int .i64 a, sv] 72)).cell? ⟨w.heap.size, 0, none⟩ = some (.int .i64 a) ∧ (w.alloc (.cells #[.int .i64 a, sv] 72)).cell? ⟨w.heap.size, 1, none⟩ = some sv := by
  refine ⟨?_, ?_⟩ <;> rw [cell_of_row _ _ _ _ _ _ (heap_alloc_last _ _)] <;> rfl
def LoadTo (k : Mk) (Z : Nat → Nat × Nat) (x y : Int) (L : List Sg) (w : World) (e : Ending) (w' : World) : Prop :=
  ((∃ s ∈ L, ¬ okA s) ∧ e = .returned (.int .i64 1) ∧ Below w.heap.size w w') ∨
  ((∀ s ∈ L, okA s) ∧ (∃ s ∈ L, ¬ okC k.R s) ∧ e = .returned (.int .i64 230) ∧ Below w.heap.size w w') ∨
  ((∀ s ∈ L, okA s) ∧ (∀ s ∈ L, okC k.R s) ∧ e = .returned (.int .i64 0) ∧ MeAt w' k (loadTo Z L L.length) x y ∧ Chg k.own w w')
set_option maxRecDepth 100000 in
set_option maxHeartbeats 6400000 in
theorem load_any {w : World} {k : Mk} {Z : Nat → Nat × Nat} {x y : Int} (h : MeAt w k Z x y) (hs : SepR k.R) (L : List Sg) (hl : L.length ≤ 140737488355328) (hb : ∀ s ∈ L, s.2.length ≤ 140737488355328) (v : Value) (hv : SgsAt (fun g => ¬ k.own g) w v L) :
    Calls Try.prog 21 #[.pointer (some ⟨k.m, 0, none⟩), v] w fun e w' => LoadTo k Z x y L w e w' := by
  have HM := hidD h
  have HS := hidD hs
  have HLB := hidD hb
  have HV := hidD hv
  obtain ⟨va, rc, rfl, hcv⟩ := hv
  have HCV := hidD hcv
  clear h hs hb hcv
  go_enter Try.func21, Try.ntmps21
  go_wp2_with fail
  go_loopw [17] (fun i wr => ∃ n : Nat, n ≤ L.length ∧ i = .int .i64 n ∧ Below w.heap.size w wr ∧ ∀ j (h : j < L.length), j < n → okA L[j]) (fun i _ => L.length - (intOf i).toNat)
  case atStart => exact ⟨0, Nat.zero_le _, rfl, Below.refl _ _, fun j _ hj => by omega⟩
  case round =>
    obtain ⟨n, hn, rfl, hbel, hok⟩ := hrel
    have HBW := hidD hbel
    have HOK := hidD hok
    clear hbel hok
    by_cases hlt : n < L.length
    · have hlti : (n : Int) < L.length := by omega
      obtain ⟨g, o, sv, rfl, hg, -, k0, k1, hbt⟩ := HCV.out n hlt
      obtain ⟨ba, bc, rfl, -⟩ := hbt
      have e0 := (HBW.out.cell (p := ⟨g, o + n * 2, none⟩) hg).trans k0
      have e1 := (HBW.out.cell (p := ⟨g, o + n * 2 + 1, none⟩) hg).trans k1
      clear k0 k1
      have HNX : Hid (okA L[n] → ∀ j (h : j < L.length), j < n + 1 → okA L[j]) := fun hx j h hj => by
        by_cases hjn : j = n
        · subst hjn; exact hx
        · exact HOK.out j h (by omega)
      have HBD : Hid (¬ okA L[n] → ∃ s ∈ L, ¬ okA s) := fun hx => ⟨_, List.getElem_mem hlt, hx⟩
      have hbn := HLB.out _ (List.getElem_mem hlt)
      have HOD : Hid (okA L[n] ↔ 0 ≤ L[n].1 ∧ L[n].1 + L[n].2.length ≤ 65536) := Iff.rfl
      generalize okA L[n] = OK at *
      generalize L[n].2.length = N at *
      generalize L[n].1 = a at *
      obtain ⟨g0, g1⟩ := sg_cells wr a (.slice ba N bc)
      have HA := hidD (Below.next HBW.out (pin_map (w := wr) (.cells #[.int .i64 a, .slice ba N bc] (72 : TypeId))))
      by_cases hneg : a < 0
      · have hx := HBD.out fun h => by have := (HOD.out.1 h).1; omega
        have HX := hidD hx
        clear hx
        go_wp2_with fail
        go_ret
        exact .inl ⟨HX.out, rfl, HA.out⟩
      · by_cases hbig : a > 65536 - (N : Int)
        · have hx := HBD.out fun h => by have := (HOD.out.1 h).2; omega
          have HX := hidD hx
          have hd : decide (a > 65536 - (N : Int)) = true := decide_eq_true hbig
          clear hx
          go_wp2_with fail
          go_ret
          exact .inl ⟨HX.out, rfl, HA.out⟩
        · have hx := HNX.out (HOD.out.2 ⟨by omega, by omega⟩)
          have HX := hidD hx
          have hd : decide (a > 65536 - (N : Int)) = false := decide_eq_false hbig
          clear hx
          go_wp2_with fail
          exact ⟨⟨n + 1, by omega, by simp, HA.out, HX.out⟩, by simp [intOf]; omega⟩
    · have hnn : ¬ (n : Int) < L.length := by omega
      have HOKA : Hid (∀ s ∈ L, okA s) := fun s hs => by obtain ⟨j, hj, rfl⟩ := List.mem_iff_getElem.1 hs; exact HOK.out j hj (by omega)
      clear HOK
      go_wp2_with fail
      go_loopw [36] (fun i wr => ∃ n : Nat, n ≤ L.length ∧ i = .int .i64 n ∧ Below w.heap.size w wr ∧ ∀ j (h : j < L.length), j < n → okC k.R L[j]) (fun i _ => L.length - (intOf i).toNat)
      case atStart => exact ⟨0, Nat.zero_le _, rfl, HBW.out, fun j _ hj => by omega⟩
      case round =>
        clear HBW
        obtain ⟨n, hn, rfl, hbel, hok⟩ := hrel
        have HBW := hidD hbel
        have HOK := hidD hok
        clear hbel hok
        by_cases hlt : n < L.length
        · have hlti : (n : Int) < L.length := by omega
          obtain ⟨g, o, sv, rfl, hg, -, k0, k1, hbt⟩ := HCV.out n hlt
          obtain ⟨ba, bc, rfl, -⟩ := hbt
          have e0 := (HBW.out.cell (p := ⟨g, o + n * 2, none⟩) hg).trans k0
          have e1 := (HBW.out.cell (p := ⟨g, o + n * 2 + 1, none⟩) hg).trans k1
          clear k0 k1
          have HNX : Hid (okC k.R L[n] → ∀ j (h : j < L.length), j < n + 1 → okC k.R L[j]) := fun hx j h hj => by
            by_cases hjn : j = n
            · subst hjn; exact hx
            · exact HOK.out j h (by omega)
          have HBD : Hid (¬ okC k.R L[n] → ∃ s ∈ L, ¬ okC k.R s) := fun hx => ⟨_, List.getElem_mem hlt, hx⟩
          have hbn := HLB.out _ (List.getElem_mem hlt)
          have hA2 := HOKA.out _ (List.getElem_mem hlt)
          have hA3 : 0 ≤ L[n].1 ∧ L[n].1 + L[n].2.length ≤ 65536 := hA2
          have HOD : Hid (okC k.R L[n] ↔ allR k.R L[n].1 (L[n].1 + L[n].2.length)) := Iff.rfl
          clear hA2
          generalize okC k.R L[n] = OK at *
          generalize L[n].2.length = N at *
          generalize L[n].1 = a at *
          obtain ⟨g0, g1⟩ := sg_cells wr a (.slice ba N bc)
          have HA := hidD (Below.next HBW.out (pin_map (w := wr) (.cells #[.int .i64 a, .slice ba N bc] (72 : TypeId))))
          have hsum : a + (N : Int) ≤ 65536 := hA3.2
          by_cases hc : allR k.R a (a + N)
          · have HH := hidD (hasCells2_any (HM.out.next HA.out) HS.out a (a + N) hA3.1 hsum true (iff_of_true rfl hc))
            have HX := hidD (HNX.out (HOD.out.2 hc))
            clear HOD hc
            go_wp2_with (go_at_call 55; refine HH.out.mono ?_; rintro e w3 ⟨rfl, hb3⟩; have HB3 := hidD (Below.next HA.out hb3); clear hb3)
            exact ⟨⟨n + 1, by omega, by simp, HB3.out, HX.out⟩, by simp [intOf]; omega⟩
          · have HH := hidD (hasCells2_any (HM.out.next HA.out) HS.out a (a + N) hA3.1 hsum false (iff_of_false (by decide) hc))
            have HX := hidD (HBD.out fun h => hc (HOD.out.1 h))
            clear HOD hc
            go_wp2_with (go_at_call 55; refine HH.out.mono ?_; rintro e w3 ⟨rfl, hb3⟩; have HB3 := hidD (Below.next HA.out hb3); clear hb3)
            go_ret
            exact .inr (.inl ⟨HOKA.out, HX.out, rfl, HB3.out⟩)
        · clear hnn
          have hnn : ¬ (n : Int) < L.length := by omega
          have HOKC : Hid (∀ s ∈ L, okC k.R s) := fun s hs => by obtain ⟨j, hj, rfl⟩ := List.mem_iff_getElem.1 hs; exact HOK.out j hj (by omega)
          clear HOK
          go_wp2_with fail
          go_loopw [54] (fun i wr => ∃ n : Nat, n ≤ L.length ∧ i = .int .i64 n ∧ MeAt wr k (loadTo Z L n) x y ∧ Chg k.own w wr) (fun i _ => L.length - (intOf i).toNat)
          case atStart => exact ⟨0, Nat.zero_le _, rfl, HM.out.next HBW.out, Chg.of HBW.out⟩
          case round =>
            clear HBW
            obtain ⟨n, hn, rfl, hme, hchg⟩ := hrel
            have HME := hidD hme
            have HCH := hidD hchg
            clear hme hchg
            by_cases hlt : n < L.length
            · have hlti : (n : Int) < L.length := by omega
              have HVR := hidD (HV.out.keep HCH.out fun g hp => hp)
              obtain ⟨g, o, sv, rfl, hg, hpg, k0, k1, hbt⟩ := HCV.out n hlt
              obtain ⟨ba, bc, rfl, hbc⟩ := hbt.keep HCH.out fun g hp => hp
              have HBC := hidD hbc
              have e0 := (World.cell?_of_block (w := w) (a := ⟨g, o + n * 2, none⟩) (HCH.out.block g hg hpg)).trans k0
              have e1 := (World.cell?_of_block (w := w) (a := ⟨g, o + n * 2 + 1, none⟩) (HCH.out.block g hg hpg)).trans k1
              clear k0 k1 hbt hbc
              have hA3 : 0 ≤ L[n].1 ∧ L[n].1 + L[n].2.length ≤ 65536 := HOKA.out _ (List.getElem_mem hlt)
              have HLD : Hid (loadTo Z L (n + 1) = layN (loadTo Z L n) L[n].1.toNat L[n].2 L[n].2.length) := by
                show layN (loadTo Z L n) (L.getD n (0, [])).1.toNat (L.getD n (0, [])).2 (L.getD n (0, [])).2.length = _
                rw [List.getD_eq_getElem?_getD, List.getElem?_eq_getElem hlt]; rfl
              have hsz : (L[n].1) = ((L[n].1.toNat : Nat) : Int) := by omega
              generalize L[n].2 = bs at *
              generalize hzn : loadTo Z L n = Zn at *
              clear hzn
              generalize L[n].1.toNat = A at *
              rw [hsz] at e0 hA3
              clear hsz
              obtain ⟨g0, g1⟩ := sg_cells wr (A : Int) (.slice ba bs.length bc)
              have HSB : Hid (¬ k.own wr.heap.size) := fun e => e.elim (fun e => by have := HME.out.lt.1; omega) (fun e => by have := HME.out.lt.2.2; omega)
              have HA := hidD (pin_map (w := wr) (.cells #[.int .i64 (A : Int), .slice ba bs.length bc] (72 : TypeId)))
              have hls : wr.heap.size < (wr.alloc (.cells #[.int .i64 (A : Int), .slice ba bs.length bc] (72 : TypeId))).heap.size := row_lt (heap_alloc_last _ _)
              have HLS := hidD hls
              clear hls
              go_wp2_with fail
              have HM0 := hidD (HME.out.next HA.out)
              have HC0 := hidD (HCH.out.trans (Chg.of HA.out))
              have HS0 := hidD g0
              clear e0 e1 g0 g1 hlti
              have HBC1 : Hid (∀ j, j < bs.length → ∃ g o, ba = some ⟨g, o, none⟩ ∧ g < (wr.alloc (.cells #[.int .i64 (A : Int), .slice ba bs.length bc] (72 : TypeId))).heap.size ∧ ¬ k.own g ∧ (wr.alloc (.cells #[.int .i64 (A : Int), .slice ba bs.length bc] (72 : TypeId))).cell? ⟨g, o + j, none⟩ = some (.int .u8 ((bs.getD j 0).toNat : Int))) := fun j hj => by
                obtain ⟨g, o, e, h1, h2, h3⟩ := HBC.out j hj
                exact ⟨g, o, e, Nat.lt_trans h1 HLS.out, h2, (HA.out.cell (p := ⟨g, o + j, none⟩) h1).trans h3⟩
              clear HBC HA
              generalize wr.heap.size = sb at *
              generalize wr.alloc (.cells #[.int .i64 (A : Int), .slice ba bs.length bc] (72 : TypeId)) = W1 at *
              have hbsl : bs.length ≤ 65536 := by omega
              go_loopw [61] (fun i wr2 => ∃ j : Nat, j ≤ bs.length ∧ i = .int .i64 j ∧ MeAt wr2 k (layN Zn A bs j) x y ∧ Chg k.own W1 wr2) (fun i _ => bs.length - (intOf i).toNat)
              case atStart => exact ⟨0, Nat.zero_le _, rfl, HM0.out, Chg.refl _ _⟩
              case round =>
                clear HM0
                obtain ⟨j, hj, rfl, hme2, hchg2⟩ := hrel
                have HM2 := hidD hme2
                have HC2 := hidD hchg2
                clear hme2 hchg2
                by_cases hjl : j < bs.length
                · have hjli : (j : Int) < bs.length := by omega
                  obtain ⟨gb, ob, rfl, hgb, hPb, hcb⟩ := HBC1.out j hjl
                  have e2 := (World.cell?_of_block (w := W1) (a := ⟨gb, ob + j, none⟩) (HC2.out.block gb hgb hPb)).trans hcb
                  clear hcb
                  have hb := UInt8.toNat_lt (bs.getD j 0)
                  obtain ⟨C, hC⟩ : ∃ C : Nat, (A : Int) + (j : Int) = (C : Int) := ⟨A + j, by omega⟩
                  have HCl : Hid (C < 65536) := by show C < 65536; omega
                  have hCi : (C : Int) < 65536 := by omega
                  have HST : Hid (layN Zn A bs (j + 1) = upd (layN Zn A bs j) C (encZ (bs.getD j 0).toNat)) := by
                    have hc : C = A + j := by omega
                    show _ = _
                    rw [hc]; rfl
                  have s0 := (World.cell?_of_block (w := W1) (a := ⟨sb, 0, none⟩) (HC2.out.block sb HLS.out HSB.out)).trans HS0.out
                  have HCO : Hid (∀ w, Calls Try.prog 54 #[.int .u8 ((bs.getD j 0).toNat : Int)] w fun e w' => e = .returned (.agg (wdC (encZ (bs.getD j 0).toNat).1 (encZ (bs.getD j 0).toNat).2)) ∧ Below w.heap.size w w') := fun w => cellOf_any _ hb w
                  have HEL := hidD (encZ_lt hb)
                  clear hb
                  obtain ⟨Zj1, hz1⟩ : ∃ Zj1, Hid (layN Zn A bs (j + 1) = Zj1) := ⟨_, rfl⟩
                  rw [hz1.out] at HST
                  generalize layN Zn A bs j = Zj at *
                  generalize (bs.getD j 0).toNat = b at *
                  generalize encZ b = E at *
                  obtain ⟨ED, EC⟩ := E
                  change Hid (∀ w, Calls Try.prog 54 #[.int .u8 (b : Int)] w fun e w' => e = .returned (.agg #[.int .u64 (ED : Int), .int .u8 (EC : Int)]) ∧ Below w.heap.size w w') at HCO
                  obtain ⟨hzz, hsz⟩ := zero_of_info Try.zeroWd
                  have HI : Hid ((Try.prog.info? 58).map (·.size) = some 2) := hsz
                  clear hzz hsz
                  go_wp2_with fail
                  have hCw : IntKind.i64.wrap ((A : Int) + (j : Int)) = (C : Int) := by rw [hC]; unfold IntKind.wrap; simp [IntKind.bits, IntKind.signed]; omega
                  have q2 : ∀ i : BW wr, i.v.cell? ⟨k.m, 2, none⟩ = some (.slice (some ⟨k.c, 0, none⟩) 65536 65536) := fun i => (i.cell HM2.out.lt.1).trans HM2.out.cells.2.2.1
                  have q3 : ∀ i : BW wr, i.v.cell? ⟨sb, 0, none⟩ = some (.int .i64 (A : Int)) := fun i => (i.cell (Nat.lt_of_lt_of_le HLS.out HC2.out.size)).trans s0
                  refine wp_region_put (by simp) (by kernel_rfl) rfl (by kernel_rfl) (by kernel_rfl) (by kernel_rfl) ?_
                  simp only [List.dropLast_cons_cons, List.dropLast_singleton, List.getLast_cons_cons, List.getLast_singleton, List.cons_append, List.nil_append, mute]
                  repeat (go_big_quiet_step ((go_at_call 54; exact Calls.below_of (HCO.out _))))
                  refine wpQuiet_nil ?_
                  intro i
                  have HMI := hidD (HM2.out.next i.below)
                  have HCI := hidD (HC2.out.trans (Chg.of i.below))
                  refine wpList_store_mid rfl 58 _ _ rfl k.c (C * 2) #[.int .u64 (ED : Int), .int .u8 (EC : Int)] rfl rfl (HMI.out.ce.there HCl.out) HI.out (wd_one ED EC) ?_
                  have HF := hidD (HMI.out.put HCl.out ED EC HEL.out.1 HEL.out.2)
                  have HG := hidD (HCI.out.put k.c (Or.inr rfl) (C * 2) [.int .u64 (ED : Int), .int .u8 (EC : Int)])
                  rw [← HST.out] at HF
                  change Hid (MeAt (World.setCells i.v k.c (C * 2) (#[.int .u64 (ED : Int), .int .u8 (EC : Int)] : Array Value).toList) k Zj1 x y) at HF
                  change Hid (Chg k.own W1 (World.setCells i.v k.c (C * 2) (#[.int .u64 (ED : Int), .int .u8 (EC : Int)] : Array Value).toList)) at HG
                  generalize World.setCells _ _ _ _ = w5 at *
                  go_wp2_with fail
                  exact ⟨⟨j + 1, by omega, by simp, by rw [hz1.out]; exact HF.out, HG.out⟩, by simp [intOf]; omega⟩
                · have hjb : j = bs.length := by omega
                  have hjni : ¬ (j : Int) < bs.length := by omega
                  go_wp2_with fail
                  exact ⟨⟨n + 1, by omega, by simp, by rw [HLD.out, ← hjb]; exact HM2.out, HC0.out.trans HC2.out⟩, by simp [intOf]; omega⟩
            · have hnl : n = L.length := by omega
              have hnni : ¬ (n : Int) < L.length := by omega
              go_wp2_with fail
              go_ret
              exact .inr (.inr ⟨HOKA.out, HOKC.out, rfl, by rw [← hnl]; exact HME.out, HCH.out⟩)
end Go.Proofs.Ytjnfnihhihncmaa
