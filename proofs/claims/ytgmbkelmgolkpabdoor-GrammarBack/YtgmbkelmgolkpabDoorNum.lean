/- What numbered answers. -/
import Derived.Test.YtgmbkelmgolkpabDoorCct
namespace Go.Proofs.YtgmbkelmgolkpabDoor
open Go.RowKit Go.Maps
set_option linter.unusedVariables false

theorem makeMap_some (n : Int) (w : World) : (Instr.makeMap 64 (some (.int .i64 n))).run Tryd.prog w = .ok (.map (some w.heap.size)) (w.alloc (.map #[] 0)) := by
  simp [Instr.makeMap, asInt, asIntOf, run_underlying Tryd.under64]
/-- The numbers of the first k names, the one at t left out. -/
def nuTo (A : List Tx) (t : Nat) : Nat → Tx → Option Int
  | 0 => fun _ => none
  | k + 1 => if k = t then nuTo A t k else fun z => if z = A.getD k [] then some (k : Int) else nuTo A t k z
/-- Are the first k names, the one at t left out, right? -/
def gdTo (A : List Tx) (t : Nat) : Nat → Bool
  | 0 => true
  | k + 1 => gdTo A t k && (decide (k = t) || (nmS (A.getD k []) && (nuTo A t k (A.getD k [])).isNone))
theorem gd_mono (A : List Tx) (t : Nat) {k : Nat} : ∀ m, k ≤ m → gdTo A t k = false → gdTo A t m = false
  | 0, h, e => by obtain rfl : k = 0 := by omega
                  exact e
  | m + 1, h, e => by
    by_cases hk : k = m + 1
    · rw [← hk]; exact e
    · rw [gdTo, gd_mono A t m (by omega) e]; rfl
/-- Terminals, the end, others. -/
def allN (T O : List Tx) : List Tx := [T, [tEnd], O].flatten
theorem allN_len (T O : List Tx) : (allN T O).length = T.length + 1 + O.length := by simp [allN]; omega
def nuF (T O : List Tx) : Tx → Option Int := nuTo (allN T O) T.length (allN T O).length
def gdF (T O : List Tx) : Bool := gdTo (allN T O) T.length (allN T O).length
theorem alloc_size (w : World) (o : Obj) : (w.alloc o).heap.size = w.heap.size + 1 := by simp
/-- Three rows of texts in a new one. -/
theorem rl_three {w : World} {Bt Bo : Nat} {t o : Value} {T O : List Tx} (ht : SrAt w Bt t T) (ho : SrAt w Bo o O) : RlAt ((w.alloc (.cells #[.string ⟨#[36]⟩] (9 : TypeId))).alloc (.cells #[t, .slice (some ⟨w.heap.size, 0, none⟩) 1 1, o] (48 : TypeId))) (.slice (some ⟨w.heap.size + 1, 0, none⟩) 3 3) [T, [tEnd], O] := by
  have hb1 : Below w.heap.size w (w.alloc (.cells #[.string ⟨#[36]⟩] (9 : TypeId))) := (Below.refl _ _).alloc (Nat.le_refl _) _
  have hb2 : Below w.heap.size w ((w.alloc (.cells #[.string ⟨#[36]⟩] (9 : TypeId))).alloc (.cells #[t, .slice (some ⟨w.heap.size, 0, none⟩) 1 1, o] (48 : TypeId))) := hb1.alloc (by simp) _
  have hc1 : ((w.alloc (.cells #[.string ⟨#[36]⟩] (9 : TypeId))).alloc (.cells #[t, .slice (some ⟨w.heap.size, 0, none⟩) 1 1, o] (48 : TypeId))).heap[w.heap.size]? = some (.cells #[.string ⟨#[36]⟩] (9 : TypeId) (0, 0)) := by
    rw [(show Below (w.heap.size + 1) (w.alloc (.cells #[.string ⟨#[36]⟩] (9 : TypeId))) _ from (Below.refl _ _).alloc (by simp) _).block w.heap.size (by omega)]
    exact heap_alloc_new _ _
  have hc2 : ((w.alloc (.cells #[.string ⟨#[36]⟩] (9 : TypeId))).alloc (.cells #[t, .slice (some ⟨w.heap.size, 0, none⟩) 1 1, o] (48 : TypeId))).heap[w.heap.size + 1]? = some (.cells #[t, .slice (some ⟨w.heap.size, 0, none⟩) 1 1, o] (48 : TypeId) (0, 0)) := by
    have := heap_alloc_new (w.alloc (.cells #[.string ⟨#[36]⟩] (9 : TypeId))) (.cells #[t, .slice (some ⟨w.heap.size, 0, none⟩) 1 1, o] (48 : TypeId))
    rw [alloc_size] at this
    exact this
  generalize ((w.alloc (.cells #[.string ⟨#[36]⟩] (9 : TypeId))).alloc (.cells #[t, .slice (some ⟨w.heap.size, 0, none⟩) 1 1, o] (48 : TypeId))) = w2 at *
  refine ⟨_, 3, rfl, Nat.le_refl _, by omega, fun k hk => ?_⟩
  have hk3 : k < 3 := hk
  have hlt := row_lt hc2
  rcases (show k = 0 ∨ k = 1 ∨ k = 2 by omega) with rfl | rfl | rfl
  · exact ⟨_, 0, t, rfl, hlt, (cell_of_row _ _ _ _ _ _ hc2).trans rfl, (ht.next hb2).all⟩
  · refine ⟨_, 0, _, rfl, hlt, (cell_of_row _ _ _ _ _ _ hc2).trans rfl, _, 1, rfl, Nat.le_refl _, ⟨by omega, nofun⟩, fun k hk => ?_⟩
    have hk1 : k < 1 := hk
    obtain rfl : k = 0 := by omega
    exact ⟨_, 0, _, rfl, row_lt hc1, hc1, rfl⟩
  · exact ⟨_, 0, o, rfl, hlt, (cell_of_row _ _ _ _ _ _ hc2).trans rfl, (ho.next hb2).all⟩
set_option maxRecDepth 100000 in
set_option maxHeartbeats 1600000 in
theorem numbered_any (T O : List Tx) (hT : TxOk T) (hO : TxOk O) (hl : T.length + O.length ≤ 4398046511000) (Bt Bo : Nat) (t o : Value) (w : World) (ht : SrAt w Bt t T) (ho : SrAt w Bo o O) : Calls Tryd.prog 46 #[t, o] w fun e w' =>
    (gdF T O = true → ∃ b n, e = .returned (.tuple #[.map (some b), .bool true]) ∧ n ≤ 4398046511104 ∧ MpAt w' b n (nuF T O) ∧ w.heap.size ≤ b) ∧ (gdF T O = false → e = .returned (.tuple #[.map none, .bool false])) ∧ Below w.heap.size w w' := by
  have hmm := makeMap_some
  obtain ⟨at1, ct1, rfl⟩ := ht.shape
  obtain ⟨ao1, co1, rfl⟩ := ho.shape
  have HAO : Hid (TxOk (allN T O)) := fun x hx => by
    simp only [allN, List.flatten_cons, List.flatten_nil, List.append_nil, List.mem_append, List.mem_singleton] at hx
    rcases hx with hx | rfl | hx
    · exact hT x hx
    · decide
    · exact hO x hx
  have hlen := allN_len T O
  have HFL : Hid ([T, [tEnd], O].flatten = allN T O) := rfl
  have HB0 : Hid (Below w.heap.size w (w.alloc (.map #[] 0))) := (Below.refl _ _).alloc (Nat.le_refl _) _
  have HM0 := hidD (MpAt.made w)
  have hrl := rl_three (ht.next HB0.out) (ho.next HB0.out)
  simp only [alloc_size] at hrl
  have HBA : Hid (∀ (w' : World) o1 o2, Below w'.heap.size w' ((w'.alloc o1).alloc o2)) := fun w' o1 o2 => ((Below.refl _ _).alloc (Nat.le_refl _) o1).alloc (by simp) o2
  have HCC := hidD (concatT_any [T, [tEnd], O] (by simp) (by rw [HFL.out]; omega) (by rw [HFL.out]; omega) _ _ hrl)
  rw [HFL.out] at HCC
  have HBQ : Hid (Below w.heap.size w (((w.alloc (.map #[] 0)).alloc (.cells #[.string ⟨#[36]⟩] (9 : TypeId))).alloc (.cells #[.slice at1 T.length ct1, .slice (some ⟨w.heap.size + 1, 0, none⟩) 1 1, .slice ao1 O.length co1] (48 : TypeId)))) := Below.next HB0.out (HBA.out _ _ _)
  have HMQ : Hid (MpAt (((w.alloc (.map #[] 0)).alloc (.cells #[.string ⟨#[36]⟩] (9 : TypeId))).alloc (.cells #[.slice at1 T.length ct1, .slice (some ⟨w.heap.size + 1, 0, none⟩) 1 1, .slice ao1 O.length co1] (48 : TypeId))) w.heap.size 0 fun _ => none) := HM0.out.next (HBA.out _ _ _)
  have HNF : Hid (nuF T O = nuTo (allN T O) T.length (allN T O).length ∧ gdF T O = gdTo (allN T O) T.length (allN T O).length) := ⟨rfl, rfl⟩
  have HN0 : Hid (∀ A t, nuTo A t 0 = fun _ => none) := fun _ _ => rfl
  have HNN : Hid (∀ A t k, nuTo A t (k + 1) = if k = t then nuTo A t k else fun z => if z = A.getD k [] then some (k : Int) else nuTo A t k z) := fun _ _ _ => rfl
  have HGN : Hid (∀ A t k, gdTo A t (k + 1) = (gdTo A t k && (decide (k = t) || (nmS (A.getD k []) && (nuTo A t k (A.getD k [])).isNone)))) := fun _ _ _ => rfl
  have HGM := hidD (fun k => gd_mono (allN T O) T.length (k := k))
  have HG0 : Hid (gdTo (allN T O) T.length 0 = true) := rfl
  clear hT hO ht ho hrl
  generalize allN T O = A at *
  generalize hAn : A.length = n at *
  have HAN := hidD hAn
  clear hAn
  generalize hTn : T.length = tl at *
  generalize hOn : O.length = ol at *
  clear hTn hOn
  have hnb : n ≤ 4398046511001 := by omega
  clear hlen
  have hwr : ((tl : Int) + 1) ≤ 4398046511001 := by omega
  go_enter Tryd.func46, Tryd.ntmps46
  go_wp2_with (go_at_call 48; refine HCC.out.mono ?_; rintro e w2 ⟨u2, rfl, ho2, hb2⟩; obtain ⟨a3, c3, h3⟩ := row_shape ho2; subst h3; have HS2 := hidD (sr_of_own ho2 HAN.out.symm); have HO2 := hidD ho2; have HB2 := hidD (Below.next HBQ.out hb2); have HM2 := hidD (HMQ.out.next hb2); clear ho2 hb2)
  clear HO2 HCC HBQ HMQ
  go_loopw [24] (fun i wr => ∃ k B : Nat, k ≤ n ∧ i = .int .i64 k ∧ MpAt wr w.heap.size k (nuTo A tl k) ∧ SrAt wr B (.slice a3 n c3) A ∧ gdTo A tl k = true ∧ Below w.heap.size w wr) (fun i _ => n - (intOf i).toNat)
  case atStart => exact ⟨0, _, Nat.zero_le _, rfl, by rw [HN0.out]; exact HM2.out, HS2.out, HG0.out, HB2.out⟩
  case round =>
    obtain ⟨k, B, hk, rfl, hmp, hsr, hgd, hbel⟩ := hrel
    have HMP := hidD hmp
    have HSR := hidD hsr
    have HGD := hidD hgd
    have HBW := hidD hbel
    have HNK := hidD (HNN.out A tl k)
    have HGK := hidD (HGN.out A tl k)
    rw [HGD.out, Bool.true_and] at HGK
    by_cases hlt : k < n
    · have hlti : (k : Int) < n := by omega
      obtain ⟨g, o, rfl, hg, _, f0⟩ := hsr.cell (k := k) (by rw [HAN.out]; exact hlt)
      have hxl := HAO.out.get (k := k) (by rw [HAN.out]; exact hlt)
      have hlk := hmp.lookOk hxl
      have HIM := hidD hmp.is
      have HNM := hidD (isName_any (A.getD k []) wr hxl)
      unfold encT at f0 HNM
      have HGF := hidD (fun h => HGM.out (k + 1) n (by omega) h)
      clear hmp hsr hgd hbel
      by_cases hkt : k = tl
      · have hkti : ((k : Int) == (tl : Int)) = true := by rw [hkt]; exact beq_self_eq_true _
        rw [if_pos hkt] at HNK
        rw [decide_eq_true hkt, Bool.true_or] at HGK
        subst hkt
        generalize A.getD k [] = x at *
        go_wp2
        go_roundw
        case rel => exact ⟨k + 1, B, by omega, by go_num, by rw [HNK.out]; exact HMP.out.bound (by omega), HSR.out, HGK.out, HBW.out⟩
        case measure => simp [intOf]; omega
      · have hkti : ((k : Int) == (tl : Int)) = false := beq_eq_false_iff_ne.2 (by omega)
        have hktd : decide ((k : Int) = (tl : Int)) = false := decide_eq_false (by omega)
        have hktn : ¬ ((k : Int) = (tl : Int)) := by omega
        rw [if_neg hkt] at HNK
        rw [decide_eq_false hkt, Bool.false_or] at HGK
        clear hkt
        generalize hx : A.getD k [] = x at *
        clear hx
        cases hf : nuTo A tl k x with
        | some c =>
          rw [hf] at hlk HGK
          simp only [Option.getD_some, Option.isSome_some] at hlk
          have HF : Hid (gdF T O = false) := by show _ = _; rw [HNF.out.2]; exact HGF.out (by rw [HGK.out]; exact Bool.and_false _)
          clear hf
          go_wp2
          refine bodyPost_ret (v := .tuple #[.map none, .bool false]) (by simp [results, Tryd.results46, go_sem]) rfl ?_
          exact ⟨fun h => (by rw [HF.out] at h; cases h), fun _ => rfl, HBW.out⟩
        | none =>
          rw [hf] at hlk HGK
          simp only [Option.getD_none, Option.isSome_none] at hlk
          rw [Option.isNone_none, Bool.and_true] at HGK
          clear hf
          cases hn : nmS x with
          | false =>
            rw [hn] at HNM HGK
            have HF : Hid (gdF T O = false) := by show _ = _; rw [HNF.out.2]; exact HGF.out HGK.out
            clear hn
            go_wp2_with (go_at_call 45; refine HNM.out.mono ?_; rintro e w5 ⟨rfl, hw⟩; subst w5)
            refine bodyPost_ret (v := .tuple #[.map none, .bool false]) (by simp [results, Tryd.results46, go_sem]) rfl ?_
            exact ⟨fun h => (by rw [HF.out] at h; cases h), fun _ => rfl, HBW.out⟩
          | true =>
            rw [hn] at HNM HGK
            clear hn
            go_wp2_with (first
              | (go_at_call 45; refine HNM.out.mono ?_; rintro e w5 ⟨rfl, hw⟩; subst w5)
              | (at_mapUpdate; refine wpList_map_put rfl _ _ _ rfl w.heap.size k (nuTo A tl k) rfl HMP.out (by omega) x (k : Int) hxl (by omega) (by omega) rfl rfl ?_; intro w6 hm6 hg6; have HM6 := hidD hm6; have HS6 := hidD (HSR.out.mapped HIM.out hg6); have HB6 := hidD (below_map HBW.out hg6 (Nat.le_refl _) HBW.out.size); clear hm6 hg6))
            go_roundw
            case rel => exact ⟨k + 1, B, by omega, by go_num, by rw [HNK.out]; exact HM6.out, HS6.out, HGK.out, HB6.out⟩
            case measure => simp [intOf]; omega
    · obtain rfl : n = k := by omega
      have HF : Hid (gdF T O = true) := by show _ = _; rw [HNF.out.2]; exact HGD.out
      have HL := hidD HMP.out
      clear hmp hsr hgd hbel
      go_wp2
      refine bodyPost_ret (v := .tuple #[.map (some w.heap.size), .bool true]) (by simp [results, Tryd.results46, go_sem]) rfl ?_
      exact ⟨fun _ => ⟨_, n, rfl, by omega, by rw [HNF.out.1]; exact HL.out, Nat.le_refl _⟩, fun h => (by rw [HF.out] at h; cases h), HBW.out⟩
end Go.Proofs.YtgmbkelmgolkpabDoor
