/- Texts of one proof, one behind the other. -/
import Derived.Test.YtdpkeffkpecmjaaRzd
import Derived.Test.YtdpkeffkpecmjaaGa
/- Plain facts: the word that the document makes, where a good one is near enough. -/
namespace Go.Proofs.Ytdpkeffkpecmjaa
open Go.RowKit
set_option linter.unusedVariables false

/-- The document's locator. -/
def qLoc (f p : Nat) (r : List UInt8) (L : List Int) : List UInt8 := mulS 29 (rFac p ((p + L.length) / 2) ((mulS 29 (syns f p r) (ofTo (powS L r.length) (powS L r.length).length)).take p)) (ofTo (powS L r.length) (powS L r.length).length)
/-- The places that it finds. -/
def qPl (f p : Nat) (r : List UInt8) (L : List Int) : List Int := placesTo (qLoc f p r L) r.length r.length
/-- Amounts put in, one behind the other. -/
def putTo (word : List UInt8) (PL : List Int) (Y : List UInt8) : Nat → List UInt8
  | 0 => word
  | i + 1 => (putTo word PL Y i).set (PL.getD i 0).toNat (cf (putTo word PL Y i) (PL.getD i 0).toNat ^^^ cf Y i)
theorem putTo_length (word : List UInt8) (PL : List Int) (Y : List UInt8) : ∀ k, (putTo word PL Y k).length = word.length
  | 0 => rfl
  | k + 1 => by rw [putTo, List.length_set, putTo_length word PL Y k]
theorem putTo_at (word : List UInt8) (PL : List Int) (Y : List UInt8) (hPL : ∀ i, i < PL.length → ∃ q : Nat, PL.getD i 0 = (q : Int) ∧ q < word.length) (x : Nat) : ∀ k, k ≤ PL.length → cf (putTo word PL Y k) x = cf word x ^^^ sg (fun j => if (PL.getD j 0).toNat = x then cf Y j else 0) k
  | 0, _ => by show _ = _ ^^^ 0; rw [xor_zero']; rfl
  | k + 1, hk => by
    obtain ⟨q, hq, hql⟩ := hPL k (by omega)
    have ih := putTo_at word PL Y hPL x k (by omega)
    rw [putTo, cf_set _ _ _ _ (by rw [putTo_length, hq]; exact hql)]
    show _ = _ ^^^ (sg _ k ^^^ (if (PL.getD k 0).toNat = x then cf Y k else 0))
    by_cases h : x = (PL.getD k 0).toNat
    · rw [if_pos h, if_pos h.symm, ← h, ih, UInt8.xor_assoc]
    · rw [if_neg h, if_neg (fun e => h e.symm), xor_zero', ih]
/-- What the document's mended answers. -/
def MdIs (f p : Nat) (r : List UInt8) (L : List Int) (X : List UInt8) : Prop :=
  (X = [] ∧ (p < (qPl f p r L).length ∨ ∃ Y, AmIs (qPl f p r L).length (amA f r.length (syns f p r) (qPl f p r L)) Y ∧ Y.length ≠ (qPl f p r L).length)) ∨
  ∃ Y, AmIs (qPl f p r L).length (amA f r.length (syns f p r) (qPl f p r L)) Y ∧ X = putTo r (qPl f p r L) Y (qPl f p r L).length
theorem MdIs.len {f p : Nat} {r : List UInt8} {L : List Int} {X : List UInt8} (h : MdIs f p r L X) : X = [] ∨ X.length = r.length := by
  rcases h with ⟨h, _⟩ | ⟨Y, _, rfl⟩
  · exact .inl h
  · exact .inr (putTo_length _ _ _ _)
theorem places_nat (loc : List UInt8) (n i : Nat) (h : i < (placesTo loc n n).length) : ∃ q : Nat, (placesTo loc n n).getD i 0 = (q : Int) ∧ q < n := by
  have := places_in loc n n i h
  exact ⟨((placesTo loc n n).getD i 0).toNat, by omega, by omega⟩
theorem getD_mem {l : List Int} {i : Nat} (h : i < l.length) : l.getD i 0 ∈ l := by
  rw [List.getD_eq_getElem?_getD, List.getElem?_eq_getElem h]; exact List.getElem_mem h
theorem getD_inj {l : List Int} (hn : l.Nodup) {i j : Nat} (hi : i < l.length) (hj : j < l.length) (h : l.getD i 0 = l.getD j 0) : i = j := by
  rw [List.getD_eq_getElem?_getD, List.getD_eq_getElem?_getD, List.getElem?_eq_getElem hi, List.getElem?_eq_getElem hj] at h
  simp only [Option.getD_some] at h
  rcases Nat.lt_trichotomy i j with hij | hij | hij
  · exact absurd h (List.pairwise_iff_getElem.1 (List.nodup_iff_pairwise_ne.1 hn) i j hi hj hij)
  · exact hij
  · exact absurd h.symm (List.pairwise_iff_getElem.1 (List.nodup_iff_pairwise_ne.1 hn) j i hj hi hij)
theorem doc_mends {f p : Nat} (hp1 : 1 ≤ p) (hp : p ≤ 254) (r c : List UInt8) (h1 : p < r.length) (h2 : r.length ≤ 255) (hlen : c.length = r.length) (hg : ∀ i, i < p → syn f c i = 0) (L : List Int) (hL : areS L r.length = true) (hb : 2 * (turnP r c L).length + L.length ≤ p) {X : List UInt8} (hX : MdIs f p r L X) : X = c := by
  have hKn := allP_nodup (c := c) hL
  have hKl : ∀ k ∈ allP r c L, k < r.length := fun k hk => allP_lt hL hk
  have hK5 : ∀ k ∈ allP r c L, k < 255 := fun k hk => by have := hKl k hk; omega
  have hKlen : (allP r c L).length = L.length + (turnP r c L).length := by unfold allP; rw [List.length_append, lostP_length]
  have hloc : cf (qLoc f p r L) = pol (allP r c L) := doc_loc hp1 hp r c h1 h2 hlen hg L hL hb
  have hlt : Tidy (qLoc f p r L) := mul_tidy one_d _ _
  have hll : (qLoc f p r L).length = (allP r c L).length + 1 := tidy_len hlt (by rw [hloc]; exact pol_low _) (by rw [hloc]; exact pol_top _)
  have hmem : ∀ i : Nat, i < r.length → ((i : Int) ∈ qPl f p r L ↔ r.length - 1 - i ∈ allP r c L) := fun i hi => by
    have hx : pwI 29 2 ((i : Int) + 1 - (r.length : Int)) = xi (r.length - 1 - i) := by
      unfold xi
      congr 1
      omega
    have hev : evalS 29 (pwI 29 2 ((i : Int) + 1 - (r.length : Int))) (qLoc f p r L) = 0 ↔ r.length - 1 - i ∈ allP r c L := by
      rw [hx, eval_sEv _ _ (n := (allP r c L).length + 3) (by omega), hloc]
      exact pol_at (by omega) _ hK5 (Nat.le_refl _)
    unfold qPl
    rw [mem_places]
    constructor
    · rintro ⟨j, _, hj, h0⟩
      have : j = i := by omega
      subst this
      exact hev.1 h0
    · intro h
      exact ⟨i, hi, rfl, hev.2 h⟩
  have hdn : (qPl f p r L).Nodup := nodup_places _ _ _
  have hnat : ∀ i, i < (qPl f p r L).length → ∃ q : Nat, (qPl f p r L).getD i 0 = (q : Int) ∧ q < r.length := fun i hi => places_nat _ _ i hi
  have hcount : (qPl f p r L).length = (allP r c L).length := by
    have := nodup_len (α := Int) (l := qPl f p r L) (m := (allP r c L).map fun (k : Nat) => (r.length : Int) - 1 - (k : Int)) hdn (by
      rw [List.nodup_iff_pairwise_ne, List.pairwise_map]
      exact (List.nodup_iff_pairwise_ne.1 hKn).imp (fun h he => h (by omega))) (fun x => by
      constructor
      · intro hx
        obtain ⟨i, hi, rfl, _⟩ := (mem_places _ _ x _).1 hx
        exact List.mem_map.2 ⟨r.length - 1 - i, (hmem i hi).1 hx, by omega⟩
      · intro hx
        obtain ⟨k, hk, rfl⟩ := List.mem_map.1 hx
        have hkl := hKl k hk
        have h3 := (hmem (r.length - 1 - k) (by omega)).2 (by rw [show r.length - 1 - (r.length - 1 - k) = k by omega]; exact hk)
        rw [show ((r.length - 1 - k : Nat) : Int) = (r.length : Int) - 1 - (k : Int) by omega] at h3
        exact h3)
    rw [this, List.length_map]
  generalize hPL : qPl f p r L = PL at *
  have hkp : PL.length ≤ p := by omega
  -- the powers of the places
  have hP : ∀ j, j < PL.length → r.length - 1 - (PL.getD j 0).toNat < r.length := fun j hj => by omega
  have hPi : ∀ a b, a < PL.length → b < PL.length → r.length - 1 - (PL.getD a 0).toNat = r.length - 1 - (PL.getD b 0).toNat → a = b := fun a b ha hb he => by
    obtain ⟨qa, e1, e2⟩ := hnat a ha
    obtain ⟨qb, e3, e4⟩ := hnat b hb
    refine getD_inj hdn ha hb ?_
    rw [e1, e3] at he ⊢
    simp only [Int.toNat_natCast] at he
    omega
  have hsup : ∀ k, er r c k ≠ 0 → k ∈ (List.range PL.length).map fun j => r.length - 1 - (PL.getD j 0).toNat := fun k hk => by
    have h3 := allP_supp (L := L) hlen hk
    have hkl := hKl k h3
    have h4 := (hmem (r.length - 1 - k) (by omega)).2 (by rw [show r.length - 1 - (r.length - 1 - k) = k by omega]; exact h3)
    obtain ⟨j, hj, he⟩ := List.mem_iff_getElem.1 h4
    refine List.mem_map.2 ⟨j, List.mem_range.2 hj, ?_⟩
    rw [List.getD_eq_getElem?_getD, List.getElem?_eq_getElem hj, he]
    simp only [Option.getD_some, Int.toNat_natCast]
    omega
  have hsol : ∀ i, i < PL.length → dot (amA f r.length (syns f p r) PL i) (fun j => er r c (r.length - 1 - (PL.getD j 0).toNat)) PL.length = amA f r.length (syns f p r) PL i PL.length := fun i hi => by
    have e1 : amA f r.length (syns f p r) PL i PL.length = syn f r i := by
      unfold amA
      rw [if_neg (Nat.lt_irrefl _), syns_at f p r i (by omega)]
    rw [e1, syn_sig (p := p) hlen hg _ (nodup_map_inj hPi) (fun k hk => by
      obtain ⟨j, hj, rfl⟩ := List.mem_map.1 hk
      exact hP j (List.mem_range.1 hj)) hsup i (by omega), sig_at, sl_map]
    exact sg_ext _ fun j hj => by
      unfold ya amA
      rw [if_pos hj, bm_pows]
  have hno : ∀ Y, AmIs PL.length (amA f r.length (syns f p r) PL) Y → Y = (List.range PL.length).map fun j => er r c (r.length - 1 - (PL.getD j 0).toNat) := fun Y hY => by
    rcases hY with ⟨_, i, A, hi, hG, hz⟩ | ⟨A, hG, rfl⟩
    · obtain ⟨y, hy1, hy⟩ := hG.stuck hi hz
      have h0 := vdm (f := f) h2 hP hPi (y := y) (fun t ht => by
        rw [← hy t ht]
        exact dot_ext fun j hj => by unfold amA; rw [if_pos hj]) i hi
      rw [hy1] at h0
      exact absurd h0 (by decide)
    · exact rng_ext fun j hj => hG.done hsol j hj
  have hfin : ∀ Y, AmIs PL.length (amA f r.length (syns f p r) PL) Y → putTo r PL Y PL.length = c := fun Y hY => by
    have hYe := hno Y hY
    refine cf_ext (by rw [putTo_length, hlen]) fun x hx => ?_
    rw [putTo_length] at hx
    rw [putTo_at r PL Y hnat x _ (Nat.le_refl _)]
    have hcf : ∀ j, j < PL.length → cf Y j = er r c (r.length - 1 - (PL.getD j 0).toNat) := fun j hj => by
      rw [hYe, cf_map, if_pos hj]
    by_cases hin : (x : Int) ∈ PL
    · obtain ⟨j, hj, he⟩ := List.mem_iff_getElem.1 hin
      have hjx : PL.getD j 0 = (x : Int) := by
        rw [List.getD_eq_getElem?_getD, List.getElem?_eq_getElem hj, he]; rfl
      rw [show sg (fun j' => if (PL.getD j' 0).toNat = x then cf Y j' else 0) PL.length = sg (fun j' => if j' = j then cf Y j else 0) PL.length from sg_ext _ fun j' hj' => by
        by_cases h : j' = j
        · subst h; rw [if_pos rfl, if_pos (by rw [hjx]; rfl)]
        · rw [if_neg h, if_neg (fun e => h (getD_inj hdn hj' hj (by
            obtain ⟨q, e1, e2⟩ := hnat j' hj'
            rw [hjx]
            omega)))], sg_one _ _ _ hj, hcf j hj, hjx, Int.toNat_natCast, er_at hlen hx, ← UInt8.xor_assoc, UInt8.xor_self, UInt8.zero_xor]
    · rw [sg_zero _ fun j hj => if_neg fun e => hin (by
        obtain ⟨q, e1, e2⟩ := hnat j hj
        rw [e1, Int.toNat_natCast] at e
        rw [← e, ← e1]; exact getD_mem hj), xor_zero']
      have h0 : er r c (r.length - 1 - x) = 0 := Classical.byContradiction fun hne => hin ((hmem x hx).2 (allP_supp hlen hne))
      rw [er_at hlen hx] at h0
      exact xor_zero_eq h0
  rcases hX with ⟨rfl, h3⟩ | ⟨Y, hY, rfl⟩
  · rw [hPL] at h3
    rcases h3 with h3 | ⟨Y, hY, hne⟩
    · omega
    · refine absurd ?_ hne
      rw [hno Y hY, List.length_map, List.length_range]
  · rw [hPL] at hY ⊢
    exact hfin Y hY
end Go.Proofs.Ytdpkeffkpecmjaa
/- What the document's mended answers. -/
namespace Go.Proofs.Ytdpkeffkpecmjaa
open Go.RowKit
set_option linter.unusedVariables false

theorem rfac_len {p lost : Nat} (hl : lost ≤ p) (t : List UInt8) (ht : t.length ≤ p) : (rFac p ((p + lost) / 2) t).length ≤ p + 2 := by
  have h1 := trim_len t
  have h2 := (doc_short (p := p) (lost := lost) (trimS t) (trim_tidy t) (by omega) hl).2.2
  unfold rFac
  split
  · simp
  · have h3 := mul_len 29 (rDiB p ((p + lost) / 2) (trimS t)) [inv 29 (cf (rDiB p ((p + lost) / 2) (trimS t)) 0)]
    have h4 : (rDiB p ((p + lost) / 2) (trimS t)).length = (rDiv p lost (trimS t)).length := rfl
    simp only [List.length_singleton] at h3
    omega
theorem SlAt.take' {w : World} {a : Option Addr} {n cap m : Nat} {l : List UInt8} (h : SlAt w (.slice a n cap) l) (hm : m ≤ l.length) : SlAt w (.slice a m cap) (l.take m) := by
  obtain ⟨⟨a', c', he, h1, h2⟩, hb⟩ := h
  injection he with e1 e2 e3
  subst e1 e2 e3
  exact ⟨⟨a, cap, by rw [List.length_take, Nat.min_eq_left hm], by rw [List.length_take]; omega, h2⟩, hb.take hm⟩
set_option maxRecDepth 100000 in
set_option maxHeartbeats 6400000 in
theorem mended_any {c p f : Nat} (hp1 : 1 ≤ p) (hp : p ≤ 254) (hf : f ≤ 254) (r : List UInt8) (h1 : p < r.length) (h2 : r.length ≤ 255) (L : List Int) (hL : areS L r.length = true) (hfew : L.length ≤ p) (vw vl : Value) (w : World) (hc : RkAt w c p f) (hvw : SlAt w vw r) (hvl : IlAt w vl L) :
    Calls Try.prog 49 #[.pointer (some ⟨c, 0, none⟩), vw, vl] w fun e w' => ∃ u X, e = .returned u ∧ SlAt w' u X ∧ MdIs f p r L X ∧ Below w.heap.size w w' := by
  have HCD := hidD hc
  have HVW := hidD hvw
  have HVL := hidD hvl
  have HFI := hidD (refField_any w)
  have HSY := hidD (fun w' (h : Below w.heap.size w w') => rkSyn_ok hp hf r h1 h2 vw w' (HCD.out.next h) (HVW.out.next h))
  have HAL : Hid (∀ (w' : World) o, Below w'.heap.size w' (w'.alloc o)) := fun w' o => (Below.refl _ _).alloc (Nat.le_refl _) o
  have HS1 : Hid (∀ w' : World, SlAt (w'.alloc (.cells #[.int .u8 1] (5 : TypeId))) (.slice (some ⟨w'.heap.size, 0, none⟩) 1 1) [1]) := fun w' => sl_new w' [1] _ 1 rfl rfl (by omega)
  have HS2 : Hid (∀ (w' : World) (x : UInt8), SlAt (w'.alloc (.cells #[.int .u8 1, .int .u8 (x.toNat : Int)] (5 : TypeId))) (.slice (some ⟨w'.heap.size, 0, none⟩) 2 2) [1, x]) := fun w' x => sl_new w' [1, x] _ 2 rfl rfl (by omega)
  have HX : Hid (∀ (b : Nat) (n : Int) (w : World), RfAt w b 29 2 → Calls Try.prog 43 #[.pointer (some ⟨b, 0, none⟩), .int .i64 n] w fun e w' => e = .returned (.int .u8 ((pwI 29 2 n).toNat : Int)) ∧ w' = w) := fun b n w hf => refExp_any n w hf
  have HTM : Hid (∀ (b : Nat) (k : Nat) (z : Int) vp vq w', k < L.length → (powS L r.length).getD k 0 = z → RfAt w' b 29 2 → SlAt w' vp (ofTo (powS L r.length) k) → SlAt w' vq [1, pwI 29 2 z] → Calls Try.prog 45 #[.pointer (some ⟨b, 0, none⟩), vp, vq] w' fun e w2 => ∃ v, e = .returned v ∧ SlAt w2 v (ofTo (powS L r.length) (k + 1)) ∧ Below w'.heap.size w' w2) := fun b k z vp vq w' hk hz hf h1 h2 => by
    have hl := ofTo_len (powS L r.length) k
    have := refTimes_all (ofTo (powS L r.length) k) [1, pwI 29 2 z] (by simp; omega) vp vq w' hf h1 h2
    rw [← hz] at this
    exact this
  have HLX : Hid (∀ k, k < L.length → ∃ x : Nat, L.getD k 0 = (x : Int) ∧ x < r.length ∧ (powS L r.length).getD k 0 = (r.length : Int) - 1 - (x : Int)) := fun k hk => by
    have := are_at hL k hk
    refine ⟨(L.getD k 0).toNat, by omega, by omega, ?_⟩
    rw [show ((L.getD k 0).toNat : Int) = L.getD k 0 by omega]
    unfold powS
    rw [List.getD_eq_getElem?_getD, List.getElem?_map, List.getD_eq_getElem?_getD, List.getElem?_eq_getElem hk]; rfl
  obtain ⟨al, cl, rfl, hcl1, hcl2, hlc⟩ := hvl
  have HLC := hidD hlc
  obtain ⟨⟨aw, cw, rfl, hcw1, hcw2⟩, hwb⟩ := hvw
  have hpl : (powS L r.length).length = L.length := by simp [powS]
  have HGO : Hid (ofTo (powS L r.length) L.length = ofTo (powS L r.length) (powS L r.length).length) := by show _ = _; rw [hpl]
  have HGL : Hid ((ofTo (powS L r.length) (powS L r.length).length).length ≤ 600) := by
    have := ofTo_len (powS L r.length) (powS L r.length).length
    show _ ≤ _
    omega
  have HSL : Hid ((syns f p r).length = p) := by show _ = _; simp [syns]
  clear hlc hwb hpl hc hL
  obtain ⟨T, hT⟩ : ∃ T, T = mulS 29 (syns f p r) (ofTo (powS L r.length) (powS L r.length).length) := ⟨_, rfl⟩
  have HTT := hidD hT
  have HTB : Hid (T.length ≤ 900) := by
    have := mul_len 29 (syns f p r) (ofTo (powS L r.length) (powS L r.length).length)
    have h3 := HGL.out
    have h4 := HSL.out
    show _ ≤ _
    rw [hT]; omega
  have HQL : Hid (qLoc f p r L = mulS 29 (rFac p ((p + L.length) / 2) (T.take p)) (ofTo (powS L r.length) (powS L r.length).length)) := by show _ = _; rw [hT]; rfl
  clear hT
  have HQN : Hid (qPl f p r L = placesTo (qLoc f p r L) r.length r.length) := rfl
  have HTL := hidD (rfac_len hfew (T.take p) (by rw [List.length_take]; omega))
  generalize hnn : r.length = n at *
  generalize hll : L.length = ll at *
  have HN := hidD hnn
  have HLL := hidD hll
  clear hnn hll
  have f0 := HCD.out.c0
  go_enter Try.func49, Try.ntmps49
  go_wp2_with (first
    | (go_at_call 37; refine HFI.out.mono ?_; rintro e w2 ⟨b, rfl, _, hf2, hb2⟩; have HF2 := hidD hf2; have HB2 := hidD hb2; clear hf2 hb2)
    | (go_at_call 15; refine (HSY.out _ HB2.out).mono ?_; rintro e w3 ⟨a3, k3, rfl, hs3, hb3⟩; have HS3 := hidD hs3; have HF3 := hidD (HF2.out.next hb3); have HB3 := hidD (Below.next HB2.out hb3); clear hs3 hb3))
  have HG0 : Hid (SlAt (w3.alloc (.cells #[.int .u8 1] (5 : TypeId))) (.slice (some ⟨w3.heap.size, 0, none⟩) 1 1) (ofTo (powS L n) 0)) := HS1.out w3
  have HB4 : Hid (Below w3.heap.size w3 (w3.alloc (.cells #[.int .u8 1] (5 : TypeId)))) := HAL.out _ _
  go_loopw [11, 12] (fun o i wr => ∃ k : Nat, k ≤ ll ∧ i = .int .i64 k ∧ SlAt wr o (ofTo (powS L n) k) ∧ Below w3.heap.size w3 wr) (fun _ i _ => ll - (intOf i).toNat)
  case atStart => exact ⟨0, Nat.zero_le _, rfl, HG0.out, HB4.out⟩
  case round =>
    obtain ⟨k, hk, rfl, hso, hbel⟩ := hrel
    have HSO := hidD hso
    have HBW := hidD hbel
    by_cases hlt : k < ll
    · have hlti : (k : Int) < ll := by omega
      obtain ⟨gl, ol, rfl, hgl, hcl⟩ := HLC.out k hlt
      obtain ⟨x, hx, hxn, hpx⟩ := HLX.out k hlt
      rw [hx] at hcl
      have hxni : (x : Int) < n := by omega
      have f1 : wr.cell? ⟨gl, ol + k, none⟩ = some (.int .i64 (x : Int)) := ((Below.next HB3.out hbel).cell (p := ⟨gl, ol + k, none⟩) hgl).trans hcl
      have HTK := hidD (fun b vp vq w' => HTM.out b k _ vp vq w' hlt hpx)
      have HFW := hidD (HF3.out.next hbel)
      clear hso hbel hcl hx hpx
      go_wp2_with (first
        | (go_at_call 43; refine (HX.out _ _ _ HFW.out).mono ?_; rintro e w5 ⟨rfl, hw5⟩; subst w5)
        | (go_at_call 45; refine (HTK.out _ _ _ _ (HFW.out.next (HAL.out _ _)) (HSO.out.next (HAL.out _ _)) (HS2.out _ _)).mono ?_; rintro e w6 ⟨v6, rfl, hs6, hb6⟩; have HS6 := hidD hs6; have HB6 := hidD (Below.next (Below.next HBW.out (HAL.out _ _)) hb6); clear hs6 hb6))
      go_roundw
      case rel => exact ⟨k + 1, by omega, by go_num, HS6.out, HB6.out⟩
      case measure => simp [intOf]; omega
    · obtain rfl : ll = k := by omega
      have hso' := hso
      rw [HGO.out] at hso'
      have HGN := hidD hso'
      clear hso hso' HSO
      have HF4 := hidD (HF3.out.next hbel)
      have HS4 := hidD (HS3.out.next hbel)
      have HB4w := hidD (Below.next HB3.out hbel)
      clear hbel
      have HT1 : Hid (∀ b vp vq w', RfAt w' b 29 2 → SlAt w' vp (syns f p r) → SlAt w' vq (ofTo (powS L n) (powS L n).length) → Calls Try.prog 45 #[.pointer (some ⟨b, 0, none⟩), vp, vq] w' fun e w2 => ∃ v, e = .returned v ∧ SlAt w2 v T ∧ Below w'.heap.size w' w2) := fun b vp vq w' hf h1 h2 => by
        have h3 := HGL.out
        have h4 := HSL.out
        have := refTimes_all (syns f p r) (ofTo (powS L n) (powS L n).length) (by omega) vp vq w' hf h1 h2
        rw [← HTT.out] at this
        exact this
      have HDV : Hid (∀ v w', RkAt w' c p f → SlAt w' v (T.take p) → Calls Try.prog 65 #[.pointer (some ⟨c, 0, none⟩), v, .int .i64 (((p + ll) / 2 : Nat) : Int)] w' fun e w2 => ∃ u, e = .returned u ∧ SlAt w2 u (rFac p ((p + ll) / 2) (T.take p)) ∧ Below w'.heap.size w' w2) := fun v w' hc hs => divisor_any hp _ (T.take p) (by rw [List.length_take]; omega) v w' hc hs
      have HT2 : Hid (∀ b vp vq w', RfAt w' b 29 2 → SlAt w' vp (rFac p ((p + ll) / 2) (T.take p)) → SlAt w' vq (ofTo (powS L n) (powS L n).length) → Calls Try.prog 45 #[.pointer (some ⟨b, 0, none⟩), vp, vq] w' fun e w2 => ∃ v, e = .returned v ∧ SlAt w2 v (qLoc f p r L) ∧ Below w'.heap.size w' w2) := fun b vp vq w' hf h1 h2 => by
        have h3 := HGL.out
        have h4 := HTL.out
        have := refTimes_all (rFac p ((p + ll) / 2) (T.take p)) (ofTo (powS L n) (powS L n).length) (by omega) vp vq w' hf h1 h2
        rw [← HQL.out] at this
        exact this
      have hq1 : ((p : Int) + (ll : Int)).tdiv 2 = (((p + ll) / 2 : Nat) : Int) := by rw [Int.tdiv_eq_ediv_of_nonneg (by omega)]; omega
      have hq2 : ((p : Int) + (ll : Int)) / 2 = (((p + ll) / 2 : Nat) : Int) := by omega
      generalize (p + ll) / 2 = BD at *
      generalize ofTo (powS L n) (powS L n).length = GO at *
      generalize hloc : qLoc f p r L = loc at *
      clear hloc
      have htb := HTB.out
      go_upto_if 59 with (go_at_call 45; refine (HT1.out _ _ _ _ HF4.out HS4.out HGN.out).mono ?_; rintro e w7 ⟨v7, rfl, hs7, hb7⟩; have HT7 := hidD hs7; obtain ⟨⟨a7, c7, hv7, hc71, hc72⟩, _⟩ := hs7; subst hv7; have HF7 := hidD (HF4.out.next hb7); have HS7 := hidD (HS4.out.next hb7); have HG7 := hidD (HGN.out.next hb7); have HB7 := hidD (Below.next HB4w.out hb7); have f7 : w7.cell? ⟨c, 0, none⟩ = some (.int .i64 p) := (HCD.out.next HB7.out).c0; clear hb7)
      go_cut [13] from 53 (fun x wx => SlAt wx x (T.take p) ∧ wx = w7)
      case first =>
        by_cases hTp : p < T.length
        · have HTK : Hid (SlAt w7 (.slice a7 p c7) (T.take p)) := HT7.out.take' (by omega)
          have hTi : (p : Int) < T.length := by omega
          have hpc : p ≤ c7 := by omega
          generalize T.length = TL at *
          go_wp2_with fail
          go_meet
          exact ⟨HTK.out, rfl⟩
        · have HTK : Hid (SlAt w7 (.slice a7 T.length c7) (T.take p)) := by
            show SlAt _ _ _
            rw [List.take_of_length_le (by omega)]; exact HT7.out
          have hTi : ¬ (p : Int) < T.length := by omega
          generalize T.length = TL at *
          go_wp2_with fail
          go_meet
          exact ⟨HTK.out, rfl⟩
      case rest =>
      obtain ⟨hs8, hw8⟩ := hcut
      subst wc
      have HT8 := hidD hs8
      clear hs8
      go_wp2_with (first
        | (go_at_call 65; refine (HDV.out _ _ (HCD.out.next HB7.out) HT8.out).mono ?_; rintro e w8 ⟨v8, rfl, hs8, hb8⟩; have HR8 := hidD hs8; have HF8 := hidD (HF7.out.next hb8); have HS8 := hidD (HS7.out.next hb8); have HG8 := hidD (HG7.out.next hb8); have HB8 := hidD (Below.next HB7.out hb8); clear hs8 hb8)
        | (go_at_call 45; refine (HT2.out _ _ _ _ HF8.out HR8.out HG8.out).mono ?_; rintro e w9 ⟨v9, rfl, hs9, hb9⟩; have HL9 := hidD hs9; have HF9 := hidD (HF8.out.next hb9); have HS9 := hidD (HS8.out.next hb9); have HB9 := hidD (Below.next HB8.out hb9); clear hs9 hb9))
      have HEV : Hid (∀ (b k : Nat) (v : Value) (w' : World), RfAt w' b 29 2 → SlAt w' v loc → Calls Try.prog 42 #[.pointer (some ⟨b, 0, none⟩), v, .int .u8 ((pwI 29 2 (-((n : Int) - 1 - (k : Int)))).toNat : Int)] w' fun e w2 => e = .returned (.int .u8 ((evalS 29 (pwI 29 2 ((k : Int) + 1 - (n : Int))) loc).toNat : Int)) ∧ Below w'.heap.size w' w2) := fun b k v w' hf hs => by
        have := refEval_any loc (pwI 29 2 (-((n : Int) - 1 - (k : Int)))) v w' hf hs
        rw [show -((n : Int) - 1 - (k : Int)) = (k : Int) + 1 - (n : Int) by omega] at this ⊢
        exact this
      have HPN : Hid (∀ k, placesTo loc n (k + 1) = if evalS 29 (pwI 29 2 ((k : Int) + 1 - (n : Int))) loc = 0 then placesTo loc n k ++ [(k : Int)] else placesTo loc n k) := fun k => rfl
      have HPL := hidD (places_len loc n)
      go_loopw [15, 16] (fun o i wr => ∃ k : Nat, k ≤ n ∧ i = .int .i64 k ∧ wr.ownsRow w9.heap.size 3 1 o (placesTo loc n k).length ((placesTo loc n k).map encI) ∧ Below w9.heap.size w9 wr) (fun _ i _ => n - (intOf i).toNat)
      case atStart => exact ⟨0, Nat.zero_le _, rfl, World.ownsRow_nil _ _ _ _, Below.refl _ _⟩
      case round =>
        obtain ⟨k, hk, rfl, hown, hbel⟩ := hrel
        have HOW := hidD hown
        have HBW := hidD hbel
        by_cases hlt : k < n
        · have hlti : (k : Int) < n := by omega
          have hkl := HPL.out k
          have HN2 := hidD (HPN.out k)
          have HFW := hidD (HF9.out.next hbel)
          have HLW := hidD (HL9.out.next hbel)
          have HEK := hidD (fun b v w' => HEV.out b k v w')
          clear hown hbel
          by_cases hz : evalS 29 (pwI 29 2 ((k : Int) + 1 - (n : Int))) loc = 0
          · rw [hz] at HEK
            rw [if_pos hz] at HN2
            clear hz
            have hzz : (((0 : UInt8).toNat : Int) == 0) = true := rfl
            generalize hPP : placesTo loc n k = PP at *
            clear hPP
            generalize hPQ : PP.length = pq at *
            have HPQ := hidD hPQ
            clear hPQ
            obtain ⟨a5, c5, h5⟩ := row_shape HOW.out
            subst h5
            go_wp2_with (first
              | (go_at_call 43; refine (HX.out _ _ _ HFW.out).mono ?_; rintro e w10 ⟨rfl, hw10⟩; subst w10)
              | (go_at_call 42; refine (HEK.out _ _ _ HFW.out HLW.out).mono ?_; rintro e w10 ⟨rfl, hb10⟩; have HO10 := hidD (row_below HOW.out hb10); have HB10 := hidD (Below.next HBW.out hb10); clear hb10)
              | (at_builtin; refine wpList_append_int rfl _ _ rfl w9.heap.size (.slice a5 pq c5) pq (PP.map encI) rfl (HO10.out.alloc _) w10.heap.size (k : Int) rfl (new_cell1 w10 (.int .i64 (k : Int)) 3 0 _ rfl) (by omega) (by have := HB10.out.size; simp; omega) ?_; intro v11 w11 hown11 hg11; have HO11 := hidD hown11; have HB11 := hidD (row_grown (HO10.out.alloc _) (Below.next HB10.out (HAL.out _ _)) hg11 (by have := HB10.out.size; simp; omega)); clear hown11 hg11))
            go_roundw
            case rel => exact ⟨k + 1, by omega, by go_num, by rw [HN2.out, List.length_append, List.map_append, HPQ.out]; exact HO11.out, HB11.out⟩
            case measure => simp [intOf]; omega
          · rw [if_neg hz] at HN2
            have hzi : ¬ ((evalS 29 (pwI 29 2 ((k : Int) + 1 - (n : Int))) loc).toNat : Int) = 0 := fun h => hz (UInt8.toNat.inj (by simpa using h))
            have hzz : (((evalS 29 (pwI 29 2 ((k : Int) + 1 - (n : Int))) loc).toNat : Int) == 0) = false := beq_eq_false_iff_ne.2 hzi
            generalize evalS 29 (pwI 29 2 ((k : Int) + 1 - (n : Int))) loc = EV at *
            go_wp2_with (first
              | (go_at_call 43; refine (HX.out _ _ _ HFW.out).mono ?_; rintro e w10 ⟨rfl, hw10⟩; subst w10)
              | (go_at_call 42; refine (HEK.out _ _ _ HFW.out HLW.out).mono ?_; rintro e w10 ⟨rfl, hb10⟩; have HO10 := hidD (row_below HOW.out hb10); have HB10 := hidD (Below.next HBW.out hb10); clear hb10))
            go_roundw
            case rel => exact ⟨k + 1, by omega, by go_num, by rw [HN2.out]; exact HO10.out, HB10.out⟩
            case measure => simp [intOf]; omega
        · obtain rfl : n = k := by omega
          have HIL : Hid (IlAt wr u15 (placesTo loc n n)) := il_of_own hown
          have HNT := hidD (places_nat loc n)
          have HMW := hidD (Below.next HB9.out hbel)
          have HSW := hidD (HS9.out.next hbel)
          have f8 : wr.cell? ⟨c, 0, none⟩ = some (.int .i64 p) := (HCD.out.next HMW.out).c0
          have HCW := hidD (HCD.out.next HMW.out)
          obtain ⟨a15, c15, h15⟩ := row_shape hown
          subst h15
          clear hown hbel HOW
          rw [← HQN.out] at HIL HNT
          have HMD : Hid (∀ X, ((X = [] ∧ (p < (qPl f p r L).length ∨ ∃ Y, AmIs (qPl f p r L).length (amA f n (syns f p r) (qPl f p r L)) Y ∧ Y.length ≠ (qPl f p r L).length)) ∨ ∃ Y, AmIs (qPl f p r L).length (amA f n (syns f p r) (qPl f p r L)) Y ∧ X = putTo r (qPl f p r L) Y (qPl f p r L).length) → MdIs f p r L X) := fun X h => by
            have h3 := h
            unfold MdIs
            rw [HN.out]
            exact h3
          rw [← HQN.out]
          generalize hPL : qPl f p r L = PL at *
          clear hPL
          have HAM : Hid (∀ vs vp w', RkAt w' c p f → SlAt w' vs (syns f p r) → IlAt w' vp PL → PL.length ≤ p → Calls Try.prog 66 #[.pointer (some ⟨c, 0, none⟩), vs, vp, .int .i64 n] w' fun e w2 => ∃ u X, e = .returned u ∧ SlAt w2 u X ∧ AmIs PL.length (amA f n (syns f p r) PL) X ∧ Below w'.heap.size w' w2) := fun vs vp w' hc hs hv hle => amounts_any hp hf (syns f p r) PL n h2 HNT.out (by rw [HSL.out]; exact hle) (by omega) vs vp w' hc hs hv
          have HPU := hidD (putTo_length r PL)
          generalize hpk : PL.length = kp at *
          have HPK := hidD hpk
          clear hpk
          by_cases hmany : p < kp
          · have hmi : (p : Int) < kp := by omega
            go_wp2_with fail
            refine bodyPost_ret (v := .slice none 0 0) (by simp [results, Try.results49, go_sem]) rfl ?_
            exact ⟨_, [], rfl, SlAt.nil _, HMD.out _ (.inl ⟨rfl, .inl hmany⟩), HMW.out⟩
          · have hmi : ¬ (p : Int) < kp := by omega
            have hle : kp ≤ p := by omega
            obtain ⟨wo, hwo⟩ : ∃ wo, wo = wr := ⟨_, rfl⟩
            subst hwo
            go_upto_if 116 with (go_at_call 66; refine (HAM.out _ _ _ HCW.out HSW.out HIL.out hle).mono ?_; rintro e w10 ⟨v10, Y, rfl, hs10, ha10, hb10⟩; have HY10 := hidD hs10; have HA10 := hidD ha10; have HI10 := hidD (HIL.out.next hb10); have HB10 := hidD (Below.next HMW.out hb10); obtain ⟨⟨aY, cY, hvY, hcY1, hcY2⟩, _⟩ := hs10; subst hvY; clear ha10 hb10)
            by_cases hne : Y.length = kp
            · have HYL := hidD hne
              rw [hne] at HY10 ⊢
              clear hne
              have hpp : ((kp : Int) != kp) = false := by simp
              have hpb : ((kp : Int) == kp) = true := beq_self_eq_true _
              have HNE : Hid (r ≠ []) := fun h => by
                have h3 := HN.out
                rw [h] at h3
                simp at h3
                omega
              have HPT : Hid (∀ k, putTo r PL Y (k + 1) = (putTo r PL Y k).set (PL.getD k 0).toNat (cf (putTo r PL Y k) (PL.getD k 0).toNat ^^^ cf Y k)) := fun k => rfl
              have HP0 : Hid (putTo r PL Y 0 = r) := rfl
              have HBP : Hid (Below w.heap.size w w10) := HB10.out
              go_wp2_with (at_builtin; refine wpList_append_fresh rfl _ _ rfl ⟨w10.heap.size, 0, none⟩ rfl (.slice aw n cw) r rfl ((HVW.out.by'.next HB10.out).next (HAL.out _ _)) (by rw [HN.out]; omega) (by rw [HN.out]; omega) ?_; intro c11 w11 h81 h82 h83 h84; rw [HN.out] at h81; have H1 := hidD h81; have H2 := hidD h82; have H3 := hidD h83; have H4 := hidD (Below.next (HAL.out _ _) h84); clear h81 h82 h83 h84)
              have HRX : Hid (RowX w11 (w10.heap.size + 1) (putTo r PL Y 0)) := by
                have := H3.out
                rwa [show (w10.alloc (.cells #[] (5 : TypeId))).heap.size = w10.heap.size + 1 by simp] at this
              have HGE : Hid (w10.heap.size ≤ w10.heap.size + 1) := Nat.le_succ _
              generalize hgX : w10.heap.size + 1 = gX at *
              clear hgX
              try rw [HN.out]
              go_loopw [19] (fun i wr => ∃ k : Nat, k ≤ kp ∧ i = .int .i64 k ∧ RowX wr gX (putTo r PL Y k) ∧ Below w10.heap.size w10 wr) (fun i _ => kp - (intOf i).toNat)
              case atStart => exact ⟨0, Nat.zero_le _, rfl, HRX.out, H4.out⟩
              case round =>
                obtain ⟨k, hk, rfl, hrx, hbel⟩ := hrel
                have HRW := hidD hrx
                have HBW := hidD hbel
                by_cases hlt : k < kp
                · have hlti : (k : Int) < kp := by omega
                  obtain ⟨q, hq, hqn⟩ := HNT.out k hlt
                  obtain ⟨gp, op, hgp, hcp, hae⟩ : ∃ gp op, gp < w10.heap.size ∧ w10.cell? ⟨gp, op + k, none⟩ = some (.int .i64 (q : Int)) ∧ a15 = some ⟨gp, op, none⟩ := by
                    obtain ⟨a', c', he, _, _, hcells⟩ := HI10.out
                    injection he with e1 e2 e3
                    obtain ⟨gp, op, h1, h2, h3⟩ := hcells k (by rw [HPK.out]; exact hlt)
                    rw [hq] at h3
                    exact ⟨gp, op, h2, h3, by rw [e1, h1]⟩
                  obtain ⟨gy, oy, hgy, hcy, hay⟩ : ∃ gy oy, gy < w10.heap.size ∧ w10.cell? ⟨gy, oy + k, none⟩ = some (.int .u8 ((cf Y k).toNat : Int)) ∧ aY = some ⟨gy, oy, none⟩ := by
                    rcases HY10.out.by' with ⟨h0, _⟩ | ⟨g', o', c', he, h1, h2⟩
                    · have := HYL.out
                      rw [h0] at this
                      simp at this
                      omega
                    · injection he with e1 e2 e3
                      exact ⟨g', o', h1, h2 k (by rw [HYL.out]; exact hlt), e1⟩
                  subst hae hay
                  have hqni : (q : Int) < n := by omega
                  have HLN : Hid (q < (putTo r PL Y k).length) := by show _ < _; rw [HPU.out, HN.out]; exact hqn
                  have HPS : Hid (putTo r PL Y (k + 1) = (putTo r PL Y k).set q (cf (putTo r PL Y k) q ^^^ cf Y k)) := by
                    show _ = _
                    rw [HPT.out, hq, Int.toNat_natCast]
                  have hxr := xor_u8m (cf (putTo r PL Y k) q) (cf Y k)
                  have hcb : wr.cell? ⟨gX, q, none⟩ = some (.int .u8 ((cf (putTo r PL Y k) q).toNat : Int)) := hrx.cell HLN.out
                  have hcd : wr.drew.cell? ⟨gX, q, none⟩ = some (.int .u8 ((cf (putTo r PL Y k) q).toNat : Int)) := hcb
                  have hfd : wr.drew.frozen? ⟨gX, q, none⟩ = false := hrx.frozen q
                  have f1 : ∀ i : KB wr [gp, gX, gy], i.v.cell? ⟨gp, op + k, none⟩ = some (.int .i64 (q : Int)) := fun i => (i.cell (b := gp) (by simp) _).trans ((hbel.cell (p := ⟨gp, op + k, none⟩) hgp).trans hcp)
                  have f2 : ∀ i : KB wr [gp, gX, gy], i.v.cell? ⟨gX, q, none⟩ = some (.int .u8 ((cf (putTo r PL Y k) q).toNat : Int)) := fun i => (i.cell (b := gX) (by simp) _).trans hcb
                  have f3 : ∀ i : KB wr [gp, gX, gy], i.v.cell? ⟨gy, oy + k, none⟩ = some (.int .u8 ((cf Y k).toNat : Int)) := fun i => (i.cell (b := gy) (by simp) _).trans ((hbel.cell (p := ⟨gy, oy + k, none⟩) hgy).trans hcy)
                  have HRS : Hid (RowX (wr.drew.setCell ⟨gX, q, none⟩ (.int .u8 ((cf (putTo r PL Y k) q ^^^ cf Y k).toNat : Int))) gX (putTo r PL Y (k + 1))) := by
                    show RowX _ _ _
                    rw [HPS.out]
                    exact (hrx.next ((Below.refl _ _).drew)).set HLN.out _
                  have HBS : Hid (Below w10.heap.size w10 (wr.drew.setCell ⟨gX, q, none⟩ (.int .u8 ((cf (putTo r PL Y k) q ^^^ cf Y k).toNat : Int)))) := (hbel.drew).setCell (p := ⟨gX, q, none⟩) HGE.out _
                  generalize cf (putTo r PL Y k) q ^^^ cf Y k = Z at *
                  generalize cf (putTo r PL Y k) q = U at *
                  generalize cf Y k = V at *
                  clear hrx hbel hcp hcy hcb hq
                  go_wp2_with fail
                  refine wp_region_seg [0, 0, 0, 0, 0, 0, 0, 0, 0, 0, 0, 0, 0, 0, 0, 0, 0, 0, 99] 0 18 [gp, gX, gy] (by kernel_rfl) (by kernel_rfl) (by kernel_rfl) (by kernel_rfl) (by kernel_rfl) (by kernel_rfl) (by kernel_rfl) (by kernel_rfl) (fun _ _ _ _ _ h => h) ?_
                  simp only [SegW, pk, Nat.reduceMul, Nat.reduceBEq, cond_true, cond_false]
                  repeat (go_big_quiet_step (fail))
                  refine wpQuiet_nil ?_
                  go_wp2_with fail
                  go_roundw
                  case rel => exact ⟨k + 1, by omega, by go_num, HRS.out, HBS.out⟩
                  case measure => simp [intOf]; omega
                · obtain rfl : kp = k := by omega
                  have HSX : Hid (SlAt wr (.slice (some ⟨gX, 0, none⟩) n c11) (putTo r PL Y kp)) := RowX.sl hrx (by rw [HPU.out, HN.out]) H1.out H2.out
                  clear hrx hbel
                  go_wp2_with fail
                  refine bodyPost_ret (v := .slice (some ⟨gX, 0, none⟩) n c11) (by simp [results, Try.results49, go_sem]) rfl ?_
                  exact ⟨_, _, rfl, HSX.out, HMD.out _ (.inr ⟨Y, HA10.out, rfl⟩), Below.next HB10.out HBW.out⟩
            · have hpp : ((Y.length : Int) != kp) = true := bne_iff_ne.2 (by omega)
              have hpb : ((Y.length : Int) == kp) = false := beq_eq_false_iff_ne.2 (by omega)
              have HNE := hidD hne
              generalize hyl : Y.length = yl at *
              have HYE := hidD hyl
              clear hne hyl
              go_wp2_with fail
              refine bodyPost_ret (v := .slice none 0 0) (by simp [results, Try.results49, go_sem]) rfl ?_
              exact ⟨_, [], rfl, SlAt.nil _, HMD.out _ (.inl ⟨rfl, .inr ⟨Y, HA10.out, by rw [HYE.out]; exact HNE.out⟩⟩), HB10.out⟩
end Go.Proofs.Ytdpkeffkpecmjaa
/- Plain facts: when the document takes the word that it made; its locator of the places. -/
namespace Go.Proofs.Ytdpkeffkpecmjaa
open Go.RowKit
set_option linter.unusedVariables false

/-- How many among the first k differ, and are not lost. -/
def eTo (X r : List UInt8) (L : List Int) : Nat → Nat
  | 0 => 0
  | k + 1 => if cf X k ≠ cf r k ∧ (k : Int) ∉ L then eTo X r L k + 1 else eTo X r L k
theorem eTo_le (X r : List UInt8) (L : List Int) : ∀ k, eTo X r L k ≤ k
  | 0 => Nat.le_refl _
  | k + 1 => by
    have := eTo_le X r L k
    rw [eTo]; split <;> omega
theorem eTo_len (X r : List UInt8) (L : List Int) : ∀ k, eTo X r L k = ((List.range k).filter fun i => decide (cf X i ≠ cf r i ∧ (i : Int) ∉ L)).length
  | 0 => rfl
  | k + 1 => by
    rw [eTo, List.range_succ, List.filter_append, List.length_append, ← eTo_len X r L k]
    by_cases h : cf X k ≠ cf r k ∧ (k : Int) ∉ L
    · rw [if_pos h, List.filter_cons_of_pos (by simpa using h)]; rfl
    · rw [if_neg h, List.filter_cons_of_neg (by simpa using h)]; rfl
theorem eTo_turn {X r : List UInt8} {L : List Int} (hlen : X.length = r.length) (hL : areS L r.length = true) : eTo X r L r.length = (turnP r X L).length := by
  rw [eTo_len]
  rw [← List.length_map (f := fun i => r.length - 1 - i)]
  refine nodup_len ?_ (turnP_nodup r X L) fun k => ?_
  · rw [List.nodup_iff_pairwise_ne, List.pairwise_map]
    refine List.Pairwise.imp_of_mem ?_ (List.nodup_iff_pairwise_ne.1 (List.Nodup.sublist List.filter_sublist (List.nodup_range (n := r.length))))
    intro a b ha hb hne he
    have h1 := List.mem_range.1 (List.mem_filter.1 ha).1
    have h2 := List.mem_range.1 (List.mem_filter.1 hb).1
    omega
  · rw [turnP_mem]
    constructor
    · intro hk
      obtain ⟨i, hi, rfl⟩ := List.mem_map.1 hk
      obtain ⟨h1, h2⟩ := List.mem_filter.1 hi
      have hi' := List.mem_range.1 h1
      simp only [decide_eq_true_eq] at h2
      refine ⟨by omega, ?_, fun h => h2.2 ((lostP_mem hL hi').1 h)⟩
      rw [er_at hlen hi']
      intro h
      exact h2.1 (xor_zero_eq h).symm
    · rintro ⟨h1, h2, h3⟩
      refine List.mem_map.2 ⟨r.length - 1 - k, List.mem_filter.2 ⟨List.mem_range.2 (by omega), ?_⟩, by omega⟩
      simp only [decide_eq_true_eq]
      have e1 := er_at hlen (show r.length - 1 - k < r.length by omega)
      rw [show r.length - 1 - (r.length - 1 - k) = k by omega] at e1
      refine ⟨fun h => h2 ?_, fun h => h3 ?_⟩
      · rw [e1, h]; exact UInt8.xor_self
      · have := (lostP_mem hL (show r.length - 1 - k < r.length by omega)).2 h
        rwa [show r.length - 1 - (r.length - 1 - k) = k by omega] at this
theorem good_syn {f p : Nat} {X : List UInt8} (h : goodS f p X = true) : ∀ i, i < p → syn f X i = 0 := by
  unfold goodS at h
  simp only [Bool.and_eq_true, decide_eq_true_eq] at h
  exact syns_all.1 h.2.2
theorem syn_good {f p : Nat} {X : List UInt8} (h1 : p < X.length) (h2 : X.length ≤ 255) (h : ∀ i, i < p → syn f X i = 0) : goodS f p X = true := by
  unfold goodS
  rw [decide_eq_true h1, decide_eq_true h2, syns_all.2 h]; rfl
/-- What the document makes is the program's word, where that is fine. -/
theorem fine_doc {f p : Nat} (hp1 : 1 ≤ p) (hp : p ≤ 254) {r : List UInt8} {L : List Int} {X : List UInt8} (hX : MdIs f p r L X) (h : Fine f p r L) : X = dWord f p r L ∧ X.length = r.length ∧ goodS f p X = true ∧ 2 * eTo X r L r.length + L.length ≤ p := by
  obtain ⟨h1, h2, h3⟩ := fine_near hp h
  have he := doc_mends hp1 hp r (dWord f p r L) h.l1 h.l2 h1 h2 L h.are h3 hX
  refine ⟨he, by rw [he]; exact h1, ?_, ?_⟩
  · rw [he]
    have hl1 := h.l1
    have hl2 := h.l2
    exact syn_good (by omega) (by omega) h2
  · rw [he, eTo_turn h1 h.are]; exact h3
theorem doc_fine {f p : Nat} (hp1 : 1 ≤ p) (hp : p ≤ 254) {r : List UInt8} (h1 : p < r.length) (h2 : r.length ≤ 255) {L : List Int} (hL : areS L r.length = true) {X : List UInt8} (hl : X.length = r.length) (hg : goodS f p X = true) (he : 2 * eTo X r L r.length + L.length ≤ p) : Fine f p r L := by
  rw [eTo_turn hl hL] at he
  exact (mends hp1 hp r X h1 h2 hl (good_syn hg) L hL he).1
theorem merr_lost {f p : Nat} {r : List UInt8} {L : List Int} (h1 : p < r.length) (h2 : r.length ≤ 255) (hL : areS L r.length = true) (hne : mErr f p r L ≠ 0) : mErr f p r L = 110 := by
  unfold mErr at hne ⊢
  rw [if_neg (by omega), if_neg (by omega), hL] at hne ⊢
  simp only [Bool.true_eq_false, if_false] at hne ⊢
  split
  · rfl
  · rename_i h3
    rw [if_neg h3] at hne
    split
    · rfl
    · rename_i h4
      rw [if_neg h4] at hne
      split
      · rfl
      · rename_i h5
        rw [if_neg h5] at hne
        split
        · rfl
        · rename_i h6
          rw [if_neg h6] at hne
          exact absurd rfl hne
/-- The product over the marked places. -/
def lcTo (n : Nat) (B : Nat → Bool) : Nat → List UInt8
  | 0 => [1]
  | i + 1 => if B i then mulS 29 (lcTo n B i) [1, pwI 29 2 ((n : Int) - 1 - (i : Int))] else lcTo n B i
theorem lc_tidy (n : Nat) (B : Nat → Bool) : ∀ i, Tidy (lcTo n B i)
  | 0 => .inr (show cf [1] 0 ≠ 0 by decide)
  | i + 1 => by
    rw [lcTo]; split
    · exact mul_tidy one_d _ _
    · exact lc_tidy n B i
theorem lc_len (n : Nat) (B : Nat → Bool) : ∀ i, (lcTo n B i).length ≤ 1 + 2 * i
  | 0 => by simp [lcTo]
  | i + 1 => by
    have h1 := lc_len n B i
    have h2 := mul_len 29 (lcTo n B i) [1, pwI 29 2 ((n : Int) - 1 - (i : Int))]
    simp only [List.length_cons, List.length_nil] at h2
    rw [lcTo]; split <;> omega
theorem lc_pol (n : Nat) (B : Nat → Bool) : ∀ i, i ≤ n → cf (lcTo n B i) = pol (((List.range i).filter B).map fun j => n - 1 - j)
  | 0, _ => cf_one
  | i + 1, hi => by
    rw [lcTo, List.range_succ, List.filter_append, List.map_append, pol_append, ← lc_pol n B i (by omega)]
    cases hB : B i with
    | true =>
      rw [if_pos rfl, List.filter_cons_of_pos hB, cf_mul_s, cf_two]
      congr 1
      show _ = sMul (sLin (pw 29 2 (n - 1 - i))) sOne
      rw [mul_one_s, show (n : Int) - 1 - (i : Int) = ((n - 1 - i : Nat) : Int) by omega, pwI_eq]
    | false =>
      rw [if_neg (by decide), List.filter_cons_of_neg (by rw [hB]; decide)]
      show _ = sMul _ sOne
      rw [mul_one_s]
theorem pol_perm {A B : List Nat} (h : A.Perm B) : pol A = pol B := by
  induction h with
  | nil => rfl
  | cons x _ ih => show sMul _ _ = sMul _ _; rw [ih]
  | swap x y l => show sMul _ (sMul _ _) = sMul _ (sMul _ _); ac_rfl
  | trans _ _ h1 h2 => exact h1.trans h2
theorem mem_dif (A B : List UInt8) (x : Int) : ∀ k, x ∈ difTo A B k ↔ ∃ i : Nat, i < k ∧ x = (i : Int) ∧ cf A i ≠ cf B i
  | 0 => by simp [difTo]
  | k + 1 => by
    have ih := mem_dif A B x k
    rw [difTo]
    by_cases h : cf A k = cf B k
    · rw [if_pos h, ih]
      constructor
      · rintro ⟨i, h1, h2, h3⟩; exact ⟨i, by omega, h2, h3⟩
      · rintro ⟨i, h1, h2, h3⟩
        refine ⟨i, ?_, h2, h3⟩
        rcases Nat.lt_or_ge i k with h4 | h4
        · exact h4
        · exact absurd (by rw [show i = k by omega]; exact h) h3
    · rw [if_neg h, List.mem_append, ih, List.mem_singleton]
      constructor
      · rintro (⟨i, h1, h2, h3⟩ | rfl)
        · exact ⟨i, by omega, h2, h3⟩
        · exact ⟨k, by omega, rfl, h⟩
      · rintro ⟨i, h1, h2, h3⟩
        rcases Nat.lt_or_ge i k with h4 | h4
        · exact .inl ⟨i, h4, h2, h3⟩
        · exact .inr (by rw [h2, show i = k by omega])
/-- Both locators are one. -/
theorem loc_same {f p : Nat} (hp1 : 1 ≤ p) (hp : p ≤ 254) {r : List UInt8} {L : List Int} (h : Fine f p r L) : lcTo r.length (fun i => decide ((i : Int) ∈ difTo (dWord f p r L) r r.length) || decide ((i : Int) ∈ L)) r.length = dLoc f p r L := by
  obtain ⟨h1, h2, h3⟩ := fine_near hp h
  have hm := (mends hp1 hp r (dWord f p r L) h.l1 h.l2 h1 h2 L h.are h3).2.2
  refine tidy_ext (lc_tidy _ _ _) (mul_tidy one_d _ _) fun k => ?_
  rw [hm, lc_pol _ _ _ (Nat.le_refl _)]
  refine congrFun (pol_perm ?_) k
  have hn1 : (((List.range r.length).filter fun (i : Nat) => decide ((i : Int) ∈ difTo (dWord f p r L) r r.length) || decide ((i : Int) ∈ L)).map fun j => r.length - 1 - j).Nodup := by
    rw [List.nodup_iff_pairwise_ne, List.pairwise_map]
    refine List.Pairwise.imp_of_mem ?_ (List.nodup_iff_pairwise_ne.1 (List.Nodup.sublist List.filter_sublist (List.nodup_range (n := r.length))))
    intro a b ha hb hne he
    have h4 := List.mem_range.1 (List.mem_filter.1 ha).1
    have h5 := List.mem_range.1 (List.mem_filter.1 hb).1
    omega
  refine (List.perm_ext_iff_of_nodup hn1 (allP_nodup h.are)).2 fun k => ?_
  constructor
  · intro hk
    obtain ⟨i, hi, rfl⟩ := List.mem_map.1 hk
    obtain ⟨h4, h5⟩ := List.mem_filter.1 hi
    have hi' := List.mem_range.1 h4
    simp only [Bool.or_eq_true, decide_eq_true_eq] at h5
    rcases h5 with h5 | h5
    · obtain ⟨j, hj, he, hne⟩ := (mem_dif _ _ _ _).1 h5
      obtain rfl : j = i := by omega
      refine allP_supp h1 ?_
      rw [er_at h1 hi']
      intro h
      exact hne (xor_zero_eq h).symm
    · exact List.mem_append.2 (.inl ((lostP_mem h.are hi').2 h5))
  · intro hk
    have hkl := allP_lt h.are hk
    refine List.mem_map.2 ⟨r.length - 1 - k, List.mem_filter.2 ⟨List.mem_range.2 (by omega), ?_⟩, by omega⟩
    simp only [Bool.or_eq_true, decide_eq_true_eq]
    rcases List.mem_append.1 hk with h4 | h4
    · refine .inr ((lostP_mem h.are (show r.length - 1 - k < r.length by omega)).1 ?_)
      rwa [show r.length - 1 - (r.length - 1 - k) = k by omega]
    · refine .inl ((mem_dif _ _ _ _).2 ⟨r.length - 1 - k, by omega, rfl, fun he => (turnP_mem.1 h4).2.1 ?_⟩)
      have e1 := er_at h1 (show r.length - 1 - k < r.length by omega)
      rw [show r.length - 1 - (r.length - 1 - k) = k by omega] at e1
      rw [e1, he]; exact UInt8.xor_self
end Go.Proofs.Ytdpkeffkpecmjaa
