/- Texts of one proof, one behind the other. -/
import Derived.Test.YtgmbkelmgolkpaaDoorGe
/- A grammar in memory; what has, Terminals, Symbols, Start, Nullable, First and Follow answer. -/
namespace Go.Proofs.YtgmbkelmgolkpaaDoor
open Go.RowKit
set_option linter.unusedVariables false

/-- A grammar's sets and numbers: n symbols, T terminals, the start, what can be nothing, begin, follow. -/
structure Gs where
  n : Nat
  t : Nat
  s : Nat
  nul : Nat
  bg : Nat → Nat
  fo : Nat → Nat
/-- A grammar lies in block p. -/
structure GmAt (w : World) (p : Nat) (G : Gs) : Prop where
  few : G.n ≤ 128
  cs : ∃ cs : Array Value, CsAt w p cs 90 ∧ (∃ a c, cs[0]? = some (.slice a G.n c)) ∧ cs[2]? = some (.int .i64 G.t) ∧ cs[3]? = some (.int .i64 G.s) ∧ SetIn cs 5 G.nul ∧ (∀ x, x < 128 → SetIn cs (7 + x * 2) (G.bg x)) ∧ ∀ x, x < 128 → SetIn cs (263 + x * 2) (G.fo x)
theorem GmAt.next {w w' : World} {p : Nat} {G : Gs} (h : GmAt w p G) (hb : Below w.heap.size w w') : GmAt w' p G := by
  obtain ⟨cs, h1, h2⟩ := h.cs
  exact ⟨h.few, cs, h1.next hb, h2⟩
theorem GmAt.names {w : World} {p : Nat} {G : Gs} (h : GmAt w p G) : ∃ a c, w.cell? ⟨p, 0, none⟩ = some (.slice a G.n c) := by
  obtain ⟨cs, h1, ⟨a, c, h2⟩, _⟩ := h.cs
  exact ⟨a, c, by rw [h1.cell]; exact h2⟩
theorem GmAt.ct {w : World} {p : Nat} {G : Gs} (h : GmAt w p G) : w.cell? ⟨p, 2, none⟩ = some (.int .i64 G.t) := by
  obtain ⟨cs, h1, _, h2, _⟩ := h.cs
  rw [h1.cell]; exact h2
theorem GmAt.cstart {w : World} {p : Nat} {G : Gs} (h : GmAt w p G) : w.cell? ⟨p, 3, none⟩ = some (.int .i64 G.s) := by
  obtain ⟨cs, h1, _, _, h2, _⟩ := h.cs
  rw [h1.cell]; exact h2
theorem GmAt.cnul {w : World} {p : Nat} {G : Gs} (h : GmAt w p G) : SetAt w p 5 G.nul := by
  obtain ⟨cs, h1, _, _, _, h2, _⟩ := h.cs
  exact h2.at h1
theorem GmAt.cbg {w : World} {p : Nat} {G : Gs} (h : GmAt w p G) {x : Nat} (hx : x < 128) : SetAt w p (7 + x * 2) (G.bg x) := by
  obtain ⟨cs, h1, _, _, _, _, h2, _⟩ := h.cs
  exact (h2 x hx).at h1
theorem GmAt.cfo {w : World} {p : Nat} {G : Gs} (h : GmAt w p G) {x : Nat} (hx : x < 128) : SetAt w p (263 + x * 2) (G.fo x) := by
  obtain ⟨cs, h1, _, _, _, _, _, h2⟩ := h.cs
  exact (h2 x hx).at h1
/-- Is it a symbol? -/
def hasS (G : Gs) (x : Int) : Bool := decide (0 ≤ x) && decide (x < (G.n : Int))
set_option maxRecDepth 100000 in
theorem has_nil (x : Int) (w : World) : Calls Tryd.prog 63 #[.pointer none, .int .i64 x] w fun e w' => e = .returned (.bool false) ∧ w' = w := by
  go_enter Tryd.func63, Tryd.ntmps63
  go_wp2_with fail
  go_ret
  exact ⟨rfl, rfl⟩
set_option maxRecDepth 100000 in
set_option maxHeartbeats 800000 in
theorem has_any {p : Nat} {G : Gs} (x : Int) (w : World) (h : GmAt w p G) : Calls Tryd.prog 63 #[.pointer (some ⟨p, 0, none⟩), .int .i64 x] w fun e w' => e = .returned (.bool (hasS G x)) ∧ w' = w := by
  obtain ⟨a, c, f0⟩ := h.names
  have hn := h.few
  have HR : Hid (hasS G x = (decide (0 ≤ x) && decide (x < (G.n : Int)))) := rfl
  clear h
  generalize G.n = n at *
  by_cases h0 : 0 ≤ x
  · by_cases h1 : x < (n : Int)
    · rw [decide_eq_true h0, decide_eq_true h1] at HR
      go_enter Tryd.func63, Tryd.ntmps63
      go_wp2_with fail
      go_ret
      exact ⟨by rw [HR.out]; rfl, rfl⟩
    · rw [decide_eq_true h0, decide_eq_false h1] at HR
      go_enter Tryd.func63, Tryd.ntmps63
      go_wp2_with fail
      go_ret
      exact ⟨by rw [HR.out]; rfl, rfl⟩
  · rw [decide_eq_false h0] at HR
    go_enter Tryd.func63, Tryd.ntmps63
    go_wp2_with fail
    go_ret
    exact ⟨by rw [HR.out]; rfl, rfl⟩
set_option maxRecDepth 100000 in
theorem terminals_nil (w : World) : Calls Tryd.prog 35 #[.pointer none] w fun e w' => e = .returned (.int .i64 0) ∧ w' = w := by
  go_enter Tryd.func35, Tryd.ntmps35
  go_wp2_with fail
  go_ret
  exact ⟨rfl, rfl⟩
set_option maxRecDepth 100000 in
theorem terminals_any {p : Nat} {G : Gs} (w : World) (h : GmAt w p G) : Calls Tryd.prog 35 #[.pointer (some ⟨p, 0, none⟩)] w fun e w' => e = .returned (.int .i64 G.t) ∧ w' = w := by
  have f0 := h.ct
  clear h
  go_enter Tryd.func35, Tryd.ntmps35
  go_wp2_with fail
  go_ret
  exact ⟨rfl, rfl⟩
set_option maxRecDepth 100000 in
theorem symbols_nil (w : World) : Calls Tryd.prog 49 #[.pointer none] w fun e w' => e = .returned (.int .i64 0) ∧ w' = w := by
  go_enter Tryd.func49, Tryd.ntmps49
  go_wp2_with fail
  go_ret
  exact ⟨rfl, rfl⟩
set_option maxRecDepth 100000 in
theorem symbols_any {p : Nat} {G : Gs} (w : World) (h : GmAt w p G) : Calls Tryd.prog 49 #[.pointer (some ⟨p, 0, none⟩)] w fun e w' => e = .returned (.int .i64 G.n) ∧ w' = w := by
  obtain ⟨a, c, f0⟩ := h.names
  clear h
  go_enter Tryd.func49, Tryd.ntmps49
  go_wp2_with fail
  go_ret
  exact ⟨rfl, rfl⟩
set_option maxRecDepth 100000 in
theorem start_nil (w : World) : Calls Tryd.prog 34 #[.pointer none] w fun e w' => e = .returned (.int .i64 (-1)) ∧ w' = w := by
  go_enter Tryd.func34, Tryd.ntmps34
  go_wp2_with fail
  go_ret
  exact ⟨rfl, rfl⟩
set_option maxRecDepth 100000 in
theorem start_any {p : Nat} {G : Gs} (w : World) (h : GmAt w p G) : Calls Tryd.prog 34 #[.pointer (some ⟨p, 0, none⟩)] w fun e w' => e = .returned (.int .i64 G.s) ∧ w' = w := by
  have f0 := h.cstart
  clear h
  go_enter Tryd.func34, Tryd.ntmps34
  go_wp2_with fail
  go_ret
  exact ⟨rfl, rfl⟩
set_option maxRecDepth 100000 in
theorem follow_nil (x : Int) (w : World) : Calls Tryd.prog 23 #[.pointer none, .int .i64 x] w fun e w' => e = .returned (.slice none 0 0) ∧ w' = w := by
  have HH := hidD (has_nil x w)
  go_enter Tryd.func23, Tryd.ntmps23
  go_wp2_with (go_at_call 63; refine HH.out.mono ?_; rintro e w2 ⟨rfl, hw⟩; subst w2)
  go_ret
  exact ⟨rfl, rfl⟩
set_option maxRecDepth 100000 in
set_option maxHeartbeats 800000 in
theorem follow_no {p : Nat} {G : Gs} (x : Int) (hx : hasS G x = false) (w : World) (h : GmAt w p G) : Calls Tryd.prog 23 #[.pointer (some ⟨p, 0, none⟩), .int .i64 x] w fun e w' => e = .returned (.slice none 0 0) ∧ w' = w := by
  have HH := hidD (has_any x w h)
  rw [hx] at HH
  clear h hx
  go_enter Tryd.func23, Tryd.ntmps23
  go_wp2_with (go_at_call 63; refine HH.out.mono ?_; rintro e w2 ⟨rfl, hw⟩; subst w2)
  go_ret
  exact ⟨rfl, rfl⟩
set_option maxRecDepth 100000 in
set_option maxHeartbeats 1600000 in
theorem follow_any {p : Nat} {G : Gs} (x : Nat) (hx : x < G.n) (w : World) (h : GmAt w p G) : Calls Tryd.prog 23 #[.pointer (some ⟨p, 0, none⟩), .int .i64 x] w fun e w' => ∃ u, e = .returned u ∧ IlAt w' u (liTo (G.fo x) 128) ∧ Below w.heap.size w w' := by
  have hn := h.few
  have hx128 : x < 128 := by omega
  have HH := hidD (has_any x w h)
  rw [show hasS G x = true by unfold hasS; rw [decide_eq_true (by omega), decide_eq_true (by omega)]; rfl] at HH
  have hs := h.cfo hx128
  have HL := hidD (fun w' => setList_any (G.fo x) hs.top w')
  have f0 := hs.c0
  have f1 := hs.c1
  have hxi : (x : Int) < 128 := by omega
  unfold setV at HL
  clear h hs
  generalize lw (G.fo x) = a at *
  generalize hw (G.fo x) = b at *
  go_enter Tryd.func23, Tryd.ntmps23
  go_wp2_with (first
    | (go_at_call 63; refine HH.out.mono ?_; rintro e w2 ⟨rfl, hw⟩; subst w2)
    | (go_at_call 69; refine (HL.out _).mono ?_; rintro e w3 ⟨u, rfl, hi3, hb3⟩; have HI3 := hidD hi3; have HB3 := hidD hb3; clear hi3 hb3))
  go_ret
  exact ⟨u, rfl, HI3.out, HB3.out⟩
end Go.Proofs.YtgmbkelmgolkpaaDoor
/- What Nullable and First answer. -/
namespace Go.Proofs.YtgmbkelmgolkpaaDoor
open Go.RowKit
set_option linter.unusedVariables false

set_option maxRecDepth 100000 in
theorem nullable_nil (v : Value) (w : World) : Calls Tryd.prog 18 #[.pointer none, v] w fun e w' => e = .returned (.bool false) ∧ w' = w := by
  go_enter Tryd.func18, Tryd.ntmps18
  go_wp2_with fail
  go_ret
  exact ⟨rfl, rfl⟩
/-- Can a symbol be nothing? -/
def nulS (G : Gs) (x : Int) : Bool := hasS G x && G.nul.testBit x.toNat
theorem has_nat {G : Gs} {x : Int} (h : hasS G x = true) : ∃ s : Nat, x = (s : Int) ∧ s < G.n := by
  unfold hasS at h
  simp only [Bool.and_eq_true, decide_eq_true_eq] at h
  exact ⟨x.toNat, by omega, by omega⟩
set_option maxRecDepth 100000 in
set_option maxHeartbeats 1600000 in
theorem nullable_any {p : Nat} {G : Gs} (l : List Int) (hl : l.length ≤ 9223372036854775806) (v : Value) (w : World) (h : GmAt w p G) (hv : IlAt w v l) : Calls Tryd.prog 18 #[.pointer (some ⟨p, 0, none⟩), v] w fun e w' => e = .returned (.bool (l.all (nulS G))) ∧ Below w.heap.size w w' := by
  have HG := hidD h
  obtain ⟨a, c, rfl, hc1, hc2, hcell⟩ := hv
  have HCE := hidD hcell
  have HT : Hid ((∀ k, k < l.length → nulS G (l.getD k 0) = true) → l.all (nulS G) = true) := fun h => by
    rw [List.all_eq_true]
    intro x hx
    obtain ⟨i, hi, he⟩ := List.mem_iff_getElem.1 hx
    have := h i hi
    rwa [List.getD_eq_getElem?_getD, List.getElem?_eq_getElem hi, Option.getD_some, he] at this
  have HF : Hid (∀ k, k < l.length → nulS G (l.getD k 0) = false → l.all (nulS G) = false) := fun k hk h => by
    cases ha : l.all (nulS G) with
    | false => rfl
    | true =>
      rw [List.all_eq_true] at ha
      have := ha (l.getD k 0) (by rw [List.getD_eq_getElem?_getD, List.getElem?_eq_getElem hk]; exact List.getElem_mem hk)
      rw [h] at this; cases this
  have hn := h.few
  have htop := h.cnul.top
  have HHA := hidD (fun (x : Int) w' (h : GmAt w' p G) => has_any x w' h)
  have HHS := hidD (fun s hs w' => setHas_any G.nul htop s hs w')
  have HNU : Hid (∀ x, nulS G x = (hasS G x && G.nul.testBit x.toNat)) := fun x => rfl
  have HHN := hidD (fun x => has_nat (G := G) (x := x))
  unfold setV at HHS
  have HC0 : Hid (∀ w', GmAt w' p G → w'.cell? ⟨p, 5, none⟩ = some (.int .u64 (lw G.nul : Int)) ∧ w'.cell? ⟨p, 6, none⟩ = some (.int .u64 (hw G.nul : Int))) := fun w' h => ⟨h.cnul.c0, h.cnul.c1⟩
  clear hcell h
  generalize lw G.nul = a0 at *
  generalize hw G.nul = b0 at *
  generalize l.length = n at *
  go_enter Tryd.func18, Tryd.ntmps18
  go_wp2_with fail
  go_loopw [11] (fun i wr => ∃ k : Nat, k ≤ n ∧ i = .int .i64 k ∧ (∀ j, j < k → nulS G (l.getD j 0) = true) ∧ Below w.heap.size w wr) (fun i _ => n - (intOf i).toNat)
  case atStart => exact ⟨0, Nat.zero_le _, rfl, fun j hj => absurd hj (by omega), Below.refl _ _⟩
  case round =>
    obtain ⟨k, hk, rfl, hok, hbel⟩ := hrel
    have HOK := hidD hok
    have HBW := hidD hbel
    clear hok
    by_cases hlt : k < n
    · have hlti : (k : Int) < n := by omega
      obtain ⟨gl, ol, rfl, hgl, hcl⟩ := HCE.out k hlt
      have f1 : wr.cell? ⟨gl, ol + k, none⟩ = some (.int .i64 (l.getD k 0)) := (hbel.cell (p := ⟨gl, ol + k, none⟩) hgl).trans hcl
      have HGW := hidD (HG.out.next hbel)
      obtain ⟨f2, f3⟩ := HC0.out _ HGW.out
      have HHK := hidD (HHA.out (l.getD k 0) wr HGW.out)
      have HNK := hidD (HNU.out (l.getD k 0))
      have HFK := hidD (HF.out k hlt)
      clear hbel hcl
      cases hh : hasS G (l.getD k 0) with
      | false =>
        rw [hh] at HHK HNK
        have HR := hidD (HFK.out HNK.out)
        generalize l.getD k 0 = x at *
        clear hh
        go_wp2_with (go_at_call 63; refine HHK.out.mono ?_; rintro e w2 ⟨rfl, hw⟩; subst w2)
        go_ret
        exact ⟨by rw [HR.out]; rfl, HBW.out⟩
      | true =>
        obtain ⟨s, hs, hsn⟩ := HHN.out _ hh
        have HSK := hidD (fun w' => HHS.out s (by omega) w')
        rw [hh, hs, Int.toNat_natCast, Bool.true_and] at HNK
        rw [hs] at f1 HHK HFK
        rw [show hasS G (s : Int) = true by rw [← hs]; exact hh] at HHK
        cases hb : G.nul.testBit s with
        | true =>
          rw [hb] at HNK HSK
          have HN2 : Hid (nulS G (l.getD k 0) = true) := by show _ = _; rw [hs]; exact HNK.out
          clear hh hb hs
          go_wp2_with (first
            | (go_at_call 63; refine HHK.out.mono ?_; rintro e w2 ⟨rfl, hw⟩; subst w2)
            | (go_at_call 64; refine (HSK.out _).mono ?_; rintro e w3 ⟨rfl, hb3⟩; have HB3 := hidD (Below.next HBW.out hb3); clear hb3))
          go_roundw
          case rel => exact ⟨k + 1, by omega, by go_num, fun j hj => by
            by_cases h : j = k
            · rw [h]; exact HN2.out
            · exact HOK.out j (by omega), HB3.out⟩
          case measure => simp [intOf]; omega
        | false =>
          rw [hb] at HNK HSK
          have HR := hidD (HFK.out HNK.out)
          clear hh hb hs
          go_wp2_with (first
            | (go_at_call 63; refine HHK.out.mono ?_; rintro e w2 ⟨rfl, hw⟩; subst w2)
            | (go_at_call 64; refine (HSK.out _).mono ?_; rintro e w3 ⟨rfl, hb3⟩; have HB3 := hidD (Below.next HBW.out hb3); clear hb3))
          go_ret
          exact ⟨by rw [HR.out]; rfl, HB3.out⟩
    · obtain rfl : k = n := by omega
      have HR := hidD (HT.out HOK.out)
      clear hbel
      go_wp2_with fail
      go_ret
      exact ⟨by rw [HR.out]; rfl, HBW.out⟩
end Go.Proofs.YtgmbkelmgolkpaaDoor
/- What First answers. -/
namespace Go.Proofs.YtgmbkelmgolkpaaDoor
open Go.RowKit
set_option linter.unusedVariables false

theorem GmAt.but {w w' : World} {p g : Nat} {G : Gs} (h : GmAt w p G) (hb : But g w w') (hn : p ≠ g) : GmAt w' p G := by
  obtain ⟨cs, h1, h2⟩ := h.cs
  exact ⟨h.few, cs, (hb.rest p h1.lt hn).trans h1, h2⟩
/-- What something that these become can begin with. -/
def fiS (G : Gs) : List Int → Nat
  | [] => 0
  | x :: r => G.bg x.toNat ||| (if G.nul.testBit x.toNat then fiS G r else 0)
/-- What the first k begin with. -/
def fiTo (G : Gs) (l : List Int) : Nat → Nat
  | 0 => 0
  | k + 1 => fiTo G l k ||| G.bg (l.getD k 0).toNat
theorem fi_split (G : Gs) (l : List Int) : ∀ k, k ≤ l.length → (∀ j, j < k → G.nul.testBit (l.getD j 0).toNat = true) → fiS G l = fiTo G l k ||| fiS G (l.drop k)
  | 0, _, _ => by rw [List.drop_zero]; show _ = 0 ||| _; rw [Nat.zero_or]
  | k + 1, hk, h => by
    rw [fi_split G l k (by omega) (fun j hj => h j (by omega)), List.drop_eq_getElem_cons (show k < l.length by omega)]
    have hg : l.getD k 0 = l[k] := by rw [List.getD_eq_getElem?_getD, List.getElem?_eq_getElem (show k < l.length by omega)]; rfl
    have hk2 := h k (by omega)
    rw [hg] at hk2
    show _ ||| (G.bg l[k].toNat ||| (if G.nul.testBit l[k].toNat then fiS G (l.drop (k + 1)) else 0)) = (fiTo G l k ||| G.bg (l.getD k 0).toNat) ||| _
    rw [if_pos hk2, hg, Nat.or_assoc]
theorem fi_stop (G : Gs) (l : List Int) (k : Nat) (hk : k < l.length) (h : ∀ j, j < k → G.nul.testBit (l.getD j 0).toNat = true) (hn : G.nul.testBit (l.getD k 0).toNat = false) : fiS G l = fiTo G l (k + 1) := by
  rw [fi_split G l k (by omega) h, List.drop_eq_getElem_cons hk]
  have hg : l.getD k 0 = l[k] := by rw [List.getD_eq_getElem?_getD, List.getElem?_eq_getElem hk]; rfl
  rw [hg] at hn
  show _ ||| (G.bg l[k].toNat ||| (if G.nul.testBit l[k].toNat then fiS G (l.drop (k + 1)) else 0)) = fiTo G l k ||| G.bg (l.getD k 0).toNat
  rw [if_neg (by rw [hn]; decide), hg, Nat.or_zero]
theorem fi_all (G : Gs) (l : List Int) (h : ∀ j, j < l.length → G.nul.testBit (l.getD j 0).toNat = true) : fiS G l = fiTo G l l.length := by
  rw [fi_split G l l.length (Nat.le_refl _) h, List.drop_length]
  show _ ||| 0 = _
  rw [Nat.or_zero]
theorem setC_twice (cs : Array Value) (o A B : Nat) (h : o + 1 < cs.size) (hB : B < Top) : setC (setC cs o A) o B = setC cs o B :=
  setC_ext (setC_same (by rw [setC_size]; exact h) hB) (by rw [setC_size, setC_size]) fun i h0 h1 => by rw [setC_other _ _ _ _ h0 h1, setC_other _ _ _ _ h0 h1]
theorem zero_set : setV 0 = .agg #[.int .u64 0, .int .u64 0] := rfl
theorem Tryd.zero86 : (Tryd.prog.info? 86).map (fun i => (i.zero, i.size)) = some (some (.agg #[.int .u64 0, .int .u64 0]), 2) := by kernel_rfl
set_option maxRecDepth 100000 in
set_option maxHeartbeats 1600000 in
theorem first_no {p : Nat} {G : Gs} (l : List Int) (hl : l.length ≤ 9223372036854775806) (k0 : Nat) (hk0 : k0 < l.length) (hno : hasS G (l.getD k0 0) = false) (v : Value) (w : World) (h : GmAt w p G) (hv : IlAt w v l) : Calls Tryd.prog 21 #[.pointer (some ⟨p, 0, none⟩), v] w fun e w' => e = .returned (.slice none 0 0) ∧ Below w.heap.size w w' := by
  obtain ⟨a, c, rfl, hc1, hc2, hcell⟩ := hv
  have HCE := hidD hcell
  have HHA := hidD (fun (x : Int) => has_any x w h)
  have HN0 := hidD hno
  clear hcell h hno
  generalize l.length = n at *
  go_enter Tryd.func21, Tryd.ntmps21
  go_wp2_with fail
  go_loopw [12] (fun i wr => ∃ k : Nat, k ≤ n ∧ k ≤ k0 ∧ i = .int .i64 k ∧ wr = w) (fun i _ => n - (intOf i).toNat)
  case atStart => exact ⟨0, Nat.zero_le _, Nat.zero_le _, rfl, rfl⟩
  case round =>
    obtain ⟨k, hk, hkk, rfl, hw⟩ := hrel
    subst wr
    have hlt : k < n := by omega
    have hlti : (k : Int) < n := by omega
    obtain ⟨gl, ol, rfl, hgl, hcl⟩ := HCE.out k hlt
    have HHK := hidD (HHA.out (l.getD k 0))
    cases hh : hasS G (l.getD k 0) with
    | false =>
      rw [hh] at HHK
      generalize l.getD k 0 = x at *
      clear hh
      go_wp2_with (go_at_call 63; refine HHK.out.mono ?_; rintro e w2 ⟨rfl, hw⟩; subst w2)
      go_ret
      exact ⟨rfl, Below.refl _ _⟩
    | true =>
      have hne : k ≠ k0 := fun e => by rw [e, HN0.out] at hh; cases hh
      rw [hh] at HHK
      generalize l.getD k 0 = x at *
      clear hh
      go_wp2_with (go_at_call 63; refine HHK.out.mono ?_; rintro e w2 ⟨rfl, hw⟩; subst w2)
      go_roundw
      case rel => exact ⟨k + 1, by omega, by omega, by go_num, by first | rfl | trivial⟩
      case measure => simp [intOf]; omega
set_option maxRecDepth 100000 in
set_option maxHeartbeats 3200000 in
theorem first_any {p : Nat} {G : Gs} (l : List Int) (hl : l.length ≤ 9223372036854775806) (hall : ∀ k, k < l.length → hasS G (l.getD k 0) = true) (v : Value) (w : World) (h : GmAt w p G) (hv : IlAt w v l) : Calls Tryd.prog 21 #[.pointer (some ⟨p, 0, none⟩), v] w fun e w' => ∃ u, e = .returned u ∧ IlAt w' u (liTo (fiS G l) 128) ∧ Below w.heap.size w w' := by
  have HG := hidD h
  have HV := hidD hv
  obtain ⟨a, c, rfl, hc1, hc2, hcell⟩ := hv
  have HCE := hidD hcell
  have HHA := hidD (fun (x : Int) => has_any x w h)
  have HAL := hidD hall
  have HHN := hidD (fun x => has_nat (G := G) (x := x))
  have hn := h.few
  have htop := h.cnul.top
  have HHS := hidD (fun s hs w' => setHas_any G.nul htop s hs w')
  have HBT : Hid (∀ x, x < 128 → G.bg x < Top) := fun x hx => (h.cbg hx).top
  have HLI := hidD (fun M hM w' => setList_any M hM w')
  have HFS := hidD (fun k => fi_stop G l k)
  have HFA := hidD (fi_all G l)
  have HFN : Hid (∀ k, fiTo G l (k + 1) = fiTo G l k ||| G.bg (l.getD k 0).toNat) := fun k => rfl
  have HPL := hidD (row_lt (show w.heap[p]? = _ from h.cs.choose_spec.1))
  obtain ⟨hz, hsz⟩ := zero_of_info Tryd.zero86
  clear hcell h hall
  generalize l.length = n at *
  go_enter Tryd.func21, Tryd.ntmps21
  go_wp2_with fail
  go_loopw [12] (fun i wr => ∃ k : Nat, k ≤ n ∧ i = .int .i64 k ∧ wr = w) (fun i _ => n - (intOf i).toNat)
  case atStart => exact ⟨0, Nat.zero_le _, rfl, rfl⟩
  case round =>
    obtain ⟨k, hk, rfl, hw⟩ := hrel
    subst wr
    by_cases hlt : k < n
    · have hlti : (k : Int) < n := by omega
      obtain ⟨gl, ol, rfl, hgl, hcl⟩ := HCE.out k hlt
      have HHK := hidD (HHA.out (l.getD k 0))
      rw [HAL.out k hlt] at HHK
      generalize l.getD k 0 = x at *
      go_wp2_with (go_at_call 63; refine HHK.out.mono ?_; rintro e w2 ⟨rfl, hw⟩; subst w2)
      go_roundw
      case rel => exact ⟨k + 1, by omega, by go_num, by first | rfl | trivial⟩
      case measure => simp [intOf]; omega
    · obtain rfl : n = k := by omega
      go_wp2_with fail
      have HCS0 : Hid (CsAt (w.alloc (.cells #[.int .u64 0, .int .u64 0] (86 : TypeId))) w.heap.size (setC #[.int .u64 0, .int .u64 0] 0 (fiTo G l 0)) 86) := by
        show (w.alloc (.cells #[.int .u64 0, .int .u64 0] (86 : TypeId))).heap[w.heap.size]? = some (.cells (setC #[.int .u64 0, .int .u64 0] 0 0) (86 : TypeId) (0, 0))
        rw [show setC #[.int .u64 0, .int .u64 0] 0 0 = #[.int .u64 0, .int .u64 0] from rfl]
        exact heap_alloc_last _ _
      have HBU0 : Hid (But w.heap.size w (w.alloc (.cells #[.int .u64 0, .int .u64 0] (86 : TypeId)))) := But.of ((Below.refl _ _).alloc (Nat.le_refl _) _) (Nat.le_refl _)
      have HFT : Hid (∀ k, k ≤ n → fiTo G l k < Top) := fun k => by
        induction k with
        | zero => intro _; show (0 : Nat) < Top; decide
        | succ k ih =>
          intro hk
          obtain ⟨s, hs, hsn⟩ := HHN.out _ (HAL.out k (by omega))
          rw [HFN.out, hs, Int.toNat_natCast]
          exact or_top (ih (by omega)) (HBT.out s (by omega))
      have HSI : Hid (∀ M, M < Top → SetIn (setC #[.int .u64 0, .int .u64 0] 0 M) 0 M) := fun M hM => setC_same (by decide) hM
      have HST : Hid (∀ A B, B < Top → setC (setC #[.int .u64 0, .int .u64 0] 0 A) 0 B = setC #[.int .u64 0, .int .u64 0] 0 B) := fun A B hB => setC_twice _ 0 A B (by decide) hB
      have HJ := hidD (fun A B (hA : A < Top) (hB : B < Top) w' (hc : CsAt w' w.heap.size (setC #[.int .u64 0, .int .u64 0] 0 A) 86) => setJoin_any A B w.heap.size 0 hB w' hc (HSI.out A hA))
      have HGL : Hid (p ≠ w.heap.size) := by have := HPL.out; show p ≠ _; omega
      generalize hw1 : (w.alloc (.cells #[.int .u64 0, .int .u64 0] (86 : TypeId))) = w1 at *
      clear hw1
      generalize hgg : w.heap.size = g at *
      have HGG := hidD hgg
      clear hgg
      go_loopw [23] (fun i wr => ∃ k : Nat, k ≤ n ∧ i = .int .i64 k ∧ (∀ j, j < k → G.nul.testBit (l.getD j 0).toNat = true) ∧ CsAt wr g (setC #[.int .u64 0, .int .u64 0] 0 (fiTo G l k)) 86 ∧ But g w wr) (fun i _ => n - (intOf i).toNat)
      case atStart => exact ⟨0, Nat.zero_le _, rfl, fun j hj => absurd hj (by omega), HCS0.out, HBU0.out⟩
      case round =>
        obtain ⟨k, hk, rfl, hnul, hcs, hbut⟩ := hrel
        have HNU := hidD hnul
        have HCS := hidD hcs
        have HBU := hidD hbut
        clear hnul
        by_cases hlt : k < n
        · have hlti : (k : Int) < n := by omega
          obtain ⟨gl, ol, rfl, hgl, hcl⟩ := HCE.out k hlt
          obtain ⟨s, hs, hsn⟩ := HHN.out _ (HAL.out k hlt)
          rw [hs] at hcl
          have hs128 : s < 128 := by omega
          have hsi : (s : Int) < 128 := by omega
          have f1 : wr.cell? ⟨gl, ol + k, none⟩ = some (.int .i64 (s : Int)) := (hbut.cell (by rw [HGG.out]; exact hgl) (by omega)).trans hcl
          have HGW := hidD (HG.out.but hbut HGL.out)
          have f2 := (HGW.out.cbg hs128).c0
          have f3 := (HGW.out.cbg hs128).c1
          have HJK := hidD (HJ.out _ _ (HFT.out k hk) (HBT.out s hs128) wr HCS.out)
          have HFK : Hid (fiTo G l (k + 1) = fiTo G l k ||| G.bg s) := by show _ = _; rw [HFN.out, hs, Int.toNat_natCast]
          rw [HST.out _ _ (or_top (HFT.out k hk) (HBT.out s hs128)), ← HFK.out] at HJK
          have HHK := hidD (fun w' => HHS.out s hs128 w')
          have HNK : Hid (G.nul.testBit (l.getD k 0).toNat = G.nul.testBit s) := by show _ = _; rw [hs, Int.toNat_natCast]
          unfold setV at HJK HHK
          have HC2 : Hid (∀ w', GmAt w' p G → w'.cell? ⟨p, 5, none⟩ = some (.int .u64 (lw G.nul : Int)) ∧ w'.cell? ⟨p, 6, none⟩ = some (.int .u64 (hw G.nul : Int))) := fun w' h => ⟨h.cnul.c0, h.cnul.c1⟩
          generalize lw (G.bg s) = b0 at *
          generalize hw (G.bg s) = b1 at *
          generalize lw G.nul = n0 at *
          generalize hw G.nul = n1 at *
          clear hcs hbut hcl
          cases hb : G.nul.testBit s with
          | true =>
            rw [hb] at HHK HNK
            clear hb hs
            go_wp2_with (first
              | (go_at_call 68; refine HJK.out.mono ?_; rintro e w5 ⟨rfl, hc5, hb5⟩; have HC5 := hidD hc5; have HB5 := hidD (HBU.out.trans hb5); obtain ⟨f4, f5⟩ := HC2.out _ (HGW.out.but hb5 HGL.out); clear hc5 hb5)
              | (go_at_call 64; refine (HHK.out _).mono ?_; rintro e w6 ⟨rfl, hb6⟩; have HC6 := hidD (HC5.out.next hb6); have HB6 := hidD (HB5.out.next hb6 (Nat.le_of_eq HGG.out.symm)); clear hb6))
            go_roundw
            case rel => exact ⟨k + 1, by omega, by go_num, fun j hj => by
              by_cases h : j = k
              · rw [h]; exact HNK.out
              · exact HNU.out j (by omega), HC6.out, HB6.out⟩
            case measure => simp [intOf]; omega
          | false =>
            rw [hb] at HHK HNK
            have HFE := hidD (HFS.out k hlt HNU.out HNK.out)
            have HTP := hidD (HFT.out (k + 1) (by omega))
            have HL1 := hidD (fun w' => HLI.out _ HTP.out w')
            have HS1 := hidD (HSI.out _ HTP.out)
            rw [← HFE.out] at HL1 HS1 HJK
            unfold setV at HL1
            have HE0 := hidD HS1.out.c0
            have HE1 := hidD HS1.out.c1
            generalize lw (fiS G l) = m0 at *
            generalize hw (fiS G l) = m1 at *
            generalize setC #[.int .u64 0, .int .u64 0] 0 (fiS G l) = CS at *
            clear hb hs
            go_wp2_with (first
              | (go_at_call 68; refine HJK.out.mono ?_; rintro e w5 ⟨rfl, hc5, hb5⟩; have HC5 := hidD hc5; have HB5 := hidD (HBU.out.trans hb5); obtain ⟨f4, f5⟩ := HC2.out _ (HGW.out.but hb5 HGL.out); clear hc5 hb5)
              | (go_at_call 64; refine (HHK.out _).mono ?_; rintro e w6 ⟨rfl, hb6⟩; have hC6 := HC5.out.next hb6; have f6 : w6.cell? ⟨g, 0, none⟩ = some (.int .u64 (m0 : Int)) := (hC6.cell 0).trans HE0.out; have f7 : w6.cell? ⟨g, 1, none⟩ = some (.int .u64 (m1 : Int)) := (hC6.cell 1).trans HE1.out; have HB6 := hidD (HB5.out.next hb6 (Nat.le_of_eq HGG.out.symm)); clear hb6 hC6)
              | (go_at_call 69; refine (HL1.out _).mono ?_; rintro e w7 ⟨u7, rfl, hi7, hb7⟩; have HI7 := hidD hi7; have HB7 := hidD (HB6.out.next hb7 (Nat.le_of_eq HGG.out.symm)); clear hi7 hb7))
            go_ret
            exact ⟨_, rfl, HI7.out, by rw [HGG.out]; exact HB7.out.bel⟩
        · obtain rfl : n = k := by omega
          have HFE := hidD (HFA.out HNU.out)
          have HTP := hidD (HFT.out n (Nat.le_refl _))
          have HL1 := hidD (fun w' => HLI.out _ HTP.out w')
          have HS1 := hidD (HSI.out _ HTP.out)
          rw [← HFE.out] at HL1 HS1 HCS
          unfold setV at HL1
          have f6 : wr.cell? ⟨g, 0, none⟩ = some (.int .u64 (lw (fiS G l) : Int)) := (HCS.out.cell 0).trans HS1.out.c0
          have f7 : wr.cell? ⟨g, 1, none⟩ = some (.int .u64 (hw (fiS G l) : Int)) := (HCS.out.cell 1).trans HS1.out.c1
          generalize lw (fiS G l) = m0 at *
          generalize hw (fiS G l) = m1 at *
          clear hcs hbut
          go_wp2_with (go_at_call 69; refine (HL1.out _).mono ?_; rintro e w7 ⟨u7, rfl, hi7, hb7⟩; have HI7 := hidD hi7; have HB7 := hidD (HBU.out.next hb7 (Nat.le_of_eq HGG.out.symm)); clear hi7 hb7)
          go_ret
          exact ⟨_, rfl, HI7.out, by rw [HGG.out]; exact HB7.out.bel⟩
end Go.Proofs.YtgmbkelmgolkpaaDoor
