/- How segments among the arguments read. -/
import Derived.Test.YtjnfnihhihncmaaMmy
import Derived.Deep.SlicePairs
import Derived.Lib.SmallJoins
namespace Go.Proofs.Ytjnfnihhihncmaa
open Go.ChangeShapes Go.WideShapes Go.ChangeAt Go.RowKit Go.Joins
set_option linter.unusedVariables false

theorem Try.cellsB5 : Try.prog.cellsOf 5 = 1 := by kernel_rfl
theorem Try.bytesB5 : Try.prog.bytesOf 5 = 1 := by kernel_rfl
theorem Try.cellsS3 : Try.prog.cellsOf 3 = 1 := by kernel_rfl
theorem Try.cellsS69 : Try.prog.cellsOf 69 = 1 := by kernel_rfl
theorem Try.cellsS112 : Try.prog.cellsOf 112 = 2 := by kernel_rfl
theorem Try.bytesS112 : Try.prog.bytesOf 112 = 32 := by kernel_rfl
theorem weights_in {H : Type} {P : Program} {e : TypeId} : ∀ {l : List (DataW H)} {d : DataW H}, d ∈ l → ∀ n ∈ d.weights P e, n ∈ DataW.weightsAll P e l
  | d' :: r, d, hd, n, hn => by
    simp only [DataW.weightsAll, List.mem_append]
    rcases List.mem_cons.1 hd with rfl | h
    · exact Or.inl hn
    · exact Or.inr (weights_in h n hn)
set_option maxRecDepth 100000 in
theorem bytes_trod {H : Type} {enc : TypeId × Value → H} {W : World} {base fuel : Nat} {spare : Nat → Bool} {held : Bool} {v : Value} {d : DataW H} {p : List MemPlace}
    (h3 : DataW.trod enc Try.prog W base spare held fuel 69 [v] = some (d, p)) (hr : ∀ x ∈ DataW.weights Try.prog 69 d, x ≤ reachBytes) (hsp : ∀ b, spare b = true) :
    ∃ (bs : List UInt8) (ba : Option Addr) (bc : Nat), v = .slice ba bs.length bc ∧ (ba = none → bc = 0) ∧ bs.length ≤ 140737488351232 ∧ ∀ j, j < bs.length → ∃ g o, ba = some ⟨g, o, none⟩ ∧ g < W.heap.size ∧ W.cell? ⟨g, o + j, none⟩ = some (.int .u8 ((bs.getD j 0).toNat : Int)) := by
  rcases open_ints Try.underlying69 Try.underlying5 Try.cellsB5 h3 with ⟨hcs, hx⟩ | ⟨a, len, cap, zs, hcs, _, hl, hm, hz, hx, hcell, hws⟩
  · simp only [List.cons.injEq, and_true] at hcs
    exact ⟨[], none, 0, hcs, fun _ => rfl, by simp, fun j hj => absurd hj (by simp)⟩
  · simp only [List.cons.injEq, and_true] at hcs
    rw [hsp] at hz
    simp only [if_true] at hz
    have hd : d = .slice (lits .u8 (zs.take len)) (lits .u8 (zs.drop len)) := congrArg Prod.fst hx
    have hcp : cap ≤ 140737488351232 := by
      have := hr (((lits (H := H) .u8 (zs.take len)).length + (lits (H := H) .u8 (zs.drop len)).length) * Try.prog.bytesOf 5) (by rw [hd]; simp [DataW.weights, Try.underlying69])
      rw [Try.bytesB5] at this
      have hrb : reachBytes = 140737488351232 := by decide
      simp [lits] at this
      omega
    have hlen : ((zs.take len).map fun z : Int => UInt8.ofNat z.toNat).length = len := by simp; omega
    refine ⟨(zs.take len).map fun z : Int => UInt8.ofNat z.toNat, some a, cap, by rw [hlen]; exact hcs, nofun, by rw [hlen]; omega, fun k hk => ?_⟩
    rw [hlen] at hk
    have h00 := hcell 0 (by omega)
    obtain ⟨g, off, spot⟩ := a
    have hspot : spot = none := by simpa [Addr.add] using World.cell?_spot h00
    subst hspot
    refine ⟨g, off, rfl, ?_, ?_⟩
    · have h1 := World.block_lt_of_cell? W _ h00
      simpa [Addr.add] using h1
    · have := hcell k (by omega)
      rw [show (⟨g, off, none⟩ : Addr).add k = ⟨g, off + k, none⟩ from Addr.add_lit ..] at this
      rw [this]
      have hj' : k < zs.length := by omega
      have hb := bounds_u8 (hws zs[k] (List.getElem_mem hj'))
      have e1 : zs.getD k 0 = zs[k] := by simp [List.getD, hj']
      have e2 : ((zs.take len).map fun z : Int => UInt8.ofNat z.toNat).getD k 0 = UInt8.ofNat zs[k].toNat := by simp [List.getD, hk, hj']
      rw [e1, e2]
      rw [UInt8.toNat_ofNat', Nat.mod_eq_of_lt (by omega), Int.toNat_of_nonneg hb.1]
set_option maxRecDepth 100000 in
theorem open_segs {H : Type} {enc : TypeId × Value → H} {W : World} {r : Reach} {b0 base : Nat} {spare : Nat → Bool} {held : Bool} {v : Value} {d : DataW H} {p : List MemPlace}
    (hv : Value.okWide Try.prog W r b0 41 v) (h : DataW.Trod enc Try.prog W base spare held 41 v d p) (hr : ∀ x ∈ DataW.weights Try.prog 41 d, x ≤ reachBytes) (hsp : ∀ b, spare b = true) :
    ∃ L : List Sg, L.length ≤ 4398046510976 ∧ (∀ s ∈ L, s.2.length ≤ 140737488351232) ∧ SgsIn W v L := by
  obtain ⟨a', l', c', rfl⟩ := okWide_slice Try.underlying41 hv
  obtain ⟨m, h3⟩ := h
  rcases Go.Deep.open_slice_pairs Try.underlying41 Try.underlying112 Try.cellsS112 rfl rfl Try.cellsS3 Try.cellsS69 h3 with ⟨hcs, hx⟩ | ⟨a, len, cap, m', n, V0, V1, D0, D1, P0, P1, hcs, _, hl, hm, hmm, hx, hcell⟩
  · simp only [Value.cells, List.cons.injEq, and_true] at hcs
    rw [hcs]
    exact ⟨[], by simp, fun x hx => absurd hx (by simp), none, 0, rfl, fun i hi => absurd hi (by simp)⟩
  · simp only [Value.cells, List.cons.injEq, and_true] at hcs
    rw [hsp] at hmm
    simp only [if_true] at hmm
    subst hmm
    have hd : d = .slice ((List.range len).map fun i => .agg [D0 i, D1 i]) ((List.range (m' - len)).map fun j => .agg [D0 (len + j), D1 (len + j)]) := congrArg Prod.fst hx
    have hcp : m' ≤ 4398046510976 := by
      have := hr ((((List.range len).map fun i => (DataW.agg [D0 i, D1 i] : DataW H)).length + ((List.range (m' - len)).map fun j => (DataW.agg [D0 (len + j), D1 (len + j)] : DataW H)).length) * Try.prog.bytesOf 112) (by rw [hd]; simp [DataW.weights, Try.underlying41])
      rw [Try.bytesS112] at this
      have hrb : reachBytes = 140737488351232 := by decide
      simp only [List.length_map, List.length_range] at this
      omega
    have each : ∀ i, i < len → ∃ q : Sg, W.cell? (a.add (i * 2)) = some (.int .i64 q.1) ∧ (∃ ba bc, W.cell? (a.add (i * 2 + 1)) = some (.slice ba q.2.length bc) ∧ (ba = none → bc = 0) ∧ ∀ j, j < q.2.length → ∃ g o, ba = some ⟨g, o, none⟩ ∧ g < W.heap.size ∧ W.cell? ⟨g, o + j, none⟩ = some (.int .u8 ((q.2.getD j 0).toNat : Int))) ∧ q.2.length ≤ 140737488351232 := fun i hi => by
      obtain ⟨h1, h2, h4, h5⟩ := hcell i (by omega)
      obtain ⟨z, hz, _⟩ := DataW.trod_int Try.underlying3 h4
      simp only [List.cons.injEq, and_true] at hz
      obtain ⟨bs, ba, bc, hb1, hb2, hb3, hb4⟩ := bytes_trod h5 (fun x hxx => hr x (by
        rw [hd]
        simp only [DataW.weights, Try.underlying41, List.mem_cons, List.mem_append]
        refine .inr (.inl (weights_in (List.mem_map.2 ⟨i, List.mem_range.2 hi, rfl⟩) x ?_))
        simp only [DataW.weights, Try.underlying112, List.map_cons, List.map_nil, DataW.weightsEach, List.mem_append, List.append_nil]
        exact .inr hxx)) hsp
      exact ⟨(z, bs), by rw [h1, hz], ⟨ba, bc, by rw [h2, hb1], hb2, hb4⟩, hb3⟩
    obtain ⟨q, hq⟩ := Go.Deep.choose_lt each
    rw [hcs]
    have hPl : ((List.range len).map q).length = len := by simp
    refine ⟨(List.range len).map q, by rw [hPl]; omega, fun x hx => ?_, some a, m', by rw [hPl], fun k hk => ?_⟩
    · obtain ⟨i, hi, rfl⟩ := List.mem_map.1 hx
      exact (hq i (List.mem_range.1 hi)).2.2
    · rw [hPl] at hk
      obtain ⟨h1, ⟨ba, bc, h2, h4, h5⟩, _⟩ := hq k hk
      have hqk : ((List.range len).map q)[k]'(by rw [hPl]; exact hk) = q k := by simp
      rw [hqk]
      obtain ⟨h00, _⟩ := hq 0 (by omega)
      obtain ⟨g, off, spot⟩ := a
      have hspot : spot = none := by simpa [Addr.add] using World.cell?_spot h00
      subst hspot
      refine ⟨g, off, ba, bc, rfl, ?_, ?_, ?_, h4, h5⟩
      · have h1 := World.block_lt_of_cell? W _ h00
        simpa [Addr.add] using h1
      · rw [← h1, show (⟨g, off, none⟩ : Addr).add (k * 2) = ⟨g, off + k * 2, none⟩ from Addr.add_lit ..]
      · rw [← h2, show (⟨g, off, none⟩ : Addr).add (k * 2 + 1) = ⟨g, off + (k * 2 + 1), none⟩ from Addr.add_lit ..]; rfl
end Go.Proofs.Ytjnfnihhihncmaa
