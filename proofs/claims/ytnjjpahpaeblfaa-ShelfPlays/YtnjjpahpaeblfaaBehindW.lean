/- The walk of ShelfBehind: true for every slice of notes, and nothing that was there has changed. -/
import Derived.Test.YtnjjpahpaeblfaaAlive
import Derived.Test.YtnjjpahpaeblfaaOwnN
import Derived.Test.YtnjjpahpaeblfaaRefB
import Derived.Test.YtnjjpahpaeblfaaGet
import Derived.Test.YtnjjpahpaeblfaaPlain
import Derived.Test.YtnjjpahpaeblfaaNe
import Derived.Deep.AppendLies
namespace Go.Proofs.Ytnjjpahpaeblfaa
open Go.RowKit Go.Maps Go.Sort
set_option linter.unusedVariables false

theorem Try.info29 : (Try.prog.info? 29).map (fun i => (i.zero, i.size, i.bytes)) = some (some (.agg #[.string ⟨#[]⟩, .int .i64 0, .int .u32 0, .slice none 0 0]), 4, 56) := by kernel_rfl

/-- The cells of a list of notes. -/
def allCells (T : List Ne) : List Value := T.flatMap neCells
theorem allCells_length (T : List Ne) : (allCells T).length = T.length * 4 := by
  induction T with
  | nil => rfl
  | cons e r ih => simp [allCells, neCells] at ih ⊢; omega

theorem allCells_snoc (T : List Ne) (e : Ne) : allCells (T ++ [e]) = allCells T ++ neCells e := by simp [allCells]
theorem ne_oneCell (e : Ne) : ∀ u ∈ neCells e, u.oneCell' = true := by
  intro u hu
  simp only [neCells, List.mem_cons, List.not_mem_nil, or_false] at hu
  rcases hu with rfl | rfl | rfl | rfl <;> rfl
theorem cells4_new (w : World) (v0 v1 v2 v3 : Value) (t : TypeId) : ∀ j u, [v0, v1, v2, v3][j]? = some u → (w.alloc (.cells #[v0, v1, v2, v3] t)).cell? ((⟨w.heap.size, 0, none⟩ : Addr).add j) = some u := by
  intro j u hu
  rw [show (⟨w.heap.size, 0, none⟩ : Addr).add j = ⟨w.heap.size, 0 + j, none⟩ from Addr.add_lit ..]
  have hj := (List.getElem?_eq_some_iff.1 hu).1
  have hj' : j = 0 ∨ j = 1 ∨ j = 2 ∨ j = 3 := by simp at hj; omega
  rcases hj' with rfl | rfl | rfl | rfl <;> simp at hu <;> simp [hu]

theorem allCells_get : ∀ (T : List Ne) (j q : Nat), j < T.length → q < 4 → (allCells T)[j * 4 + q]? = (neCells (T.getD j ne0))[q]?
  | [], j, q, hj, _ => by simp at hj
  | e :: r, 0, q, _, hq => by
    simp only [allCells, List.flatMap_cons, Nat.zero_mul, Nat.zero_add]
    rw [List.getElem?_append_left (by simpa [neCells] using hq)]
    rfl
  | e :: r, j + 1, q, hj, hq => by
    have ih := allCells_get r j q (by simpa using hj) hq
    simp only [allCells, List.flatMap_cons]
    rw [List.getElem?_append_right (by simp [neCells]; omega)]
    have : (j + 1) * 4 + q - (neCells e).length = j * 4 + q := by simp [neCells]; omega
    rw [this]
    simpa [allCells] using ih

theorem row_cells4 {w : World} {base cap : Nat} {a : Option Addr} {T : List Ne} (h : w.ownsRow base 29 4 (.slice a T.length cap) T.length (allCells T)) {j : Nat} (hj : j < T.length) : ∃ g, a = some ⟨g, 0, none⟩ ∧ CellsAt w g (j * 4) (T.getD j ne0) := by
  rcases h.2 with ⟨_, h0⟩ | ⟨g, cap', cur, hv, _⟩
  · omega
  · cases hv
    have f : ∀ q u, q < 4 → (neCells (T.getD j ne0))[q]? = some u → w.cell? ⟨g, j * 4 + q, none⟩ = some u := fun q u hq hu => by
      have := h.cells (g := g) rfl (j * 4 + q) u (by rw [allCells_get T j q hj hq]; exact hu)
      rwa [show (⟨g, 0, none⟩ : Addr).add (j * 4 + q) = ⟨g, 0 + (j * 4 + q), none⟩ from Addr.add_lit .., Nat.zero_add] at this
    exact ⟨g, rfl, f 0 _ (by omega) rfl, f 1 _ (by omega) rfl, f 2 _ (by omega) rfl, f 3 _ (by omega) rfl⟩

theorem row_cap {w : World} {base e size n cap : Nat} {a : Option Addr} {xs : List Value} (h : w.ownsRow base e size (.slice a n cap) n xs) : n ≤ cap ∧ cap ≤ maxLen := by
  rcases h.2 with ⟨hv, h0⟩ | ⟨g, cap', cur, hv, _, _, h1, h2, _⟩
  · cases hv; exact ⟨by omega, by simp⟩
  · cases hv; exact ⟨h1, h2⟩

theorem order_ok {w : World} {p b : Nat} {F : Nat → Prop} {S : List Nt} {D : DataW Value} (h : SH w p b F S D) : StrsOk (orderOf S).1 := by
  rcases orderOf_cases S with ⟨_, h1, h2⟩ | ⟨_, h1⟩
  · refine ⟨by rw [h1]; have := h.few; omega, fun x hx => ?_⟩
    obtain ⟨i, hi, rfl⟩ := List.mem_iff_getElem.1 hx
    have := (h2 i hi).1
    rw [List.getD, List.getElem?_eq_getElem hi] at this
    obtain ⟨n, hn, hnx⟩ := List.mem_map.1 this
    have h3 := (h.inn n hn).1.name
    rw [hnx] at h3
    exact h3
  · rw [h1]; simp [StrsOk]

theorem getNt_leans (S : List Nt) (x : List UInt8) : (getNt S x).leans = leansOf S x := by
  unfold getNt leansOf
  cases S.find? (fun n => n.name == x) <;> rfl

theorem among_take {w : World} {g off cap k : Nat} {o : List (List UInt8)} (hg : g < w.heap.size) (hc : ∀ j, j < o.length → w.cell? ⟨g, off + j, none⟩ = some (encStr (o.getD j []))) (hk : k ≤ o.length) (hl : o.length ≤ 8796093022208) :
    ∀ (y : List UInt8) (b : Bool), (o.take k).contains y = b → ∀ (w2 : World), Below w.heap.size w w2 → Calls Try.prog 27 #[.slice (some ⟨g, off, none⟩) k cap, .string ⟨y.toArray⟩] w2 fun e w' => e = .returned (.bool b) ∧ w' = w2 := by
  intro y b hb w2 hw2
  have hlk : (o.take k).length = k := by rw [List.length_take]; omega
  have := among_any (o.take k) (by omega) y (some ⟨g, off, none⟩) cap w2 (by rw [hlk]; exact (StrsAt.take hg hc hk).below hw2 (Nat.le_refl _))
  rw [hlk, hb] at this
  exact this

theorem drop_rev {T : List Ne} {j : Nat} (hj : j < T.length) : T.drop j = T.getD j ne0 :: T.drop (j + 1) := by
  rw [List.drop_eq_getElem_cons hj, List.getD, List.getElem?_eq_getElem hj]; rfl

theorem addI_rev {w : World} {p b : Nat} {F : Nat → Prop} {T : List Ne} {D : DataW Value} (h : SH w p b F (T.map Ne.n) D) {j : Nat} (hj : j < T.length) : addI ((T.drop (j + 1)).reverse.map Ne.n) (T.getD j ne0).n = 0 := by
  have hm : (T.getD j ne0).n ∈ T.map Ne.n := List.mem_map_of_mem (mem_getD1 hj)
  have hr := (h.inn _ hm).2.1
  have hl : T.length ≤ 64 := by have := h.few; simpa using this
  have hn : ((T.drop j).map fun e => e.n.name).Nodup := by
    have h1 := h.nodup
    rw [List.map_map] at h1
    have h2 : ((T.drop j).map fun e => e.n.name) = (T.map (Nt.name ∘ Ne.n)).drop j := by rw [List.map_drop]; rfl
    rw [h2]
    exact h1.sublist (List.drop_sublist _ _)
  rw [drop_rev hj, List.map_cons, List.nodup_cons] at hn
  have hc : (((T.drop (j + 1)).reverse.map Ne.n).map Nt.name).contains (T.getD j ne0).n.name = false := by
    cases hcc : (((T.drop (j + 1)).reverse.map Ne.n).map Nt.name).contains (T.getD j ne0).n.name with
    | false => rfl
    | true =>
      have := List.contains_iff_mem.1 hcc
      rw [List.map_map] at this
      obtain ⟨e, he, hen⟩ := List.mem_map.1 this
      exact absurd (List.mem_map.2 ⟨e, List.mem_reverse.1 he, hen⟩) hn.1
  have hlen : ((T.drop (j + 1)).reverse.map Ne.n).length < 64 := by simp; omega
  unfold addI
  rw [hr, hc, if_neg (by simp), if_neg (by simp), if_neg (by omega)]

set_option maxRecDepth 100000 in
set_option maxHeartbeats 4000000 in
theorem behind_any (L : List Ne) (sl : Value) (w : World) (hL : NotesAt w sl L) :
    Calls Try.prog 7 #[sl] w fun e w' => e = .returned (.bool true) ∧ Below w.heap.size w w' := by
  obtain ⟨i0, hi, hz0, hz1, hz2⟩ := info_parts Try.info29
  have hlen := hL.2.1
  obtain ⟨a, cap, rfl⟩ : ∃ a cap, sl = .slice a L.length cap := by
    rcases hL.1 with ⟨rfl, a, cap, rfl⟩ | ⟨g, off, cap, rfl, _⟩
    · exact ⟨a, cap, rfl⟩
    · exact ⟨_, cap, rfl⟩
  have HL : Hid (∀ w', Below w.heap.size w w' → NotesAt w' (.slice a L.length cap) L) := fun w' hb => hL.below hb (Nat.le_refl _)
  clear hL
  go_enter Try.func7, Try.ntmps7
  go_wp2_with fail
  refine (alive_any w).mono ?_
  rintro e w1 ⟨rfl, hb1⟩
  have HB1 : Hid (Below w.heap.size w w1) := hb1
  have hw1 := hb1.size
  clear hb1
  go_wp2_with fail
  refine (new_at w1).mono ?_
  rintro e w2 ⟨rfl, hS2, hb2, hz2'⟩
  have HB2 : Hid (Below w.heap.size w w2) := HB1.out.trans (hb2.mono hw1)
  have HS2 := hidIt hS2
  clear hS2 hb2
  go_wp2_with fail
  refine (new_at w2).mono ?_
  rintro e w3 ⟨rfl, hT3, hb3, hz3'⟩
  have HB3 : Hid (Below w.heap.size w w3) := HB2.out.trans (hb3.mono (by omega))
  have HS3 := hidIt (HS2.out.below hb3 (Nat.le_refl _))
  have HT3 := hidIt hT3
  rw [hz2'] at HT3 ⊢
  clear hT3 hb3 HS2
  generalize hp2 : w1.heap.size + 2 + 1 = p2 at *
  generalize hb2 : w1.heap.size + 2 = b2 at *
  generalize hp : w1.heap.size + 1 = p at *
  generalize hb : w1.heap.size = b at *
  have o1 : w.heap.size ≤ b := by omega
  have o2 : b < p := by omega
  have o3 : p < b2 := by omega
  have o4 : b2 < p2 := by omega
  have o5 : p2 < w3.heap.size := by omega
  have hpb2 : p2 ≠ b := by omega
  clear hp2 hb2 hp hb hz2' hz3' hw1
  go_wp2_with fail
  go_loopw [5, 6] (fun v i wr => ∃ (k : Nat) (T : List Ne) (F : Nat → Prop) (D : DataW Value), k ≤ L.length ∧ i = .int .i64 k ∧ SH wr p b F (T.map Ne.n) D ∧ (∀ j, F j → j ≠ b2 ∧ j < wr.heap.size ∧ some j ≠ v.ownBlock) ∧ SH wr p2 b2 (fun j => j = p2 ∨ j = b2) [] (.map []) ∧ wr.ownsRow w.heap.size 29 4 v T.length (allCells T) ∧ (∀ e ∈ T, e ∈ L) ∧ Below w.heap.size w wr ∧ p2 < wr.heap.size ∧ some p2 ≠ v.ownBlock)
    (fun _ i _ => L.length - (intOf i).toNat)
  case atStart =>
    exact ⟨0, [], _, _, Nat.zero_le _, rfl, HS3.out, by rintro j (rfl | rfl) <;> exact ⟨by omega, by omega, by simp [Value.ownBlock]⟩, HT3.out, World.ownsRow_nil _ _ _ _, by simp, HB3.out, o5, by simp [Value.ownBlock]⟩
  case round =>
    obtain ⟨k, T, F, D, hk, rfl, hS, hF, hT, hrow, hTL, hnx, hsz, hpv⟩ := hrel
    obtain ⟨a5, c5, rfl⟩ := row_shape hrow
    by_cases hlt : k < L.length
    · have hNL := HL.out wr hnx
      have hek := mem_getD1 hlt
      have hok := hNL.2.2 _ hek
      rcases hNL.1 with ⟨h0, _⟩ | ⟨g, off, cap', hsl, hg, hcl⟩
      · rw [h0] at hlt; exact absurd hlt (by simp)
      cases hsl
      have hcx := hcl k hlt
      have HG : Hid (g < w.heap.size) := by
        have h2 := HL.out w (Below.refl _ _)
        rcases h2.1 with ⟨h0, _⟩ | ⟨g', off', cap'', hsl', hg', _⟩
        · rw [h0] at hlt; exact absurd hlt (by simp)
        · cases hsl'; exact hg'
      have HCW : Hid (∀ w', Below w.heap.size w w' → CellsAt w' g (off + k * 4) (L.getD k ne0)) := fun w' hb => by
        have h2 := HL.out w' hb
        rcases h2.1 with ⟨h0, _⟩ | ⟨g', off', cap'', hsl', hg', hcl'⟩
        · rw [h0] at hlt; exact absurd hlt (by simp)
        · cases hsl'; exact hcl' k hlt
      clear hcl hNL
      generalize L.getD k ne0 = x at *
      obtain ⟨hc0, hc1, hc2, hc3⟩ := hcx
      have HOK : Hid (NeOk wr x) := hok
      have HS : Hid (SH wr p b F (T.map Ne.n) D) := hS
      have HT : Hid (SH wr p2 b2 (fun j => j = p2 ∨ j = b2) [] (.map [])) := hT
      have HF : Hid (∀ j, F j → j ≠ b2 ∧ j < wr.heap.size ∧ some j ≠ (Value.slice a5 T.length c5).ownBlock) := hF
      have HTL : Hid (∀ e ∈ T, e ∈ L) := hTL
      have HNX : Hid (Below w.heap.size w wr) := hnx
      have HROW : Hid (wr.ownsRow w.heap.size 29 4 (.slice a5 T.length c5) T.length (allCells T)) := hrow
      have hszn := hnx.size
      have HX : Hid (x ∈ L) := hek
      have HPV : Hid (some p2 ≠ (Value.slice a5 T.length c5).ownBlock) := hpv
      clear hpv hS hT hF hTL hnx hrow hok hek
      go_wp2_with fail
      refine (own_any x.n HOK.out.ok x.a x.cap wr HOK.out.at_).mono ?_
      rintro e w4 ⟨a4, c4, rfl, hr4, _, hb4⟩
      have HB4 : Hid (Below w.heap.size w w4) := HNX.out.trans (hb4.mono hszn)
      have HS4 : Hid (SH w4 p b F (T.map Ne.n) D) := HS.out.below hb4 (Nat.le_refl _)
      have HT4 : Hid (SH w4 p2 b2 (fun j => j = p2 ∨ j = b2) [] (.map [])) := HT.out.below hb4 (Nat.le_refl _)
      have HR4 := hidIt (StrsAt.of_row hr4)
      have HW4 : Hid (w4.ownsRow w.heap.size 29 4 (.slice a5 T.length c5) T.length (allCells T)) := HROW.out.kept (grown_of_below hb4 (row := none)) (by cases hq : (Value.slice a5 T.length c5).ownBlock <;> simp)
      have hs4 := hb4.size
      clear hb4 hr4
      go_wp2_with fail
      refine (add_agg x.n HOK.out.ok a4 c4 w4 HR4.out p b F (T.map Ne.n) D HS4.out).mono ?_
      rintro e w5 ⟨F5, D5, rfl, hS5, hF5, _, hg5⟩
      have HB5 : Hid (Below w.heap.size w w5) := HB4.out.grown hg5 HB4.out.size (fun j hj => by cases hj; exact o1)
      have HS5 := hidIt hS5
      have hs5 := hg5.size
      have HF5 : Hid (∀ j, F5 j → j ≠ b2 ∧ j < w5.heap.size ∧ some j ≠ (Value.slice a5 T.length c5).ownBlock) := fun j hj => by
        rcases hF5 j hj with h | ⟨h1, h2⟩
        · have h3 := HF.out j h
          exact ⟨h3.1, by omega, h3.2.2⟩
        · exact ⟨by omega, h2, fun e => by have := (HROW.out.lt j e.symm).2; omega⟩
      have HT5 : Hid (SH w5 p2 b2 (fun j => j = p2 ∨ j = b2) [] (.map [])) := HT4.out.kept hg5.size (fun j hj hl => hg5.block j hl (by rcases hj with rfl | rfl <;> simp <;> omega))
      have HW5 : Hid (w5.ownsRow w.heap.size 29 4 (.slice a5 T.length c5) T.length (allCells T)) := HW4.out.kept hg5 (Or.inr (row_ne_map HW4.out HS4.out.own).symm)
      clear hS5 hF5 hg5 HT4 HW4 HR4
      by_cases hI : addI (T.map Ne.n) x.n = 0
      · have HA : Hid (addS (T.map Ne.n) x.n = (T ++ [x]).map Ne.n) := by show addS _ _ = _; rw [addS, hI]; simp
        have hbe : (addI (T.map Ne.n) x.n == 0) = true := by rw [hI]; rfl
        have HCL : Hid (CellsAt w5 g (off + k * 4) x) := HCW.out w5 HB5.out
        obtain ⟨d0, d1, d2, d3⟩ := HCL.out
        have hfew : T.length + 1 ≤ 64 := by have := HS5.out.few; rw [HA.out] at this; simpa using this
        clear hI
        go_wp2_with (first
          | (at_builtin; refine wpList_append_lies _ rfl _ _ 36 rfl w.heap.size 29 i0 _ 4 56 Try.underlying36 hi hz0 hz1 hz2 rfl (by decide) _ T.length (allCells T) rfl (HW5.out.alloc _) ⟨w5.heap.size, 0, none⟩ 1 1 (neCells x) rfl rfl (cells4_new _ _ _ _ _ _) (ne_oneCell x) (by decide) (by unfold maxLen; omega) (by omega) (by simp; omega) (w5.heap.size + 1) (by simp) ?_; intro g6 c6 w6 hown6 hg6 hat6 hlt6)
          | go_in)
        have h6 := hg6.size
        simp at h6
        have hb5 : ∀ j, j < w5.heap.size → some j ≠ (Value.slice a5 T.length c5).ownBlock → w6.heap[j]? = w5.heap[j]? := fun j hj hne => (hg6.block j (by simp; omega) hne).trans (heap_alloc_old w5 _ j hj)
        go_roundw
        case rel =>
          refine ⟨k + 1, T ++ [x], F5, D5, by omega, by go_num, ?_, ?_, ?_, ?_, ?_, ?_, by omega, ?_⟩
          · rw [← HA.out]
            exact HS5.out.kept (by omega) (fun j hj hl => hb5 j hl (HF5.out j hj).2.2)
          · intro j hj
            have h3 := HF5.out j hj
            refine ⟨h3.1, by omega, ?_⟩
            simp only [Value.ownBlock, ne_eq, Option.some.injEq]
            intro e
            subst e
            rcases hat6 with h | h
            · exact h3.2.2 h.symm
            · omega
          · refine HT5.out.kept (by omega) (fun j hj hl => hb5 j hl ?_)
            intro e
            rcases hj with rfl | rfl
            · exact HPV.out e
            · exact (row_ne_map HW5.out HT5.out.own) e
          · rw [allCells_snoc]; simpa using hown6
          · intro e he
            rcases List.mem_append.1 he with he | he
            · exact HTL.out e he
            · rw [List.mem_singleton] at he; subst he; exact HX.out
          · exact ((HB5.out.alloc HB5.out.size _).grown hg6 (by simp; omega) (fun j hj => (HW5.out.lt j hj).1))
          · simp only [Value.ownBlock, ne_eq, Option.some.injEq]
            intro e
            subst e
            rcases hat6 with h | h
            · exact HPV.out h.symm
            · omega
        case measure => simp [intOf]; omega
      · have hbe : (addI (T.map Ne.n) x.n == 0) = false := by simpa using hI
        have HA : Hid (addS (T.map Ne.n) x.n = T.map Ne.n) := by show addS _ _ = _; rw [addS, if_neg hI]
        clear hI
        go_wp2
        go_roundw
        case rel => exact ⟨k + 1, T, F5, D5, by omega, by go_num, HA.out ▸ HS5.out, HF5.out, HT5.out, HW5.out, HTL.out, HB5.out, by omega, HPV.out⟩
        case measure => simp [intOf]; omega
    · have hT64 : T.length ≤ 64 := by have := hS.few; simpa using this
      have HS : Hid (SH wr p b F (T.map Ne.n) D) := hS
      have HT : Hid (SH wr p2 b2 (fun j => j = p2 ∨ j = b2) [] (.map [])) := hT
      have HF : Hid (∀ j, F j → j ≠ b2 ∧ j < wr.heap.size ∧ some j ≠ (Value.slice a5 T.length c5).ownBlock) := hF
      have HTL : Hid (∀ e ∈ T, e ∈ L) := hTL
      have HNX : Hid (Below w.heap.size w wr) := hnx
      have HROW : Hid (wr.ownsRow w.heap.size 29 4 (.slice a5 T.length c5) T.length (allCells T)) := hrow
      clear hS hT hF hTL hnx hrow hpv
      go_wp2_with fail
      go_loopw [7] (fun i wq => ∃ (k : Nat) (F2 : Nat → Prop) (D2 : DataW Value), k ≤ T.length ∧ i = .int .i64 ((k : Int) - 1) ∧ SH wq p b F (T.map Ne.n) D ∧ SH wq p2 b2 F2 ((T.drop k).reverse.map Ne.n) D2 ∧ (∀ j, F2 j → j ≠ b) ∧ wq.ownsRow w.heap.size 29 4 (.slice a5 T.length c5) T.length (allCells T) ∧ Below w.heap.size w wq ∧ p2 < wq.heap.size)
        (fun i _ => (intOf i + 1).toNat)
      case atStart =>
        refine ⟨T.length, (fun j => j = p2 ∨ j = b2), .map [], Nat.le_refl _, rfl, HS.out, ?_, ?_, HROW.out, HNX.out, hsz⟩
        · rw [List.drop_length]; exact HT.out
        · rintro j (rfl | rfl) <;> omega
      case round =>
        obtain ⟨k, F2, D2, hk, rfl, hS, hT, hF2, hrow, hnx, hsz2⟩ := hrel
        have HSq := hidIt hS
        have HTq := hidIt hT
        have HF2 := hidIt hF2
        have HROWq := hidIt hrow
        have HNXq := hidIt hnx
        have hszn := hnx.size
        clear hS hT hF2
        cases k with
        | zero =>
          clear hrow hnx
          have HO : Hid (orderOf ((T.drop 0).reverse.map Ne.n) = orderOf (T.map Ne.n)) := (order_perm ((List.reverse_perm T).symm.map Ne.n) HSq.out.nodup).symm
          have HCS := hidIt (orderOf_cases (T.map Ne.n))
          have HOK := hidIt (order_ok HSq.out)
          go_wp2_with fail
          refine (order_any wr p b F (T.map Ne.n) D HSq.out).mono ?_
          rintro e w6 ⟨v6, rfl, hr6, hb6⟩
          obtain ⟨a6, c6, rfl⟩ := row_shape hr6
          have HB6 : Hid (Below w.heap.size w w6) := HNXq.out.trans (hb6.mono hszn)
          have HR6 := hidIt hr6
          have HS6 := hidIt (HSq.out.below hb6 (Nat.le_refl _))
          have HT6 := hidIt (HTq.out.below hb6 (Nat.le_refl _))
          have hw6 := HB6.out.size
          clear hr6 hb6
          go_wp2_with fail
          refine (order_any w6 p2 b2 F2 _ D2 HT6.out).mono ?_
          rintro e w7 ⟨v7, rfl, hr7, hb7⟩
          rw [HO.out] at hr7 ⊢
          obtain ⟨a7, c7, rfl⟩ := row_shape hr7
          have HB7 : Hid (Below w.heap.size w w7) := HB6.out.trans (hb7.mono hw6)
          have HA7 := hidIt ((StrsAt.of_row HR6.out).below hb7 (Nat.le_refl _))
          have HC7 := hidIt (StrsAt.of_row hr7)
          have HCAP := hidIt (row_cap HR6.out)
          have HS7 := hidIt (HS6.out.below hb7 (Nat.le_refl _))
          have hw7 := HB7.out.size
          clear hr7 hb7 HR6 HS6 HT6
          generalize (orderOf (T.map Ne.n)).1 = o at *
          generalize (orderOf (T.map Ne.n)).2 = c at *
          have hcc : (c != c) = false := by simp
          have hoo : (o == o) = true := by simp
          have hol : o.length ≤ 8796093022208 := HOK.out.1
          have hct : Calls Try.prog 26 #[.slice a6 o.length c6, .slice a7 o.length c7] w7 fun e w' => e = .returned (.bool true) ∧ Below w7.heap.size w7 w' := by
            have := texts_any o o HOK.out HOK.out a6 a7 c6 c7 w7 HA7.out HC7.out
            rw [hoo] at this
            exact this
          have HCT := hidIt hct
          clear hct hoo
          have HORD : Hid (Orderly (T.map Ne.n) o) := by
            rcases HCS.out with ⟨_, _, h⟩ | ⟨_, h⟩
            · exact h
            · intro i hi; rw [h] at hi; simp at hi
          have hdec : (c == 0) = false ∨ ((c == 0) = true ∧ ((o.length : Int) != (T.length : Int)) = false) := by
            rcases HCS.out with ⟨h1, h2, _⟩ | ⟨h1, _⟩
            · refine .inr ⟨by rw [h1]; rfl, ?_⟩
              rw [List.length_map] at h2
              simp [h2]
            · refine .inl ?_
              rcases h1 with h1 | h1 <;> rw [h1] <;> rfl
          obtain ⟨hcap1, hcap2⟩ := HCAP.out
          unfold maxLen at hcap2
          rcases hdec with hb0 | ⟨hb0, hb1⟩
          all_goals
            go_wp2_with (go_at_call 26; refine HCT.out.mono ?_; rintro e w8 ⟨rfl, hb8⟩)
            have HB8 : Hid (Below w.heap.size w w8) := HB7.out.trans (hb8.mono hw7)
            have HS8 := hidIt (HS7.out.below hb8 (Nat.le_refl _))
            have HA8 := hidIt (HA7.out.below hb8 (Nat.le_refl _))
            have hw8 := HB8.out.size
            clear hb8
            go_loopw [12] (fun i wq => ∃ k : Nat, k ≤ o.length ∧ i = .int .i64 k ∧ Below w8.heap.size w8 wq) (fun i _ => o.length - (intOf i).toNat)
            case atStart => exact ⟨0, Nat.zero_le _, rfl, Below.refl _ _⟩
            case round =>
              obtain ⟨k, hk, rfl, hnx⟩ := hrel
              by_cases hlt : k < o.length
              · obtain ⟨hx1, hx2, hx3⟩ := HORD.out k hlt
                have hSq := HS8.out.below hnx (Nat.le_refl _)
                have hxl := HOK.out.2 _ (mem_getD hlt)
                have hgn := getNt_leans (T.map Ne.n) (o.getD k [])
                have hget := get_any (o.getD k []) hxl wr p b F (T.map Ne.n) D hSq
                rw [List.contains_iff_mem.2 hx1] at hget
                rw [← hgn] at hx3
                rcases HA8.out.below hnx (Nat.le_refl _) with ⟨h0, _⟩ | ⟨g, off, cap', hsl, hg, hcl⟩
                · rw [h0] at hlt; exact absurd hlt (by simp)
                cases hsl
                have hcx : wr.cell? ⟨g, off + k, none⟩ = some (.string ⟨(o.getD k []).toArray⟩) := hcl k hlt
                have HAM := hidIt (among_take hg hcl (Nat.le_of_lt hlt) hol (cap := c6))
                have HGN : Hid (NtOk (getNt (T.map Ne.n) (o.getD k []))) := (hSq.lookG _ hxl).1
                have hlti : (k : Int) < o.length := by omega
                clear hcl hgn hSq
                generalize getNt (T.map Ne.n) (o.getD k []) = m at *
                have HX2 := hidIt hx2
                have HX3 := hidIt hx3
                have HGET := hidIt hget
                have HNX := hidIt hnx
                have hszn := hnx.size
                generalize o.getD k [] = x at *
                clear hx1 hx2 hx3 hget hnx
                have hll : m.leans.length ≤ 8796093022208 := HGN.out.leans.1
                go_wp2_with (go_at_call 23; refine HGET.out.mono ?_; rintro e w9 ⟨a9, c9, rfl, hr9, hb9⟩; have hs9 := hb9.size; have hcx9 : w9.cell? ⟨g, off + k, none⟩ = some (.string ⟨x.toArray⟩) := (hb9.cell (p := ⟨g, off + k, none⟩) hg).trans hcx; have HB9 := hidIt hb9; have HR9 := hidIt hr9; clear hb9 hr9)
                have hg9 : g < w9.heap.size := by omega
                go_quiet ((go_at_call 27; exact Calls.quiet_of_same (HAM.out x false HX2.out _ (below_drewN (HB9.out.alloc HB9.out.size _) _))))
                go_wp2_with fail
                go_loopw [15] (fun i wz => ∃ q : Nat, q ≤ m.leans.length ∧ i = .int .i64 q ∧ Below w9.heap.size w9 wz ∧ wz.cell? ⟨w9.heap.size, 3, none⟩ = some (.slice a9 m.leans.length c9) ∧ w9.heap.size < wz.heap.size) (fun i _ => m.leans.length - (intOf i).toNat)
                case atStart => exact ⟨0, Nat.zero_le _, rfl, below_drewN ((Below.refl _ _).alloc (Nat.le_refl _) _) _, by simp, by simp⟩
                case round =>
                  obtain ⟨q, hq, rfl, hnz, hcz, hsz9⟩ := hrel
                  have hszz := hnz.size
                  by_cases hql : q < m.leans.length
                  · rcases (StrsAt.of_row HR9.out).below hnz (Nat.le_refl _) with ⟨h0, _⟩ | ⟨g9, off9, cap9, hsl9, hg9', hcl9⟩
                    · rw [h0] at hql; exact absurd hql (by simp)
                    cases hsl9
                    have hcy : wr.cell? ⟨g9, off9 + q, none⟩ = some (.string ⟨(m.leans.getD q []).toArray⟩) := hcl9 q hql
                    have HY := hidIt (HX3.out _ (mem_getD hql))
                    have hqli : (q : Int) < m.leans.length := by omega
                    clear hcl9
                    generalize m.leans.getD q [] = y at *
                    have HBZ := hidIt (HB9.out.trans (hnz.mono hs9))
                    go_wp2_with fail
                    go_quiet ((go_at_call 27; exact Calls.quiet_of_same (HAM.out y true HY.out _ (below_drewN HBZ.out _))))
                    go_wp2
                    go_roundw
                    case rel => exact ⟨q + 1, by omega, by go_num, below_drewN hnz _, by simpa using hcz, by simpa using hsz9⟩
                    case measure => simp [intOf]; omega
                  · go_wp2
                    go_roundw
                    case rel => exact ⟨k + 1, by omega, by go_num, HNX.out.trans ((HB9.out.trans (hnz.mono hs9)).mono hszn)⟩
                    case measure => simp [intOf]; omega
              · go_wp2
                go_ret
                exact ⟨rfl, HB8.out.trans (hnx.mono hw8)⟩
        | succ j =>
          have hjl : j < T.length := by omega
          rw [show ((j + 1 : Nat) : Int) - 1 = (j : Int) from by omega]
          have hxT : T.getD j ne0 ∈ T := mem_getD1 hjl
          have hok := (HL.out wr hnx).2.2 _ (HTL.out _ hxT)
          have hcx := row_cells4 hrow hjl
          have hI : addI ((T.drop (j + 1)).reverse.map Ne.n) (T.getD j ne0).n = 0 := addI_rev HSq.out hjl
          have HA : Hid (addS ((T.drop (j + 1)).reverse.map Ne.n) (T.getD j ne0).n = (T.drop j).reverse.map Ne.n) := by
            show addS _ _ = _
            rw [addS, hI, drop_rev hjl]; simp
          obtain ⟨gT, rfl, hc0, hc1, hc2, hc3⟩ := hcx
          have HOK := hidIt hok
          have HI := hidIt hI
          generalize T.getD j ne0 = x at *
          clear hok hI hxT hrow hnx
          go_wp2_with fail
          refine (own_any x.n HOK.out.ok x.a x.cap wr HOK.out.at_).mono ?_
          rintro e w4 ⟨a4, c4, rfl, hr4, _, hb4⟩
          have HB4 : Hid (Below w.heap.size w w4) := HNXq.out.trans (hb4.mono hszn)
          have HS4 := hidIt (HSq.out.below hb4 (Nat.le_refl _))
          have HT4 := hidIt (HTq.out.below hb4 (Nat.le_refl _))
          have HR4 := hidIt (StrsAt.of_row hr4)
          have HW4 : Hid (w4.ownsRow w.heap.size 29 4 (.slice (some ⟨gT, 0, none⟩) T.length c5) T.length (allCells T)) := HROWq.out.kept (grown_of_below hb4 (row := none)) (by simp [Value.ownBlock])
          have hs4 := hb4.size
          clear hb4 hr4
          go_wp2_with fail
          refine (add_agg x.n HOK.out.ok a4 c4 w4 HR4.out p2 b2 F2 _ D2 HT4.out).mono ?_
          rintro e w5 ⟨F5, D5, rfl, hT5, hF5, _, hg5⟩
          rw [HI.out]
          have HB5 : Hid (Below w.heap.size w w5) := HB4.out.grown hg5 HB4.out.size (fun j hj => by cases hj; omega)
          have HT5 := hidIt hT5
          have hs5 := hg5.size
          have HF5 : Hid (∀ j, F5 j → j ≠ b) := fun j hj => by
            rcases hF5 j hj with h | ⟨h1, h2⟩
            · exact HF2.out j h
            · omega
          have HS5 : Hid (SH w5 p b F (T.map Ne.n) D) := HS4.out.kept hg5.size (fun j hj hl => hg5.block j hl (by have := (HF.out j hj).1; simpa using this))
          have HW5 : Hid (w5.ownsRow w.heap.size 29 4 (.slice (some ⟨gT, 0, none⟩) T.length c5) T.length (allCells T)) := HW4.out.kept hg5 (Or.inr (row_ne_map HW4.out HT4.out.own).symm)
          clear hT5 hF5 hg5 HT4 HW4 HR4
          go_wp2
          go_roundw
          case rel => exact ⟨j, F5, D5, by omega, rfl, HS5.out, HA.out ▸ HT5.out, HF5.out, HW5.out, HB5.out, by omega⟩
          case measure => simp [intOf]
end Go.Proofs.Ytnjjpahpaeblfaa
