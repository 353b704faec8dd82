/- What like and notes of the statements answer where the notes are the same: true. -/
import Derived.Test.YtnjjpahpaeblfaaRefT
import Derived.Test.YtnjjpahpaeblfaaTexts
namespace Go.Proofs.Ytnjjpahpaeblfaa
open Go.RowKit Go.Maps Go.Sort
set_option linter.unusedVariables false

set_option maxRecDepth 100000 in
set_option maxHeartbeats 2000000 in
theorem like_same (n : Nt) (hn : NtOk n) (a1 a2 : Option Addr) (c1 c2 : Nat) (w : World) (h1 : StrsAt w (.slice a1 n.leans.length c1) n.leans) (h2 : StrsAt w (.slice a2 n.leans.length c2) n.leans) :
    Calls Try.prog 34 #[.agg #[.string ⟨n.name.toArray⟩, .int .i64 n.words, .int .u32 n.sum, .slice a1 n.leans.length c1], .agg #[.string ⟨n.name.toArray⟩, .int .i64 n.words, .int .u32 n.sum, .slice a2 n.leans.length c2]] w fun e w' => e = .returned (.bool true) ∧ Below w.heap.size w w' := by
  have HB : Hid (∀ o1 o2, Below w.heap.size w ((w.alloc o1).alloc o2)) := fun o1 o2 => ((Below.refl w.heap.size w).alloc (Nat.le_refl _) o1).alloc (by simp) o2
  have HT : Hid (∀ w', Below w.heap.size w w' → Calls Try.prog 26 #[.slice a1 n.leans.length c1, .slice a2 n.leans.length c2] w' fun e w2 => e = .returned (.bool true) ∧ Below w'.heap.size w' w2) := fun w' hb => by
    have := texts_any n.leans n.leans hn.leans hn.leans a1 a2 c1 c2 w' (h1.below hb (Nat.le_refl _)) (h2.below hb (Nat.le_refl _))
    simpa using this
  have e1 : (n.name == n.name) = true := by simp
  have e2 : (n.words == n.words) = true := by simp
  have e3 : (n.sum == n.sum) = true := by simp
  clear h1 h2
  go_enter Try.func34, Try.ntmps34
  go_wp2_with (go_at_call 26; refine (HT.out _ (HB.out _ _)).mono ?_; rintro e w2 ⟨rfl, hb2⟩)
  go_ret
  exact ⟨rfl, (HB.out _ _).trans (hb2.mono (by simp; omega))⟩

theorem row_cells4N {w : World} {base cap t : Nat} {a : Option Addr} {T : List Ne} (h : w.ownsRow base t 4 (.slice a T.length cap) T.length (allCells T)) {j : Nat} (hj : j < T.length) : ∃ g, a = some ⟨g, 0, none⟩ ∧ CellsAt w g (j * 4) (T.getD j ne0) := by
  rcases h.2 with ⟨_, h0⟩ | ⟨g, cap', cur, hv, _⟩
  · omega
  · cases hv
    have f : ∀ q u, q < 4 → (neCells (T.getD j ne0))[q]? = some u → w.cell? ⟨g, j * 4 + q, none⟩ = some u := fun q u hq hu => by
      have := h.cells (g := g) rfl (j * 4 + q) u (by rw [allCells_get T j q hj hq]; exact hu)
      rwa [show (⟨g, 0, none⟩ : Addr).add (j * 4 + q) = ⟨g, 0 + (j * 4 + q), none⟩ from Addr.add_lit .., Nat.zero_add] at this
    exact ⟨g, rfl, f 0 _ (by omega) rfl, f 1 _ (by omega) rfl, f 2 _ (by omega) rfl, f 3 _ (by omega) rfl⟩

set_option maxRecDepth 100000 in
set_option maxHeartbeats 2000000 in
theorem notes_same (T U : List Ne) (hTU : T.map Ne.n = U.map Ne.n) (h64 : T.length ≤ 64) (a1 a2 : Option Addr) (c1 c2 : Nat) (w : World) (base : Nat) (h1 : w.ownsRow base 32 4 (.slice a1 T.length c1) T.length (allCells T)) (hL : ∀ e ∈ T, StrsAt w (.slice e.a e.n.leans.length e.cap) e.n.leans) (h2 : NotesAt w (.slice a2 U.length c2) U) :
    Calls Try.prog 21 #[.slice a1 T.length c1, .slice a2 U.length c2] w fun e w' => e = .returned (.bool true) ∧ Below w.heap.size w w' := by
  have hlen : U.length = T.length := by have := congrArg List.length hTU; simpa using this.symm
  have HTU := hidR hTU
  have H1 := hidR h1
  have HL := hidR hL
  have H2 := hidR h2
  have HLN := hidR hlen
  rw [hlen] at H2 ⊢
  have hbn : ((T.length : Int) != (T.length : Int)) = false := by simp
  clear h1 hL h2 hTU hlen
  go_enter Try.func21, Try.ntmps21
  go_wp2_with fail
  go_loopw [5] (fun i wr => ∃ k : Nat, k ≤ T.length ∧ i = .int .i64 k ∧ Below w.heap.size w wr) (fun i _ => T.length - (intOf i).toNat)
  case atStart => exact ⟨0, Nat.zero_le _, rfl, Below.refl _ _⟩
  case round =>
    obtain ⟨k, hk, rfl, hnx⟩ := hrel
    have HNX := hidR hnx
    have hszn := hnx.size
    by_cases hlt : k < T.length
    · obtain ⟨g1, rfl, hcl1⟩ := row_cells4N H1.out hlt
      have hg1 : g1 < w.heap.size := World.block_lt_of_cell? w _ hcl1.1
      rcases H2.out.1 with ⟨h0, _⟩ | ⟨g2, o2, c', hsl, hg2, hcl2⟩
      · have := HLN.out; rw [h0] at this; simp at this; omega
      rw [Value.slice.injEq] at hsl
      obtain ⟨rfl, hq1, hq2⟩ := hsl
      clear hq1 hq2
      have hkU : k < U.length := by rw [HLN.out]; exact hlt
      have hee : (U.getD k ne0).n = (T.getD k ne0).n := by
        have h3 : (T.map Ne.n)[k]? = (U.map Ne.n)[k]? := by rw [HTU.out]
        rw [List.getElem?_map, List.getElem?_map, List.getElem?_eq_getElem hlt, List.getElem?_eq_getElem hkU] at h3
        rw [List.getD, List.getD, List.getElem?_eq_getElem hlt, List.getElem?_eq_getElem hkU]
        simpa using h3.symm
      obtain ⟨d0, d1, d2, d3⟩ := hcl1.below hnx hg1
      obtain ⟨f0, f1, f2, f3⟩ := (hcl2 k hkU).below hnx hg2
      have hok := H2.out.2.2 _ (mem_getD1 hkU)
      have HS1 := hidR (HL.out _ (mem_getD1 hlt))
      have HS2 := hidR hok.at_
      have HOK := hidR hok.ok
      rw [hee] at f0 f1 f2 f3 HS2 HOK
      clear hcl1 hcl2 hok hee
      generalize T.getD k ne0 = x at *
      have hlti : (k : Int) < T.length := by omega
      have HLK : Hid (∀ w', Below w.heap.size w w' → Calls Try.prog 34 #[.agg #[.string ⟨x.n.name.toArray⟩, .int .i64 x.n.words, .int .u32 x.n.sum, .slice x.a x.n.leans.length x.cap], .agg #[.string ⟨x.n.name.toArray⟩, .int .i64 x.n.words, .int .u32 x.n.sum, .slice (U.getD k ne0).a x.n.leans.length (U.getD k ne0).cap]] w' fun e w2 => e = .returned (.bool true) ∧ Below w'.heap.size w' w2) := fun w' hb => like_same x.n HOK.out _ _ _ _ w' (HS1.out.below hb (Nat.le_refl _)) (HS2.out.below hb (Nat.le_refl _))
      generalize (U.getD k ne0).a = ua at *
      generalize (U.getD k ne0).cap = uc at *
      clear hnx
      go_wp2_with fail
      go_region_with (go_at_call 34; refine (HLK.out _ (below_drew HNX.out)).mono ?_; rintro e w2 ⟨rfl, hb2⟩; have HB2 := hidR hb2; clear hb2)
      all_goals
        go_wp2
        go_roundw
        case rel => exact ⟨k + 1, by omega, by go_num, (below_drew HNX.out).trans (HB2.out.mono hszn)⟩
        case measure => simp [intOf]; omega
    · go_wp2
      go_ret
      exact ⟨rfl, hnx⟩
end Go.Proofs.Ytnjjpahpaeblfaa
