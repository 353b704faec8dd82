/- The walk of ShelfPlays: true for every slice of notes and every slice of texts, and nothing that was there has changed. -/
import Derived.Test.YtnjjpahpaeblfaaPlaysA
import Derived.Test.YtnjjpahpaeblfaaHeldS
import Derived.Deep.DrawnRows
namespace Go.Proofs.Ytnjjpahpaeblfaa
open Go.RowKit Go.Maps Go.Sort
set_option linter.unusedVariables false
attribute [local go_sem ↓] Go.wp_at_zero Go.wp_at_succ

set_option maxRecDepth 100000 in
set_option maxHeartbeats 1000000 in
theorem plays_any (L : List Ne) (sl : Value) (NM : List (List UInt8)) (hNM : StrsOk NM) (a2 : Option Addr) (c2 : Nat) (w : World) (hL : NotesAt w sl L) (h2 : StrsAt w (.slice a2 NM.length c2) NM) :
    Calls Try.prog 5 #[sl, .slice a2 NM.length c2] w fun e w' => e = .returned (.bool true) ∧ Below w.heap.size w w' := by
  have hlen := hL.2.1
  obtain ⟨a, cap, rfl⟩ : ∃ a cap, sl = .slice a L.length cap := by
    rcases hL.1 with ⟨rfl, a, cap, rfl⟩ | ⟨g, off, cap, rfl, _⟩
    · exact ⟨a, cap, rfl⟩
    · exact ⟨_, cap, rfl⟩
  have HL : Hid (∀ w', Below w.heap.size w w' → NotesAt w' (.slice a L.length cap) L) := fun w' hb => hL.below hb (Nat.le_refl _)
  have HN2 : Hid (∀ w', Below w.heap.size w w' → StrsAt w' (.slice a2 NM.length c2) NM) := fun w' hb => h2.below hb (Nat.le_refl _)
  have HNM := hidR hNM
  have hnl := hNM.1
  clear hL h2 hNM
  go_enter Try.func5, Try.ntmps5
  go_wp2_with fail
  refine (new_at w).mono ?_
  rintro e w1 ⟨rfl, hS1, hb1, hz1⟩
  have HB1 := hidR hb1
  have HS1 := hidR hS1
  have hsz1 := hb1.size
  clear hS1 hb1
  go_wp2_with fail
  refine (alive_any _).mono ?_
  rintro e w2 ⟨rfl, hb2⟩
  have hz2 := hb2.size
  simp at hz2
  have hB12 : Below w.heap.size w w2 := (HB1.out.alloc hsz1 _).trans (hb2.mono (by simp; omega))
  have HB2 := hidR hB12
  have HS2 : Hid (SH w2 (w.heap.size + 1) w.heap.size (fun k => k = w.heap.size + 1 ∨ k = w.heap.size) [] (.map [])) := (HS1.out.below ((Below.refl w1.heap.size w1).alloc (Nat.le_refl _) _) (Nat.le_refl _)).below hb2 (Nat.le_refl _)
  have HR2 : Hid (RSF w2 w1.heap.size w.heap.size (fun k => k = w1.heap.size) (.slice none 0 0) []) := by
    refine hidR ⟨((bcell hb2).1 _ 0 (by simp)).trans (by simp), ((bcell hb2).2 _ 0 (by simp)).trans (by simp), World.ownsRow_nil _ _ _ _, by simp, rfl, by simp [Value.ownBlock], by simp, ?_⟩
    rintro k rfl
    omega
  clear hb2 HS1 HB1 hB12
  rw [hz1] at HR2 hz2
  generalize hr : w.heap.size + 2 = r at *
  generalize hp : w.heap.size + 1 = p at *
  obtain ⟨b, hb⟩ : ∃ b, w.heap.size = b := ⟨_, rfl⟩
  rw [hb] at HS2
  have o1 : w.heap.size ≤ b := by omega
  have o2 : b < p := by omega
  have o3 : p < r := by omega
  have o4 : r < w2.heap.size := by omega
  clear hr hp hb hz1 hz2 hsz1
  go_wp2_with fail
  go_loopw [7] (fun i wr => ∃ (k : Nat) (S : List Nt) (T : List Ne) (F G : Nat → Prop) (D : DataW Value) (v : Value), k ≤ L.length ∧ i = .int .i64 k ∧ SH wr p b F S D ∧ RSF wr r w.heap.size G v T ∧ Same S T ∧ (∀ j, F j → j < wr.heap.size ∧ ¬ G j) ∧ Below w.heap.size w wr)
    (fun i _ => L.length - (intOf i).toNat)
  case atStart =>
    exact ⟨0, [], [], _, _, _, _, Nat.zero_le _, rfl, HS2.out, HR2.out, ⟨by simp [notesOf, namesOf], by simp⟩, by rintro j (rfl | rfl) <;> exact ⟨by omega, by omega⟩, HB2.out⟩
  case round =>
    obtain ⟨k, S, T, F, G, D, v, hk, rfl, hS, hR, hSa, hFG, hnx⟩ := hrel
    have h64 : T.length ≤ 64 := by rw [hSa.len]; exact hS.few
    have HS := hidR hS
    have HR := hidR hR
    have HSA := hidR hSa
    have HFG := hidR hFG
    have HNX := hidR hnx
    have hszn := hnx.size
    by_cases hlt : k < L.length
    · have hNL := HL.out wr hnx
      have hek := mem_getD1 hlt
      have hok := hNL.2.2 _ hek
      rcases hNL.1 with ⟨h0, _⟩ | ⟨g, off, cap', hsl, hg, hcl⟩
      · rw [h0] at hlt; exact absurd hlt (by simp)
      cases hsl
      have hcx := hcl k hlt
      have hgw : g < w.heap.size := by
        have h2 := HL.out w (Below.refl _ _)
        rcases h2.1 with ⟨h0, _⟩ | ⟨g', off', cap'', hsl', hg', _⟩
        · rw [h0] at hlt; exact absurd hlt (by simp)
        · cases hsl'; exact hg'
      have HOKW : Hid (∀ w', Below w.heap.size w w' → NeOk w' (L.getD k ne0)) := fun w' hb => (HL.out w' hb).2.2 _ hek
      have HCW : Hid (∀ w', Below w.heap.size w w' → CellsAt w' g (off + k * 4) (L.getD k ne0)) := fun w' hb => by
        have h2 := HL.out w' hb
        rcases h2.1 with ⟨h0, _⟩ | ⟨g', off', cap'', hsl', hg', hcl'⟩
        · rw [h0] at hlt; exact absurd hlt (by simp)
        · cases hsl'; exact hcl' k hlt
      clear hcl hNL hek
      generalize L.getD k ne0 = x at *
      obtain ⟨hc0, hc1, hc2, hc3⟩ := hcx
      have HOK := hidR hok
      have hki : (k : Int) < L.length := by omega
      clear hok hS hR hSa hFG hnx
      go_wp2_with fail
      refine (own_any x.n HOK.out.ok x.a x.cap wr HOK.out.at_).mono ?_
      rintro e w4 ⟨a4, c4, rfl, hr4, hne4, hb4⟩
      have HB4 : Hid (Below w.heap.size w w4) := HNX.out.trans (hb4.mono hszn)
      have HS4 := hidR (HS.out.below hb4 (Nat.le_refl _))
      have HR4 := hidR (HR.out.below hb4 (Nat.le_refl _))
      have HROW4 := hidR hr4
      have hs4 := hb4.size
      obtain ⟨ad4, rfl⟩ : ∃ q, a4 = some q := by cases a4 with | none => exact absurd rfl hne4 | some q => exact ⟨q, rfl⟩
      clear hb4 hr4 hne4 hc0 hc1 hc2 hc3
      go_wp2_with fail
      have HB5 : Hid (Below w.heap.size w (w4.alloc (.cells #[.string ⟨x.n.name.toArray⟩, .int .i64 x.n.words, .int .u32 x.n.sum, .slice (some ad4) x.n.leans.length c4] 32))) := HB4.out.alloc HB4.out.size _
      have HX5 : Hid (Below w4.heap.size w4 (w4.alloc (.cells #[.string ⟨x.n.name.toArray⟩, .int .i64 x.n.words, .int .u32 x.n.sum, .slice (some ad4) x.n.leans.length c4] 32))) := (Below.refl _ _).alloc (Nat.le_refl _) _
      have e0 : (w4.alloc (.cells #[.string ⟨x.n.name.toArray⟩, .int .i64 x.n.words, .int .u32 x.n.sum, .slice (some ad4) x.n.leans.length c4] 32)).cell? ⟨w4.heap.size, 0, none⟩ = some (.string ⟨x.n.name.toArray⟩) := by simp
      have e1 : (w4.alloc (.cells #[.string ⟨x.n.name.toArray⟩, .int .i64 x.n.words, .int .u32 x.n.sum, .slice (some ad4) x.n.leans.length c4] 32)).cell? ⟨w4.heap.size, 1, none⟩ = some (.int .i64 x.n.words) := by simp
      have e2 : (w4.alloc (.cells #[.string ⟨x.n.name.toArray⟩, .int .i64 x.n.words, .int .u32 x.n.sum, .slice (some ad4) x.n.leans.length c4] 32)).cell? ⟨w4.heap.size, 2, none⟩ = some (.int .u32 x.n.sum) := by simp
      have e3 : (w4.alloc (.cells #[.string ⟨x.n.name.toArray⟩, .int .i64 x.n.words, .int .u32 x.n.sum, .slice (some ad4) x.n.leans.length c4] 32)).cell? ⟨w4.heap.size, 3, none⟩ = some (.slice (some ad4) x.n.leans.length c4) := by simp
      have hz5 : (w4.alloc (.cells #[.string ⟨x.n.name.toArray⟩, .int .i64 x.n.words, .int .u32 x.n.sum, .slice (some ad4) x.n.leans.length c4] 32)).heap.size = w4.heap.size + 1 := by simp
      generalize w4.alloc (.cells #[.string ⟨x.n.name.toArray⟩, .int .i64 x.n.words, .int .u32 x.n.sum, .slice (some ad4) x.n.leans.length c4] 32) = w5 at *
      generalize hn8 : w4.heap.size = n8 at *
      have HS5 := hidR (HS4.out.below HX5.out (by omega))
      have HR5 := hidR (HR4.out.below HX5.out (by omega))
      have HROW5 := hidR (HROW4.out.kept (grown_of_below (HX5.out.mono (by omega)) (row := none)) (by cases hq : (Value.slice (some ad4) x.n.leans.length c4).ownBlock <;> simp))
      obtain ⟨d0, d1, d2, d3⟩ := HCW.out _ HB5.out
      have HGN : Hid (∀ j, (Value.slice (some ad4) x.n.leans.length c4).ownBlock = some j → wr.heap.size ≤ j ∧ j < n8) := fun j hj => by have := HROW4.out.lt j hj; omega
      clear HS4 HR4 HROW4 HX5 hn8
      have HFN : Hid (∀ j, F j → j < n8 ∧ ¬ G j) := fun j hj => ⟨by have := (HFG.out j hj).1; omega, (HFG.out j hj).2⟩
      have H16 := hidR (add_agg x.n HOK.out.ok (some ad4) c4 w5.drew ((StrsAt.of_row HROW5.out).below (below_drew (Below.refl w5.heap.size w5)) (Nat.le_refl _)) p b F S D (HS5.out.below (below_drew (Below.refl w5.heap.size w5)) (Nat.le_refl _)))
      have hn8 : n8 < w5.heap.size := by omega
      have hbn : b < n8 := by have := HS.out.own.lt; omega
      have hrn : r < n8 := by have := HR.out.lt r HR.out.gr; omega
      have HFB : Hid (F b) := HS5.out.fb
      have hne : (addI S x.n != addI S x.n) = false := by simp
      refine wp_region_held_drew (S := (fun w' => w'.cell? ⟨n8, 0, none⟩ = some (.string ⟨x.n.name.toArray⟩) ∧ w'.cell? ⟨n8, 1, none⟩ = some (.int .i64 x.n.words) ∧ w'.cell? ⟨n8, 2, none⟩ = some (.int .u32 x.n.sum) ∧ w'.cell? ⟨n8, 3, none⟩ = some (.slice (some ad4) x.n.leans.length c4) ∧ w'.cell? ⟨g, off + k * 4, none⟩ = some (.string ⟨x.n.name.toArray⟩) ∧ w'.cell? ⟨g, off + k * 4 + 1, none⟩ = some (.int .i64 x.n.words) ∧ w'.cell? ⟨g, off + k * 4 + 2, none⟩ = some (.int .u32 x.n.sum) ∧ w'.cell? ⟨g, off + k * 4 + 3, none⟩ = some (.slice x.a x.n.leans.length x.cap))) (by kernel_rfl) ?_ (fun hHeld => ?_)
      · exact ⟨e0, e1, e2, e3, d0, d1, d2, d3⟩
      refine take_at 0 32 (v := ?_) rfl rfl (by kernel_rfl) (by kernel_rfl) (by kernel_rfl) (fun _ _ _ h => h) (by rfl) (by assumption) (fun w hSw => ?_) ?_
      rotate_left
      · (try dsimp only at hSw); go_simp; first | done | with_reducible rfl
      try simp only [Act.put, List.setIfInBounds_toArray, List.set_cons_zero, List.set_cons_succ]
      refine take_at 1 33 (v := ?_) rfl rfl (by kernel_rfl) (by kernel_rfl) (by kernel_rfl) (fun _ _ _ h => h) (by rfl) (by assumption) (fun w hSw => ?_) ?_
      rotate_left
      · (try dsimp only at hSw); go_simp; first | done | with_reducible rfl
      try simp only [Act.put, List.setIfInBounds_toArray, List.set_cons_zero, List.set_cons_succ]
      refine take_at 3 35 (v := ?_) rfl rfl (by kernel_rfl) (by kernel_rfl) (by kernel_rfl) (fun _ _ _ h => h) (by rfl) (by assumption) (fun w hSw => ?_) ?_
      rotate_left
      · (try dsimp only at hSw); go_simp; first | done | with_reducible rfl
      try simp only [Act.put, List.setIfInBounds_toArray, List.set_cons_zero, List.set_cons_succ]
      refine take_at 4 36 (v := ?_) rfl rfl (by kernel_rfl) (by kernel_rfl) (by kernel_rfl) (fun _ _ _ h => h) (by rfl) (by assumption) (fun w hSw => ?_) ?_
      rotate_left
      · (try dsimp only at hSw); go_simp; first | done | with_reducible rfl
      try simp only [Act.put, List.setIfInBounds_toArray, List.set_cons_zero, List.set_cons_succ]
      refine take_at 5 37 (v := ?_) rfl rfl (by kernel_rfl) (by kernel_rfl) (by kernel_rfl) (fun _ _ _ h => h) (by rfl) (by assumption) (fun w hSw => ?_) ?_
      rotate_left
      · (try dsimp only at hSw); go_simp; first | done | with_reducible rfl
      try simp only [Act.put, List.setIfInBounds_toArray, List.set_cons_zero, List.set_cons_succ]
      refine take_at 6 38 (v := ?_) rfl rfl (by kernel_rfl) (by kernel_rfl) (by kernel_rfl) (fun _ _ _ h => h) (by rfl) (by assumption) (fun w hSw => ?_) ?_
      rotate_left
      · (try dsimp only at hSw); go_simp; first | done | with_reducible rfl
      try simp only [Act.put, List.setIfInBounds_toArray, List.set_cons_zero, List.set_cons_succ]
      refine take_at 7 39 (v := ?_) rfl rfl (by kernel_rfl) (by kernel_rfl) (by kernel_rfl) (fun _ _ _ h => h) (by rfl) (by assumption) (fun w hSw => ?_) ?_
      rotate_left
      · (try dsimp only at hSw); go_simp; first | done | with_reducible rfl
      try simp only [Act.put, List.setIfInBounds_toArray, List.set_cons_zero, List.set_cons_succ]
      refine move_at 2 (oi := { dst := some 34, op := Op.call { callee := Callee.value (Operand.func 16), args := #[Operand.tmp 32, Operand.tmp 33], argTypes := #[37, 32] }, type := 30, pos := "law.go:85", after := #[{ on := 0, ground := Ground.data }, { on := 1, ground := Ground.data }], guard := none }) rfl (by kernel_rfl) (by rfl) (fun K hK => ?_)
      go_simp
      go_at_call 16; refine H16.out.mono ?_; rintro e w6 ⟨F6, D6, rfl, hS6, hF6, hFF6, hg6⟩; have HB6 : Hid (Below w.heap.size w w6) := (below_drew HB5.out).grown hg6 HB5.out.size (fun j hj => by cases hj; exact o1); have HS6 := hidR hS6; have HG6 := hidR hg6; have HR6 := hidR ((HR5.out.below (below_drew (Below.refl w5.heap.size w5)) (Nat.le_refl _)).kept hg6.size (fun q hq hl => hg6.block q hl (fun e => by cases e; exact (HFN.out _ HFB.out).2 hq))); have HF6 : Hid (∀ j, F6 j → F j ∨ (w5.heap.size ≤ j ∧ j < w6.heap.size)) := hF6; have f0 : w6.cell? ⟨n8, 0, none⟩ = some (.string ⟨x.n.name.toArray⟩) := (grown_cell hg6 hn8 (by simp; omega)).trans e0; have f1 : w6.cell? ⟨n8, 1, none⟩ = some (.int .i64 x.n.words) := (grown_cell hg6 hn8 (by simp; omega)).trans e1; have f2 : w6.cell? ⟨n8, 2, none⟩ = some (.int .u32 x.n.sum) := (grown_cell hg6 hn8 (by simp; omega)).trans e2; have f3 : w6.cell? ⟨n8, 3, none⟩ = some (.slice (some ad4) x.n.leans.length c4) := (grown_cell hg6 hn8 (by simp; omega)).trans e3; obtain ⟨g0, g1, g2, g3⟩ := HCW.out _ HB6.out; have hsz6 : w5.heap.size ≤ w6.heap.size := hg6.size; have hx6 := HOKW.out _ HB6.out; have H17 := hidR (refAdd_doc x.n HOK.out.ok x.a x.cap hx6.le hx6.max w6 hx6.at_ r w.heap.size G v T S HR6.out HB6.out.size h64 HSA.out); clear hS6 hF6 hFF6 hg6 hx6
      refine hK.out _ _ ⟨f0, f1, f2, f3, g0, g1, g2, g3⟩ (fun hHeld => ?_)
      clear hK K
      try simp only [Act.put, List.setIfInBounds_toArray, List.set_cons_zero, List.set_cons_succ]
      clear e0 e1 e2 e3 d0 d1 d2 d3
      refine move_at 8 (oi := { dst := some 40, op := Op.call { callee := Callee.value (Operand.func 17), args := #[Operand.tmp 35, Operand.tmp 39], argTypes := #[39, 29] }, type := 3, pos := "law.go:85", after := #[{ on := 3, ground := Ground.data }, { on := 7, ground := Ground.data }, { on := 2, ground := Ground.chain }], guard := none }) rfl (by kernel_rfl) (by rfl) (fun K hK => ?_)
      go_simp
      go_at_call 17; refine H17.out.mono ?_; rintro e w7 ⟨rfl, G7, v7, T7, hR7, hSa7, hG7, hg7⟩; have HB7 : Hid (Below w.heap.size w w7) := HB6.out.grown hg7 HB6.out.size (fun j hj => by cases hj; omega); have HR7 := hidR hR7; have HSA7 := hidR hSa7; have HG7 := hidR hG7; have HGR7 := hidR hg7; have hsz7 := hg7.size; have k0 : w7.cell? ⟨n8, 0, none⟩ = some (.string ⟨x.n.name.toArray⟩) := (grown_cell hg7 (by omega) (by simp; omega)).trans f0; have k1 : w7.cell? ⟨n8, 1, none⟩ = some (.int .i64 x.n.words) := (grown_cell hg7 (by omega) (by simp; omega)).trans f1; have k2 : w7.cell? ⟨n8, 2, none⟩ = some (.int .u32 x.n.sum) := (grown_cell hg7 (by omega) (by simp; omega)).trans f2; have k3 : w7.cell? ⟨n8, 3, none⟩ = some (.slice (some ad4) x.n.leans.length c4) := (grown_cell hg7 (by omega) (by simp; omega)).trans f3; obtain ⟨m0, m1, m2, m3⟩ := HCW.out _ HB7.out; have HFR : Hid (∀ q, F6 q → q ≠ r ∧ q < w6.heap.size) := (fun q hq => by rcases HF6.out q hq with h | h; exact ⟨fun e => (HFN.out q h).2 (e ▸ HR5.out.gr), by have := (HFN.out q h).1; omega⟩; exact ⟨by omega, h.2⟩); have HS7 := hidR (HS6.out.kept hg7.size (fun q hq hl => hg7.block q hl (by have := (HFR.out q hq).1; simpa using this))); have h647 : T7.length ≤ 64 := (by rw [hSa7.len]; exact HS7.out.few); obtain ⟨a7, c7, rfl⟩ := row_shape hR7.row; have hcr7 : w7.cell? ⟨r, 0, none⟩ = some (.slice a7 (addS S x.n).length c7) := (by rw [← hSa7.len]; exact hR7.cell); have hnl7 : (((addS S x.n).length : Int) != ((addS S x.n).length : Int)) = false := (by simp); have H18 := hidR (len_any w7 p b F6 _ D6 HS7.out); have H19 := hidR (looks_any x.n.name HOK.out.ok.name w7 p b F6 _ D6 HS7.out r T7 (hR7.rs h647) hSa7 HS7.out.few' h647); clear hR7 hSa7 hG7 hg7
      refine hK.out _ _ ⟨k0, k1, k2, k3, m0, m1, m2, m3⟩ (fun hHeld => ?_)
      clear hK K
      try simp only [Act.put, List.setIfInBounds_toArray, List.set_cons_zero, List.set_cons_succ]
      clear f0 f1 f2 f3 g0 g1 g2 g3
      have hHeld1 := And.intro hHeld hcr7
      refine wpAnyH_strong (S' := fun w' => ((fun w' => w'.cell? ⟨n8, 0, none⟩ = some (.string ⟨x.n.name.toArray⟩) ∧ w'.cell? ⟨n8, 1, none⟩ = some (.int .i64 x.n.words) ∧ w'.cell? ⟨n8, 2, none⟩ = some (.int .u32 x.n.sum) ∧ w'.cell? ⟨n8, 3, none⟩ = some (.slice (some ad4) x.n.leans.length c4) ∧ w'.cell? ⟨g, off + k * 4, none⟩ = some (.string ⟨x.n.name.toArray⟩) ∧ w'.cell? ⟨g, off + k * 4 + 1, none⟩ = some (.int .i64 x.n.words) ∧ w'.cell? ⟨g, off + k * 4 + 2, none⟩ = some (.int .u32 x.n.sum) ∧ w'.cell? ⟨g, off + k * 4 + 3, none⟩ = some (.slice x.a x.n.leans.length x.cap))) w' ∧ w'.cell? ⟨r, 0, none⟩ = some (.slice a7 (addS S x.n).length c7)) (fun _ h => h.1) _ _ _ _ ?_
      clear hHeld
      refine take_at 9 41 (v := ?_) rfl rfl (by kernel_rfl) (by kernel_rfl) (by kernel_rfl) (fun _ _ _ h => h) (by rfl) (by assumption) (fun w hSw => ?_) ?_
      rotate_left
      · (try dsimp only at hSw); go_simp; first | done | with_reducible rfl
      try simp only [Act.put, List.setIfInBounds_toArray, List.set_cons_zero, List.set_cons_succ]
      refine take_at 10 42 (v := ?_) rfl rfl (by kernel_rfl) (by kernel_rfl) (by kernel_rfl) (fun _ _ _ h => h) (by rfl) (by assumption) (fun w hSw => ?_) ?_
      rotate_left
      · (try dsimp only at hSw); go_simp; first | done | with_reducible rfl
      try simp only [Act.put, List.setIfInBounds_toArray, List.set_cons_zero, List.set_cons_succ]
      refine take_at 11 43 (v := ?_) rfl rfl (by kernel_rfl) (by kernel_rfl) (by kernel_rfl) (fun _ _ _ h => h) (by rfl) (by assumption) (fun w hSw => ?_) ?_
      rotate_left
      · (try dsimp only at hSw); go_simp; first | done | with_reducible rfl
      try simp only [Act.put, List.setIfInBounds_toArray, List.set_cons_zero, List.set_cons_succ]
      refine take_at 13 45 (v := ?_) rfl rfl (by kernel_rfl) (by kernel_rfl) (by kernel_rfl) (fun _ _ _ h => h) (by rfl) (by assumption) (fun w hSw => ?_) ?_
      rotate_left
      · (try dsimp only at hSw); go_simp; first | done | with_reducible rfl
      try simp only [Act.put, List.setIfInBounds_toArray, List.set_cons_zero, List.set_cons_succ]
      refine take_at 14 46 (v := ?_) rfl rfl (by kernel_rfl) (by kernel_rfl) (by kernel_rfl) (fun _ _ _ h => h) (by rfl) (by assumption) (fun w hSw => ?_) ?_
      rotate_left
      · (try dsimp only at hSw); go_simp; first | done | with_reducible rfl
      try simp only [Act.put, List.setIfInBounds_toArray, List.set_cons_zero, List.set_cons_succ]
      refine take_at 15 47 (v := ?_) rfl rfl (by kernel_rfl) (by kernel_rfl) (by kernel_rfl) (fun _ _ _ h => h) (by rfl) (by assumption) (fun w hSw => ?_) ?_
      rotate_left
      · (try dsimp only at hSw); go_simp; first | done | with_reducible rfl
      try simp only [Act.put, List.setIfInBounds_toArray, List.set_cons_zero, List.set_cons_succ]
      refine take_at 16 48 (v := ?_) rfl rfl (by kernel_rfl) (by kernel_rfl) (by kernel_rfl) (fun _ _ _ h => h) (by rfl) (by assumption) (fun w hSw => ?_) ?_
      rotate_left
      · (try dsimp only at hSw); go_simp; first | done | with_reducible rfl
      try simp only [Act.put, List.setIfInBounds_toArray, List.set_cons_zero, List.set_cons_succ]
      refine take_at 17 49 (v := ?_) rfl rfl (by kernel_rfl) (by kernel_rfl) (by kernel_rfl) (fun _ _ _ h => h) (by rfl) (by assumption) (fun w hSw => ?_) ?_
      rotate_left
      · (try dsimp only at hSw); go_simp; first | done | with_reducible rfl
      try simp only [Act.put, List.setIfInBounds_toArray, List.set_cons_zero, List.set_cons_succ]
      refine move_at 12 (oi := { dst := some 44, op := Op.call { callee := Callee.value (Operand.func 18), args := #[Operand.tmp 43], argTypes := #[37] }, type := 3, pos := "law.go:85", after := #[{ on := 11, ground := Ground.data }, { on := 10, ground := Ground.chain }, { on := 10, ground := Ground.guard }], guard := some (10, false) }) rfl (by kernel_rfl) (by rfl) (fun K hK => ?_)
      go_simp
      go_at_call 18; refine H18.out.mono ?_; rintro e w' ⟨rfl, rfl⟩
      refine hK.out _ _ ⟨⟨k0, k1, k2, k3, m0, m1, m2, m3⟩, hcr7⟩ (fun hHeld => ?_)
      clear hK K
      try simp only [Act.put, List.setIfInBounds_toArray, List.set_cons_zero, List.set_cons_succ]
      refine take_at 18 50 (v := ?_) rfl rfl (by kernel_rfl) (by kernel_rfl) (by kernel_rfl) (fun _ _ _ h => h) (by rfl) (by assumption) (fun w hSw => ?_) ?_
      rotate_left
      · (try dsimp only at hSw); go_simp; first | done | with_reducible rfl
      try simp only [Act.put, List.setIfInBounds_toArray, List.set_cons_zero, List.set_cons_succ]
      refine take_at 19 51 (v := ?_) rfl rfl (by kernel_rfl) (by kernel_rfl) (by kernel_rfl) (fun _ _ _ h => h) (by rfl) (by assumption) (fun w hSw => ?_) ?_
      rotate_left
      · (try dsimp only at hSw); go_simp; first | done | with_reducible rfl
      try simp only [Act.put, List.setIfInBounds_toArray, List.set_cons_zero, List.set_cons_succ]
      refine take_at 20 52 (v := ?_) rfl rfl (by kernel_rfl) (by kernel_rfl) (by kernel_rfl) (fun _ _ _ h => h) (by rfl) (by assumption) (fun w hSw => ?_) ?_
      rotate_left
      · (try dsimp only at hSw); go_simp; first | done | with_reducible rfl
      try simp only [Act.put, List.setIfInBounds_toArray, List.set_cons_zero, List.set_cons_succ]
      refine take_at 21 53 (v := ?_) rfl rfl (by kernel_rfl) (by kernel_rfl) (by kernel_rfl) (fun _ _ _ h => h) (by rfl) (by assumption) (fun w hSw => ?_) ?_
      rotate_left
      · (try dsimp only at hSw); go_simp; first | done | with_reducible rfl
      try simp only [Act.put, List.setIfInBounds_toArray, List.set_cons_zero, List.set_cons_succ]
      refine take_at 22 54 (v := ?_) rfl rfl (by kernel_rfl) (by kernel_rfl) (by kernel_rfl) (fun _ _ _ h => h) (by rfl) (by assumption) (fun w hSw => ?_) ?_
      rotate_left
      · (try dsimp only at hSw); go_simp; first | done | with_reducible rfl
      try simp only [Act.put, List.setIfInBounds_toArray, List.set_cons_zero, List.set_cons_succ]
      refine take_at 23 55 (v := ?_) rfl rfl (by kernel_rfl) (by kernel_rfl) (by kernel_rfl) (fun _ _ _ h => h) (by rfl) (by assumption) (fun w hSw => ?_) ?_
      rotate_left
      · (try dsimp only at hSw); go_simp; first | done | with_reducible rfl
      try simp only [Act.put, List.setIfInBounds_toArray, List.set_cons_zero, List.set_cons_succ]
      refine take_at 24 56 (v := ?_) rfl rfl (by kernel_rfl) (by kernel_rfl) (by kernel_rfl) (fun _ _ _ h => h) (by rfl) (by assumption) (fun w hSw => ?_) ?_
      rotate_left
      · (try dsimp only at hSw); go_simp; first | done | with_reducible rfl
      try simp only [Act.put, List.setIfInBounds_toArray, List.set_cons_zero, List.set_cons_succ]
      refine take_at 25 57 (v := ?_) rfl rfl (by kernel_rfl) (by kernel_rfl) (by kernel_rfl) (fun _ _ _ h => h) (by rfl) (by assumption) (fun w hSw => ?_) ?_
      rotate_left
      · (try dsimp only at hSw); go_simp; first | done | with_reducible rfl
      try simp only [Act.put, List.setIfInBounds_toArray, List.set_cons_zero, List.set_cons_succ]
      refine take_at 26 58 (v := ?_) rfl rfl (by kernel_rfl) (by kernel_rfl) (by kernel_rfl) (fun _ _ _ h => h) (by rfl) (by assumption) (fun w hSw => ?_) ?_
      rotate_left
      · (try dsimp only at hSw); go_simp; first | done | with_reducible rfl
      try simp only [Act.put, List.setIfInBounds_toArray, List.set_cons_zero, List.set_cons_succ]
      refine take_at 27 59 (v := ?_) rfl rfl (by kernel_rfl) (by kernel_rfl) (by kernel_rfl) (fun _ _ _ h => h) (by rfl) (by assumption) (fun w hSw => ?_) ?_
      rotate_left
      · (try dsimp only at hSw); go_simp; first | done | with_reducible rfl
      try simp only [Act.put, List.setIfInBounds_toArray, List.set_cons_zero, List.set_cons_succ]
      refine move_at 28 (oi := { dst := some 60, op := Op.call { callee := Callee.value (Operand.func 19), args := #[Operand.tmp 53, Operand.tmp 54, Operand.tmp 59], argTypes := #[37, 39, 9] }, type := 4, pos := "law.go:85", after := #[{ on := 21, ground := Ground.data }, { on := 22, ground := Ground.data }, { on := 27, ground := Ground.data }, { on := 20, ground := Ground.chain }, { on := 20, ground := Ground.guard }], guard := some (20, false) }) rfl (by kernel_rfl) (by rfl) (fun K hK => ?_)
      go_simp
      go_at_call 19; refine H19.out.mono ?_; rintro e w8 ⟨rfl, hb8⟩; have HX8 := hidR hb8; have hsz8 := hb8.size; have q0 : w8.cell? ⟨n8, 0, none⟩ = some (.string ⟨x.n.name.toArray⟩) := ((bcell hb8).1 _ 0 (by omega)).trans k0; have q1 : w8.cell? ⟨n8, 1, none⟩ = some (.int .i64 x.n.words) := ((bcell hb8).1 _ 1 (by omega)).trans k1; have q2 : w8.cell? ⟨n8, 2, none⟩ = some (.int .u32 x.n.sum) := ((bcell hb8).1 _ 2 (by omega)).trans k2; have q3 : w8.cell? ⟨n8, 3, none⟩ = some (.slice (some ad4) x.n.leans.length c4) := ((bcell hb8).1 _ 3 (by omega)).trans k3; have HB8 : Hid (Below w.heap.size w w8) := HB7.out.trans (hb8.mono HB7.out.size); have hcr8 : w8.cell? ⟨r, 0, none⟩ = some (.slice a7 (addS S x.n).length c7) := ((bcell hb8).1 r 0 (by omega)).trans hcr7; obtain ⟨t0, t1, t2, t3⟩ := HCW.out _ HB8.out; clear hb8
      refine hK.out _ _ ⟨⟨q0, q1, q2, q3, t0, t1, t2, t3⟩, hcr8⟩ (fun hHeld => ?_)
      clear hK K
      try simp only [Act.put, List.setIfInBounds_toArray, List.set_cons_zero, List.set_cons_succ]
      refine take_at 29 61 (v := ?_) rfl rfl (by kernel_rfl) (by kernel_rfl) (by kernel_rfl) (fun _ _ _ h => h) (by rfl) (by assumption) (fun w hSw => ?_) ?_
      rotate_left
      · (try dsimp only at hSw); go_simp; first | done | with_reducible rfl
      try simp only [Act.put, List.setIfInBounds_toArray, List.set_cons_zero, List.set_cons_succ]
      refine take_at 30 62 (v := ?_) rfl rfl (by kernel_rfl) (by kernel_rfl) (by kernel_rfl) (fun _ _ _ h => h) (by rfl) (by assumption) (fun w hSw => ?_) ?_
      rotate_left
      · (try dsimp only at hSw); go_simp; first | done | with_reducible rfl
      try simp only [Act.put, List.setIfInBounds_toArray, List.set_cons_zero, List.set_cons_succ]
      refine wpAnyH_done (by kernel_rfl) ?_ _
      clear k0 k1 k2 k3 m0 m1 m2 m3 q0 q1 q2 t0 t1 t2 t3 hHeld hHeld1 hcr7 hcr8 H16 H17 H18 H19
      have hsz58 : w5.heap.size ≤ w8.heap.size := by omega
      obtain ⟨g4, rfl⟩ : ∃ g4, ad4 = ⟨g4, 0, none⟩ := by
        rcases HROW5.out.2 with ⟨h0, _⟩ | ⟨g, cap2, cur, hv, _⟩
        · cases h0
        · rw [Value.slice.injEq] at hv; exact ⟨g, by injection hv.1⟩
      have hg4 : wr.heap.size ≤ g4 ∧ g4 < n8 := HGN.out g4 rfl
      have HROW8 := hidR (((HROW5.out.drew.kept HG6.out (.inr (by simp only [Value.ownBlock, ne_eq, Option.some.injEq]; have := HS.out.own.lt; omega))).kept HGR7.out (.inr (by simp only [Value.ownBlock, ne_eq, Option.some.injEq]; have := HR.out.lt r HR.out.gr; omega))).kept (grown_of_below HX8.out (row := none)) (by simp [Value.ownBlock]))
      have HS8 := hidR (HS7.out.below HX8.out (Nat.le_refl _))
      have HR8 := hidR (HR7.out.below HX8.out (Nat.le_refl _))
      have HFG8 : Hid (∀ j, F6 j → j < w8.heap.size ∧ j ≠ g4 ∧ ¬ G7 j) := fun j hj => by
        have h1 := (HFR.out j hj).2
        rcases HF6.out j hj with h | h
        · have h2 := HFG.out j h
          refine ⟨by omega, by omega, fun hg => ?_⟩
          rcases HG7.out j hg with h3 | h3
          · exact h2.2 h3
          · omega
        · refine ⟨by omega, by omega, fun hg => ?_⟩
          rcases HG7.out j hg with h3 | h3
          · have := HR.out.lt j h3; omega
          · omega
      have HGG8 : Hid (∀ j, G7 j → j ≠ g4) := fun j hj => by
        rcases HG7.out j hj with h3 | h3
        · have := HR.out.lt j h3; omega
        · omega
      clear HS5 HR5 HROW5 HG6 HGR7 HX8 HS7 HR7 HS6 HR6 HF6 HG7 HFR HGN HFN HFB HB5 HB6 HB7 HB4 HNX HFG HS HR HSA
      have HROW9 := hidR (row_mono HROW8.out hszn)
      have hgw4 : w.heap.size ≤ g4 := by omega
      clear HROW8
      have hlnb : x.n.leans.length ≤ 8796093022208 := HOK.out.ok.leans.1
      generalize x.n.leans.length = ln at *
      go_wp2_with fail
      go_loopw [9] (fun i wq => ∃ (q : Nat) (xs : List Value), q ≤ ln ∧ i = .int .i64 q ∧ wq.ownsRow w.heap.size 9 1 (.slice (some ⟨g4, 0, none⟩) ln c4) ln xs ∧ w8.grownBy wq (some g4)) (fun i _ => ln - (intOf i).toNat)
      case atStart => exact ⟨0, _, Nat.zero_le _, rfl, HROW9.out, ⟨rfl, rfl, rfl, Nat.le_refl _, fun _ _ _ => rfl⟩⟩
      case round =>
        clear HROW9
        obtain ⟨q, xs, hq, rfl, hrow, hgr⟩ := hrel
        have HRW := hidR hrow
        have HGR := hidR hgr
        have hn3 : wr.cell? ⟨n8, 3, none⟩ = some (.slice (some ⟨g4, 0, none⟩) ln c4) := (grown_cell hgr (by omega) (by simp; omega)).trans q3
        have hszq := hgr.size
        by_cases hlq : q < ln
        · obtain ⟨u, hu⟩ : ∃ u, wr.cell? ⟨g4, q, none⟩ = some u := by
            have hxl : xs.length = ln * 1 := hrow.1
            exact ⟨_, (hrow.cellAt q (by omega)).trans (List.getElem?_eq_getElem (by omega))⟩
          have hfq := hrow.frozenAt q
          have hqi : (q : Int) < ln := by omega
          clear hrow hgr
          go_wp2
          go_roundw
          case rel =>
            have h1 := HRW.out.stored q (.string ⟨#[115, 112, 111, 105, 108, 116]⟩)
            exact ⟨q + 1, _, by omega, by go_num, h1.1, ⟨h1.2.os.trans HGR.out.os, h1.2.tape.trans HGR.out.tape, h1.2.output.trans HGR.out.output, Nat.le_trans HGR.out.size h1.2.size, fun j hj hne => (h1.2.block j (Nat.lt_of_lt_of_le hj HGR.out.size) hne).trans (HGR.out.block j hj hne)⟩⟩
          case measure => simp [intOf]; omega
        · have hd : ¬ (q : Int) < ln := by omega
          clear hrow hgr
          go_wp2
          go_roundw
          case rel =>
            refine ⟨k + 1, addS S x.n, T7, F6, G7, D6, _, by omega, by go_num, HS8.out.kept hszq (fun j hj hl => HGR.out.block j hl ?_), HR8.out.kept hszq (fun j hj hl => HGR.out.block j hl ?_), HSA7.out, fun j hj => ⟨?_, (HFG8.out j hj).2.2⟩, HB8.out.grown HGR.out HB8.out.size (fun j hj => by cases hj; exact hgw4)⟩
            · have := (HFG8.out j hj).2.1; simpa using this
            · have := HGG8.out j hj; simpa using this
            · have := (HFG8.out j hj).1; omega
          case measure => simp [intOf]; omega
    · clear HL
      obtain ⟨wz, hwz⟩ : ∃ wz, wz = wr := ⟨_, rfl⟩
      subst hwz
      obtain ⟨av, cv, rfl⟩ := row_shape hR.row
      have HSZ : Hid (∀ w', Below wz.heap.size wz w' → SH w' p b F S D) := fun w' hb => HS.out.below hb (Nat.le_refl _)
      have HRZ : Hid (∀ w', Below wz.heap.size wz w' → RSF w' r w.heap.size G (.slice av T.length cv) T) := fun w' hb => HR.out.below hb (Nat.le_refl _)
      have HWZ : Hid (∀ w', Below wz.heap.size wz w' → Below w.heap.size w w') := fun w' hb => HNX.out.trans (hb.mono hszn)
      have HFW := hidR hS.few'
      have hkL : ¬ (k : Int) < L.length := by omega
      clear hS hR hSa hFG hnx
      go_wp2_with fail
      go_loopw [10] (fun i wq => ∃ (q : Nat), q ≤ NM.length ∧ i = .int .i64 q ∧ Below wz.heap.size wz wq) (fun i _ => NM.length - (intOf i).toNat)
      case atStart => exact ⟨0, Nat.zero_le _, rfl, Below.refl _ _⟩
      case round =>
        obtain ⟨q, hq, rfl, hbq⟩ := hrel
        have HBQ := hidR hbq
        have hszq := hbq.size
        by_cases hlq : q < NM.length
        · have hst := HN2.out _ (HWZ.out _ hbq)
          rcases hst with ⟨h0, _⟩ | ⟨gn, on, cn, hsl, hgn, hcn⟩
          · rw [h0] at hlq; exact absurd hlq (by simp)
          rw [Value.slice.injEq] at hsl
          obtain ⟨rfl, hq1, hq2⟩ := hsl
          have hcq : wr.cell? ⟨gn, on + q, none⟩ = some (.string ⟨(NM.getD q []).toArray⟩) := hcn q hlq
          have hyl : (NM.getD q []).length ≤ maxLen := HNM.out.2 _ (mem_getD hlq)
          have hqi : (q : Int) < NM.length := by omega
          clear hcn hq1 hq2 hbq
          generalize NM.getD q [] = y at *
          have H19 := hidR (looks_any y hyl wr p b F S D (HSZ.out _ HBQ.out) r T ((HRZ.out _ HBQ.out).rs h64) HSA.out HFW.out h64)
          go_wp2_with (go_at_call 19; refine H19.out.mono ?_; rintro e w9 ⟨rfl, hb9⟩)
          go_roundw
          case rel => exact ⟨q + 1, by omega, by go_num, HBQ.out.trans (hb9.mono hszq)⟩
          case measure => simp [intOf]; omega
        · have hqd : ¬ (q : Int) < NM.length := by omega
          clear hbq
          go_wp2_with fail
          refine (clone_any wr p b F S D (HSZ.out _ HBQ.out)).mono ?_
          rintro e w10 ⟨p3, b3, F3, S3, D3, rfl, hS3, hP3, hF3, hb10⟩
          have hBz : Below wz.heap.size wz w10 := HBQ.out.trans (hb10.mono hszq)
          have HBZ10 := hidR hBz
          have HS3 := hidR hS3
          have HP3 := hidR hP3
          have hsz10 := hBz.size
          have HRZ10 := hidR (HRZ.out _ hBz)
          have hcr10 := HRZ10.out.cell
          have hrz : r < wz.heap.size := HR.out.lt r HR.out.gr
          have HCR : Hid (∀ w', Below wz.heap.size wz w' → w'.cell? ⟨r, 0, none⟩ = some (.slice av T.length cv)) := fun w' hb => (HRZ.out _ hb).cell
          have HNS : Hid (∀ (T3 : List Ne) (a1 : Option Addr) (c1 : Nat) (w' : World) (base : Nat), Below wz.heap.size wz w' → T3.map Ne.n = notesOf S → w'.ownsRow base 32 4 (.slice a1 T3.length c1) T3.length (allCells T3) → LeansAt w' base T3 → Calls Try.prog 21 #[.slice a1 T3.length c1, .slice av T.length cv] w' fun e w2 => e = .returned (.bool true) ∧ Below w'.heap.size w' w2) := fun T3 a1 c1 w' base hb hm hr hl => by
            have hm2 : T3.map Ne.n = T.map Ne.n := hm.trans HSA.out.notes.symm
            have hl3 : T3.length ≤ 64 := by have := congrArg List.length hm2; simp at this; omega
            have hR' := HRZ.out _ hb
            exact notes_same T3 T hm2 hl3 a1 av c1 cv w' base hr (fun e he => StrsAt.of_row (hl e he)) (NotesAt.of_row hR'.row hR'.ok (by omega))
          have H22a := hidR (notes_any w10.drew p3 b3 F3 S3 D3 (HS3.out.below (below_drew (Below.refl w10.heap.size w10)) (Nat.le_refl _)))
          have HN3 : Hid (notesOf S3 = notesOf S) := notes_perm HP3.out HS3.out.nodup
          clear hS3 hP3 hF3 hb10 hBz
          go_wp2_with fail
          refine wp_region_held_drew (S := fun w' => w'.cell? ⟨r, 0, none⟩ = some (.slice av T.length cv)) (by kernel_rfl) ?_ (fun hHeld => ?_)
          · exact hcr10
          refine take_at 0 90 (v := ?_) rfl rfl (by kernel_rfl) (by kernel_rfl) (by kernel_rfl) (fun _ _ _ h => h) (by rfl) (by assumption) (fun w hSw => ?_) ?_
          rotate_left
          · (try dsimp only at hSw); go_simp; first | done | with_reducible rfl
          try simp only [Act.put, List.setIfInBounds_toArray, List.set_cons_zero, List.set_cons_succ]
          refine take_at 1 91 (v := ?_) rfl rfl (by kernel_rfl) (by kernel_rfl) (by kernel_rfl) (fun _ _ _ h => h) (by rfl) (by assumption) (fun w hSw => ?_) ?_
          rotate_left
          · (try dsimp only at hSw); go_simp; first | done | with_reducible rfl
          try simp only [Act.put, List.setIfInBounds_toArray, List.set_cons_zero, List.set_cons_succ]
          refine take_at 2 92 (v := ?_) rfl rfl (by kernel_rfl) (by kernel_rfl) (by kernel_rfl) (fun _ _ _ h => h) (by rfl) (by assumption) (fun w hSw => ?_) ?_
          rotate_left
          · (try dsimp only at hSw); go_simp; first | done | with_reducible rfl
          try simp only [Act.put, List.setIfInBounds_toArray, List.set_cons_zero, List.set_cons_succ]
          refine take_at 3 93 (v := ?_) rfl rfl (by kernel_rfl) (by kernel_rfl) (by kernel_rfl) (fun _ _ _ h => h) (by rfl) (by assumption) (fun w hSw => ?_) ?_
          rotate_left
          · (try dsimp only at hSw); go_simp; first | done | with_reducible rfl
          try simp only [Act.put, List.setIfInBounds_toArray, List.set_cons_zero, List.set_cons_succ]
          refine take_at 5 95 (v := ?_) rfl rfl (by kernel_rfl) (by kernel_rfl) (by kernel_rfl) (fun _ _ _ h => h) (by rfl) (by assumption) (fun w hSw => ?_) ?_
          rotate_left
          · (try dsimp only at hSw); go_simp; first | done | with_reducible rfl
          try simp only [Act.put, List.setIfInBounds_toArray, List.set_cons_zero, List.set_cons_succ]
          refine take_at 6 96 (v := ?_) rfl rfl (by kernel_rfl) (by kernel_rfl) (by kernel_rfl) (fun _ _ _ h => h) (by rfl) (by assumption) (fun w hSw => ?_) ?_
          rotate_left
          · (try dsimp only at hSw); go_simp; first | done | with_reducible rfl
          try simp only [Act.put, List.setIfInBounds_toArray, List.set_cons_zero, List.set_cons_succ]
          refine take_at 7 97 (v := ?_) rfl rfl (by kernel_rfl) (by kernel_rfl) (by kernel_rfl) (fun _ _ _ h => h) (by rfl) (by assumption) (fun w hSw => ?_) ?_
          rotate_left
          · (try dsimp only at hSw); go_simp; first | done | with_reducible rfl
          try simp only [Act.put, List.setIfInBounds_toArray, List.set_cons_zero, List.set_cons_succ]
          refine take_at 8 98 (v := ?_) rfl rfl (by kernel_rfl) (by kernel_rfl) (by kernel_rfl) (fun _ _ _ h => h) (by rfl) (by assumption) (fun w hSw => ?_) ?_
          rotate_left
          · (try dsimp only at hSw); go_simp; first | done | with_reducible rfl
          try simp only [Act.put, List.setIfInBounds_toArray, List.set_cons_zero, List.set_cons_succ]
          refine move_at 4 (oi := { dst := some 94, op := Op.call { callee := Callee.value (Operand.func 22), args := #[Operand.tmp 93], argTypes := #[37] }, type := 45, pos := "law.go:98", after := #[{ on := 3, ground := Ground.data }, { on := 2, ground := Ground.chain }, { on := 2, ground := Ground.guard }], guard := some (2, true) }) rfl (by kernel_rfl) (by rfl) (fun K hK => ?_)
          go_simp
          go_at_call 22; refine H22a.out.mono ?_; rintro e w11 ⟨v11, T11, rfl, hm11, hl11, hr11, hL11, hb11⟩; obtain ⟨a11, c11, rfl⟩ := row_shape hr11; have HBZ11 : Hid (Below wz.heap.size wz w11) := (below_drew HBZ10.out).trans (hb11.mono hsz10); have hcr11 := HCR.out _ HBZ11.out; have hsz11 := HBZ11.out.size; have H21a := hidR (HNS.out T11 a11 c11 w11 _ HBZ11.out (hm11.trans HN3.out) hr11 hL11); clear hm11 hr11 hL11 hb11 hl11
          refine hK.out _ _ hcr11 (fun hHeld => ?_)
          clear hK K
          try simp only [Act.put, List.setIfInBounds_toArray, List.set_cons_zero, List.set_cons_succ]
          refine move_at 9 (oi := { dst := some 99, op := Op.call { callee := Callee.value (Operand.func 21), args := #[Operand.tmp 94, Operand.tmp 98], argTypes := #[45, 36] }, type := 4, pos := "law.go:98", after := #[{ on := 4, ground := Ground.data }, { on := 8, ground := Ground.data }, { on := 4, ground := Ground.chain }, { on := 2, ground := Ground.guard }], guard := some (2, true) }) rfl (by kernel_rfl) (by rfl) (fun K hK => ?_)
          go_simp
          go_at_call 21; refine H21a.out.mono ?_; rintro e w12 ⟨rfl, hb12⟩; have HBZ12 : Hid (Below wz.heap.size wz w12) := HBZ11.out.trans (hb12.mono hsz11); have hcr12 := HCR.out _ HBZ12.out; have hsz12 := HBZ12.out.size; have H22b := hidR (notes_any w12 p b F S D (HSZ.out _ HBZ12.out)); clear hb12
          refine hK.out _ _ hcr12 (fun hHeld => ?_)
          clear hK K
          try simp only [Act.put, List.setIfInBounds_toArray, List.set_cons_zero, List.set_cons_succ]
          refine take_at 10 100 (v := ?_) rfl rfl (by kernel_rfl) (by kernel_rfl) (by kernel_rfl) (fun _ _ _ h => h) (by rfl) (by assumption) (fun w hSw => ?_) ?_
          rotate_left
          · (try dsimp only at hSw); go_simp; first | done | with_reducible rfl
          try simp only [Act.put, List.setIfInBounds_toArray, List.set_cons_zero, List.set_cons_succ]
          refine take_at 11 101 (v := ?_) rfl rfl (by kernel_rfl) (by kernel_rfl) (by kernel_rfl) (fun _ _ _ h => h) (by rfl) (by assumption) (fun w hSw => ?_) ?_
          rotate_left
          · (try dsimp only at hSw); go_simp; first | done | with_reducible rfl
          try simp only [Act.put, List.setIfInBounds_toArray, List.set_cons_zero, List.set_cons_succ]
          refine take_at 12 102 (v := ?_) rfl rfl (by kernel_rfl) (by kernel_rfl) (by kernel_rfl) (fun _ _ _ h => h) (by rfl) (by assumption) (fun w hSw => ?_) ?_
          rotate_left
          · (try dsimp only at hSw); go_simp; first | done | with_reducible rfl
          try simp only [Act.put, List.setIfInBounds_toArray, List.set_cons_zero, List.set_cons_succ]
          refine take_at 14 104 (v := ?_) rfl rfl (by kernel_rfl) (by kernel_rfl) (by kernel_rfl) (fun _ _ _ h => h) (by rfl) (by assumption) (fun w hSw => ?_) ?_
          rotate_left
          · (try dsimp only at hSw); go_simp; first | done | with_reducible rfl
          try simp only [Act.put, List.setIfInBounds_toArray, List.set_cons_zero, List.set_cons_succ]
          refine take_at 15 105 (v := ?_) rfl rfl (by kernel_rfl) (by kernel_rfl) (by kernel_rfl) (fun _ _ _ h => h) (by rfl) (by assumption) (fun w hSw => ?_) ?_
          rotate_left
          · (try dsimp only at hSw); go_simp; first | done | with_reducible rfl
          try simp only [Act.put, List.setIfInBounds_toArray, List.set_cons_zero, List.set_cons_succ]
          refine take_at 16 106 (v := ?_) rfl rfl (by kernel_rfl) (by kernel_rfl) (by kernel_rfl) (fun _ _ _ h => h) (by rfl) (by assumption) (fun w hSw => ?_) ?_
          rotate_left
          · (try dsimp only at hSw); go_simp; first | done | with_reducible rfl
          try simp only [Act.put, List.setIfInBounds_toArray, List.set_cons_zero, List.set_cons_succ]
          refine take_at 17 107 (v := ?_) rfl rfl (by kernel_rfl) (by kernel_rfl) (by kernel_rfl) (fun _ _ _ h => h) (by rfl) (by assumption) (fun w hSw => ?_) ?_
          rotate_left
          · (try dsimp only at hSw); go_simp; first | done | with_reducible rfl
          try simp only [Act.put, List.setIfInBounds_toArray, List.set_cons_zero, List.set_cons_succ]
          refine move_at 13 (oi := { dst := some 103, op := Op.call { callee := Callee.value (Operand.func 22), args := #[Operand.tmp 102], argTypes := #[37] }, type := 45, pos := "law.go:98", after := #[{ on := 12, ground := Ground.data }, { on := 11, ground := Ground.chain }, { on := 11, ground := Ground.guard }], guard := some (11, true) }) rfl (by kernel_rfl) (by rfl) (fun K hK => ?_)
          go_simp
          go_at_call 22; refine H22b.out.mono ?_; rintro e w13 ⟨v13, T13, rfl, hm13, hl13, hr13, hL13, hb13⟩; obtain ⟨a13, c13, rfl⟩ := row_shape hr13; have HBZ13 : Hid (Below wz.heap.size wz w13) := HBZ12.out.trans (hb13.mono hsz12); have hcr13 := HCR.out _ HBZ13.out; have hsz13 := HBZ13.out.size; have H21b := hidR (HNS.out T13 a13 c13 w13 _ HBZ13.out hm13 hr13 hL13); clear hm13 hr13 hL13 hb13 hl13
          refine hK.out _ _ hcr13 (fun hHeld => ?_)
          clear hK K
          try simp only [Act.put, List.setIfInBounds_toArray, List.set_cons_zero, List.set_cons_succ]
          refine move_at 18 (oi := { dst := some 108, op := Op.call { callee := Callee.value (Operand.func 21), args := #[Operand.tmp 103, Operand.tmp 107], argTypes := #[45, 36] }, type := 4, pos := "law.go:98", after := #[{ on := 13, ground := Ground.data }, { on := 17, ground := Ground.data }, { on := 13, ground := Ground.chain }, { on := 11, ground := Ground.guard }], guard := some (11, true) }) rfl (by kernel_rfl) (by rfl) (fun K hK => ?_)
          go_simp
          go_at_call 21; refine H21b.out.mono ?_; rintro e w14 ⟨rfl, hb14⟩; have HBZ14 : Hid (Below wz.heap.size wz w14) := HBZ13.out.trans (hb14.mono hsz13); have hcr14 := HCR.out _ HBZ14.out; clear hb14
          refine hK.out _ _ hcr14 (fun hHeld => ?_)
          clear hK K
          try simp only [Act.put, List.setIfInBounds_toArray, List.set_cons_zero, List.set_cons_succ]
          refine take_at 19 109 (v := ?_) rfl rfl (by kernel_rfl) (by kernel_rfl) (by kernel_rfl) (fun _ _ _ h => h) (by rfl) (by assumption) (fun w hSw => ?_) ?_
          rotate_left
          · (try dsimp only at hSw); go_simp; first | done | with_reducible rfl
          try simp only [Act.put, List.setIfInBounds_toArray, List.set_cons_zero, List.set_cons_succ]
          refine take_at 20 4 (v := ?_) rfl rfl (by kernel_rfl) (by kernel_rfl) (by kernel_rfl) (fun _ _ _ h => h) (by rfl) (by assumption) (fun w hSw => ?_) ?_
          rotate_left
          · (try dsimp only at hSw); go_simp; first | done | with_reducible rfl
          try simp only [Act.put, List.setIfInBounds_toArray, List.set_cons_zero, List.set_cons_succ]
          refine wpAnyH_done (by kernel_rfl) ?_ _
          go_wp2
          go_ret
          exact ⟨rfl, HWZ.out _ HBZ14.out⟩
end Go.Proofs.Ytnjjpahpaeblfaa
