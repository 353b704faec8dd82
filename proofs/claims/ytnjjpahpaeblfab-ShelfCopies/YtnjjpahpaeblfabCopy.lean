/- What copyNote of package shelf answers: the same note, its leans in new memory. -/
import Derived.Test.YtnjjpahpaeblfabRight
import Derived.Laws.AppendOwnNone
namespace Go.Proofs.Ytnjjpahpaeblfab
open Go.RowKit Go.Maps
set_option linter.unusedVariables false

theorem Try.info9 : (Try.prog.info? 9).map (fun i => (i.zero, i.size, i.bytes)) = some (some (.string ⟨#[]⟩), 1, 16) := by kernel_rfl

theorem strs_oneCell (ss : List (List UInt8)) : ∀ u ∈ ss.map encStr, u.oneCell' = true := by
  intro u hu
  obtain ⟨x, _, rfl⟩ := List.mem_map.1 hu
  rfl

theorem StrsAt.of_row {w : World} {base : Nat} {sl : Value} {ss : List (List UInt8)} (h : w.ownsRow base 9 1 sl ss.length (ss.map encStr)) : StrsAt w sl ss := by
  rcases h.2 with ⟨rfl, h0⟩ | ⟨g, cap, cur, rfl, hb, hg, h1, h2, h3, h4⟩
  · exact .inl ⟨List.eq_nil_of_length_eq_zero h0, none, 0, rfl, fun _ => rfl⟩
  · refine .inr ⟨g, 0, cap, rfl, (Array.getElem?_eq_some_iff.1 hg).1, fun j hj => ?_⟩
    have := h.cells (g := g) rfl j (encStr (ss.getD j [])) (by rw [List.getElem?_map, List.getElem?_eq_getElem hj]; simp [List.getD, List.getElem?_eq_getElem hj])
    rw [show (⟨g, 0, none⟩ : Addr).add j = ⟨g, 0 + j, none⟩ from Addr.add_lit ..] at this
    exact this

/-- What a slice value reads as is what the source of an append has. -/
theorem StrsAt.src {w : World} {g off : Nat} {ss : List (List UInt8)} (hc : ∀ j, j < ss.length → w.cell? ⟨g, off + j, none⟩ = some (encStr (ss.getD j []))) :
    ∀ j u, (ss.map encStr)[j]? = some u → w.cell? ((⟨g, off, none⟩ : Addr).add j) = some u := by
  intro j u hu
  rw [List.getElem?_map, Option.map_eq_some_iff] at hu
  obtain ⟨x, hx, rfl⟩ := hu
  obtain ⟨hj, rfl⟩ := List.getElem?_eq_some_iff.1 hx
  have := hc j hj
  rw [List.getD, List.getElem?_eq_getElem hj] at this
  rw [show (⟨g, off, none⟩ : Addr).add j = ⟨g, off + j, none⟩ from Addr.add_lit ..]
  exact this

theorem bcell {B : Nat} {W w1 : World} (hb : Below B W w1) : (∀ b o, b < B → w1.cell? ⟨b, o, none⟩ = W.cell? ⟨b, o, none⟩) ∧ (∀ b o, b < B → w1.frozen? ⟨b, o, none⟩ = W.frozen? ⟨b, o, none⟩) :=
  ⟨fun b o h => hb.cell (p := ⟨b, o, none⟩) h, fun b o h => hb.frozen (p := ⟨b, o, none⟩) h⟩
theorem below_of_grown {B : Nat} {W w1 : World} {row : Option Nat} (h : W.grownBy w1 row) (hB : B ≤ W.heap.size) (hr : ∀ k, k < B → some k ≠ row) : Below B W w1 :=
  ⟨h.os, h.tape, h.output, h.size, fun k hk => h.block k (Nat.lt_of_lt_of_le hk hB) (hr k hk)⟩
theorem row_shape {w : World} {base e size n : Nat} {v : Value} {xs : List Value} (h : w.ownsRow base e size v n xs) : ∃ a cap, v = .slice a n cap := by
  rcases h.2 with ⟨rfl, rfl⟩ | ⟨g, cap, cur, rfl, _⟩
  · exact ⟨none, 0, rfl⟩
  · exact ⟨_, cap, rfl⟩

theorem grown_setCell (W : World) (a : Addr) (v : Value) : W.grownBy (W.setCell a v) (some a.block) :=
  ⟨rfl, rfl, rfl, by simp, fun k _ hk => RowKit.Below.heap_setCell _ _ _ _ (fun e => hk (by rw [e]))⟩
theorem row_setCell {w : World} {base e size n : Nat} {v : Value} {xs : List Value} (h : w.ownsRow base e size v n xs) {a : Addr} (ha : a.block < base) (u : Value) : (w.setCell a u).ownsRow base e size v n xs :=
  h.kept (grown_setCell w a u) (Or.inr (fun e => by have := (h.lt _ e).1; omega))
theorem row_mono {w : World} {base base' e size n : Nat} {v : Value} {xs : List Value} (h : w.ownsRow base e size v n xs) (hb : base' ≤ base) : w.ownsRow base' e size v n xs := by
  refine ⟨h.1, ?_⟩
  rcases h.2 with h | ⟨g, cap, cur, h1, h2, h3⟩
  · exact .inl h
  · exact .inr ⟨g, cap, cur, h1, by omega, h3⟩

/-- A slice of strings as the source of an append. -/
theorem StrsAt.source {w : World} {sl : Value} {ss : List (List UInt8)} (h : StrsAt w sl ss) : (sl = .slice none 0 0 ∧ ss = []) ∨
    ∃ ad cap, sl = .slice (some ad) ss.length cap ∧ ∀ (w' : World) (B : Nat), Below B w w' → w.heap.size ≤ B → ∀ j u, (ss.map encStr)[j]? = some u → w'.cell? (ad.add j) = some u := by
  rcases h with ⟨rfl, a, cap, rfl, hcap⟩ | ⟨g, off, cap, rfl, hg, hc⟩
  · cases a with
    | none => rw [hcap rfl]; exact .inl ⟨rfl, rfl⟩
    | some ad => exact .inr ⟨ad, cap, rfl, fun w' B _ _ j u hu => by simp at hu⟩
  · exact .inr ⟨_, cap, rfl, fun w' B hb hB => StrsAt.src (fun j hj => (hb.cell (p := ⟨g, off + j, none⟩) (Nat.lt_of_lt_of_le hg hB)).trans (hc j hj))⟩

set_option maxRecDepth 100000 in
set_option maxHeartbeats 1000000 in
theorem copyNote_any (n : Nt) (hn : NtOk n) (sl : Value) (w : World) (hs : StrsAt w sl n.leans) :
    Calls Try.prog 17 #[noteV n sl] w fun e w' => ∃ sl', e = .returned (noteV n sl') ∧ w'.ownsRow w.heap.size 9 1 sl' n.leans.length (n.leans.map encStr) ∧ Below w.heap.size w w' := by
  obtain ⟨i0, hi, hz0, hz1, hz2⟩ := info_parts Try.info9
  obtain ⟨nm, wd, sm, ls⟩ := n
  obtain ⟨h1, h2, h3, h4, h5, h6⟩ := hn
  simp only at h1 h2 h3 h4 h5 h6 hs
  have hl6 := h6.1
  unfold noteV
  simp only
  have HB : Hid (∀ o1 o2, Below w.heap.size w ((w.alloc o1).alloc o2)) := fun o1 o2 => ((Below.refl w.heap.size w).alloc (Nat.le_refl _) o1).alloc (by simp) o2
  rcases hs.source with ⟨rfl, rfl⟩ | ⟨ad, cap, rfl, hc⟩
  · clear hs
    go_enter Try.func17, Try.ntmps17
    go_wp2_with (first
      | (at_builtin; refine wpList_append_own_none rfl _ _ 24 rfl w.heap.size 9 i0 1 Try.underlying24 hi (.slice none 0 0) 0 [] rfl (World.ownsRow_nil _ _ _ _) rfl ?_)
      | go_in)
    refine bodyPost_ret (v := .agg #[.string ⟨nm.toArray⟩, .int .i64 wd, .int .u32 sm, .slice none 0 0]) (by simp [results, Try.results17, go_sem]) rfl
      ⟨_, rfl, World.ownsRow_nil _ _ _ _, ?_⟩
    repeat (refine Below.setCell ?_ (by simp) _)
    exact HB.out _ _
  · have HC : Hid (∀ o1 o2 j u, (ls.map encStr)[j]? = some u → ((w.alloc o1).alloc o2).cell? (ad.add j) = some u) := fun o1 o2 => hc _ _ (HB.out o1 o2) (Nat.le_refl _)
    clear hc hs
    go_enter Try.func17, Try.ntmps17
    go_wp2_with (first
      | (at_builtin; refine wpList_append_own _ rfl _ _ 24 rfl (w.heap.size + 2) 9 i0 (.string ⟨#[]⟩) 1 16 Try.underlying24 hi hz0 hz1 hz2 rfl (by decide) (.slice none 0 0) 0 [] rfl (World.ownsRow_nil _ _ _ _) ad ls.length _ (ls.map encStr) rfl (by simp) (HC.out _ _) (strs_oneCell ls) (by unfold maxLen; omega) (by omega) (by simp) ?_; intro v' w3 hown' hg3 hnil3; have HB3 : Hid (Below w.heap.size w w3) := (HB.out _ _).grown hg3 (by simp; omega) nofun; obtain ⟨a', cap', rfl⟩ := row_shape hown'; obtain ⟨hc3, hf3⟩ := bcell (below_of_grown hg3 (B := w.heap.size + 2) (by simp) (fun k _ => nofun)); clear hnil3)
      | go_in)
    refine bodyPost_ret (v := .agg #[.string ⟨nm.toArray⟩, .int .i64 wd, .int .u32 sm, .slice a' ls.length cap']) (by simp [results, Try.results17, go_sem, hc3]) rfl
      ⟨_, rfl, ?_, ?_⟩
    rotate_left
    · repeat (refine Below.setCell ?_ (by simp) _)
      exact HB3.out
    have hrow : w3.ownsRow (w.heap.size + 2) 9 1 (.slice a' ls.length cap') ls.length (ls.map encStr) := by simpa using hown'
    refine row_mono (base := w.heap.size + 2) ?_ (by omega)
    repeat (refine row_setCell ?_ (by simp) _)
    exact hrow

theorem copyNote_agg (n : Nt) (hn : NtOk n) (a : Option Addr) (cap : Nat) (w : World) (hs : StrsAt w (.slice a n.leans.length cap) n.leans) :
    Calls Try.prog 17 #[.agg #[.string ⟨n.name.toArray⟩, .int .i64 n.words, .int .u32 n.sum, .slice a n.leans.length cap]] w fun e w' => ∃ a' cap', e = .returned (.agg #[.string ⟨n.name.toArray⟩, .int .i64 n.words, .int .u32 n.sum, .slice a' n.leans.length cap']) ∧
      w'.ownsRow w.heap.size 9 1 (.slice a' n.leans.length cap') n.leans.length (n.leans.map encStr) ∧ Below w.heap.size w w' := by
  refine (copyNote_any n hn _ w hs).mono ?_
  rintro e w' ⟨sl', rfl, hrow, hb⟩
  obtain ⟨a', cap', rfl⟩ := row_shape hrow
  exact ⟨a', cap', rfl, hrow, hb⟩
end Go.Proofs.Ytnjjpahpaeblfab
