/- What own of the statements answers: the same note, its leans in new memory, never nil. -/
import Derived.Test.YtnjjpahpaeblfabCopy
import Derived.Deep.RegionHeldLaw
namespace Go.Proofs.Ytnjjpahpaeblfab
open Go.RowKit Go.Maps
set_option linter.unusedVariables false

theorem below_drew' {B : Nat} {w w' : World} (h : Below B w w') : Below B w w'.drew := ⟨h.os, h.tape, h.output, h.size, h.block⟩

theorem step_append_own {P : Program} {ops : Array Oper} {o : Oper} {a : Act} {w : World} {K : Act → World → Prop} {Q : Exit → Act → World → Prop} {E : Prop} (hgd : o.guard = none) (s x : Operand) (t : TypeId)
    (ho : o.op = .call { callee := .builtin .append, args := #[s, x], argTypes := #[t, t] })
    (base : Nat) (e : TypeId) (i : TypeInfo) (z : Value) (size bytes : Nat) (ht : P.underlying t = some (.slice e)) (hi : P.info? e = some i) (hz : i.zero = some z)
    (hsize : i.size = size) (hby : i.bytes = bytes) (hzs : z.cells.size = size) (hsz : 0 < size)
    (v : Value) (n : Nat) (xs : List Value) (hs : a.eval s = v) (hown : w.ownsRow base e size v n xs)
    (ad : Addr) (m c : Nat) (news : List Value) (hx : a.eval x = .slice (some ad) m c) (hl : news.length = m * size) (hnews : ∀ j u, news[j]? = some u → w.cell? (ad.add j) = some u) (h1 : ∀ u ∈ news, u.oneCell' = true)
    (h63 : n + m ≤ maxLen) (hbytes : (n + m) * bytes ≤ 140737488355328) (hbase : base ≤ w.heap.size)
    (h : ∀ v' w', w'.ownsRow base e size v' (n + m) (xs ++ news) → w.grownBy w' v.ownBlock → (v' = .slice none 0 0 ↔ v = .slice none 0 0 ∧ m = 0) → K (a.put o.dst v') w') :
    if Region.wanted o (yielded ops a.tmps) = true then Oper.wp P o a w K Q else E := by
  have hw : Region.wanted o (yielded ops a.tmps) = true := by simp [Region.wanted, hgd]
  rw [if_pos hw]
  exact wp_append_own w s x t ho base e i z size bytes ht hi hz hsize hby hzs hsz v n xs hs hown ad m c news hx hl hnews h1 h63 hbytes hbase h

theorem step_append_none {P : Program} {ops : Array Oper} {o : Oper} {a : Act} {w : World} {K : Act → World → Prop} {Q : Exit → Act → World → Prop} {E : Prop} (hgd : o.guard = none) (s x : Operand) (t : TypeId)
    (ho : o.op = .call { callee := .builtin .append, args := #[s, x], argTypes := #[t, t] })
    (base : Nat) (e : TypeId) (i : TypeInfo) (size : Nat) (ht : P.underlying t = some (.slice e)) (hi : P.info? e = some i)
    (v : Value) (n : Nat) (xs : List Value) (hs : a.eval s = v) (hown : w.ownsRow base e size v n xs) (hx : a.eval x = .slice none 0 0)
    (h : K (a.put o.dst v) w) : if Region.wanted o (yielded ops a.tmps) = true then Oper.wp P o a w K Q else E := by
  have hw : Region.wanted o (yielded ops a.tmps) = true := by simp [Region.wanted, hgd]
  rw [if_pos hw]
  have hrun := run_append_owned_none (P := P) (w := w) base t o.type e i size ht hi v n xs hown
  unfold Oper.wp
  simp [execOp, ho, resolve, invoke, builtin, hs, hx, hrun, Result.andThen]
  exact h

set_option maxRecDepth 100000 in
set_option maxHeartbeats 2000000 in
theorem own_some (n : Nt) (hn : NtOk n) (ad : Addr) (cap : Nat) (w : World) (hc : ∀ (w' : World) (B : Nat), Below B w w' → w.heap.size ≤ B → ∀ j u, (n.leans.map encStr)[j]? = some u → w'.cell? (ad.add j) = some u) :
    Calls Try.prog 6 #[.agg #[.string ⟨n.name.toArray⟩, .int .i64 n.words, .int .u32 n.sum, .slice (some ad) n.leans.length cap]] w fun e w' => ∃ a' cap', e = .returned (.agg #[.string ⟨n.name.toArray⟩, .int .i64 n.words, .int .u32 n.sum, .slice a' n.leans.length cap']) ∧
      w'.ownsRow w.heap.size 9 1 (.slice a' n.leans.length cap') n.leans.length (n.leans.map encStr) ∧ a' ≠ none ∧ Below w.heap.size w w' := by
  obtain ⟨i0, hi, hz0, hz1, hz2⟩ := info_parts Try.info9
  obtain ⟨nm, wd, sm, ls⟩ := n
  obtain ⟨h1, h2, h3, h4, h5, h6⟩ := hn
  simp only at h1 h2 h3 h4 h5 h6 hc ⊢
  have hl6 := h6.1
  have HB : Hid (∀ o1 o2, Below w.heap.size w ((w.alloc o1).alloc o2)) := fun o1 o2 => ((Below.refl w.heap.size w).alloc (Nat.le_refl _) o1).alloc (by simp) o2
  have HC : Hid (∀ o1 o2 o3 j u, (ls.map encStr)[j]? = some u → (((w.alloc o1).alloc o2).alloc o3).cell? (ad.add j) = some u) := fun o1 o2 o3 => hc _ _ ((HB.out o1 o2).alloc (by simp; omega) o3) (Nat.le_refl _)
  have HR : Hid (∀ (W : World) , W.heap.size = w.heap.size + 2 → (W.alloc (.cells #[] 9)).ownsRow (w.heap.size + 2) 9 1 (.slice (some ⟨w.heap.size + 2, 0, none⟩) 0 0) 0 []) := fun W hW => by
    have := World.ownsRow_made (base := w.heap.size + 2) (e := 9) (size := 1) W #[] 0 (by omega) (by decide) rfl
    rw [hW] at this
    exact this
  clear hc
  go_enter Try.func6, Try.ntmps6
  go_wp2
  go_region_held_law (fun w' => w'.cell? ⟨w.heap.size, 0, none⟩ = some (.string ⟨nm.toArray⟩) ∧ w'.cell? ⟨w.heap.size, 1, none⟩ = some (.int .i64 wd) ∧ w'.cell? ⟨w.heap.size, 2, none⟩ = some (.int .u32 sm) ∧ w'.cell? ⟨w.heap.size, 3, none⟩ = some (.slice (some ad) ls.length cap)) (go_keep)
    ((refine step_append_own rfl _ _ 24 rfl (w.heap.size + 2) 9 i0 (.string ⟨#[]⟩) 1 16 Try.underlying24 hi hz0 hz1 hz2 rfl (by decide) (.slice (some ⟨w.heap.size + 2, 0, none⟩) 0 0) 0 [] rfl (HR.out _ (by simp)) ad ls.length _ (ls.map encStr) rfl (by simp) (HC.out _ _ _) (strs_oneCell ls) (by unfold maxLen; omega) (by omega) (by simp) ?_; intro v' w3 hown' hg3 hnil3; obtain ⟨a', cap', rfl⟩ := row_shape hown'; obtain ⟨hc3, hf3⟩ := bcell (below_of_grown hg3 (B := w.heap.size + 2) (by simp) (fun k hk => by simp [Value.ownBlock]; omega)); have HB3 : Hid (Below w.heap.size w w3) := (below_drew' ((HB.out _ _).alloc (by simp; omega) _)).grown hg3 (by simp; omega) (fun j hj => by simp [Value.ownBlock] at hj; omega)))
  go_wp2
  refine bodyPost_ret (v := .agg #[.string ⟨nm.toArray⟩, .int .i64 wd, .int .u32 sm, .slice a' ls.length cap']) (by simp [results, Try.results6, go_sem, hc3]) rfl ⟨_, _, rfl, ?_, ?_, ?_⟩
  · have hrow : w3.ownsRow (w.heap.size + 2) 9 1 (.slice a' ls.length cap') ls.length (ls.map encStr) := by simpa using hown'
    refine row_mono (base := w.heap.size + 2) ?_ (by omega)
    repeat (refine row_setCell ?_ (by simp) _)
    exact hrow
  · intro h0
    subst h0
    rcases hown'.2 with ⟨hv, _⟩ | ⟨g, _, _, hv, _⟩
    · cases (hnil3.1 hv).1
    · cases hv
  · repeat (refine Below.setCell ?_ (by simp) _)
    exact HB3.out

set_option maxRecDepth 100000 in
set_option maxHeartbeats 2000000 in
theorem own_none (n : Nt) (hn : NtOk n) (hl : n.leans = []) (w : World) :
    Calls Try.prog 6 #[.agg #[.string ⟨n.name.toArray⟩, .int .i64 n.words, .int .u32 n.sum, .slice none 0 0]] w fun e w' => ∃ a' cap', e = .returned (.agg #[.string ⟨n.name.toArray⟩, .int .i64 n.words, .int .u32 n.sum, .slice a' 0 cap']) ∧
      w'.ownsRow w.heap.size 9 1 (.slice a' 0 cap') 0 [] ∧ a' ≠ none ∧ Below w.heap.size w w' := by
  obtain ⟨i0, hi, hz0, hz1, hz2⟩ := info_parts Try.info9
  obtain ⟨nm, wd, sm, ls⟩ := n
  simp only at hl ⊢
  subst hl
  clear hn
  have HB : Hid (∀ o1 o2, Below w.heap.size w ((w.alloc o1).alloc o2)) := fun o1 o2 => ((Below.refl w.heap.size w).alloc (Nat.le_refl _) o1).alloc (by simp) o2
  have HR : Hid (∀ (W : World) , W.heap.size = w.heap.size + 2 → (W.alloc (.cells #[] 9)).ownsRow (w.heap.size + 2) 9 1 (.slice (some ⟨w.heap.size + 2, 0, none⟩) 0 0) 0 []) := fun W hW => by
    have := World.ownsRow_made (base := w.heap.size + 2) (e := 9) (size := 1) W #[] 0 (by omega) (by decide) rfl
    rw [hW] at this
    exact this
  go_enter Try.func6, Try.ntmps6
  go_wp2
  go_region_held_law (fun w' => w'.cell? ⟨w.heap.size, 0, none⟩ = some (.string ⟨nm.toArray⟩) ∧ w'.cell? ⟨w.heap.size, 1, none⟩ = some (.int .i64 wd) ∧ w'.cell? ⟨w.heap.size, 2, none⟩ = some (.int .u32 sm) ∧ w'.cell? ⟨w.heap.size, 3, none⟩ = some (.slice none 0 0)) (go_keep)
    (refine step_append_none rfl _ _ 24 rfl (w.heap.size + 2) 9 i0 1 Try.underlying24 hi (.slice (some ⟨w.heap.size + 2, 0, none⟩) 0 0) 0 [] rfl (HR.out _ (by simp)) rfl ?_)
  go_wp2
  refine bodyPost_ret (v := .agg #[.string ⟨nm.toArray⟩, .int .i64 wd, .int .u32 sm, .slice (some ⟨w.heap.size + 2, 0, none⟩) 0 0]) (by simp [results, Try.results6, go_sem]) rfl ⟨_, _, rfl, ?_, nofun, ?_⟩
  · exact row_mono (HR.out _ (by simp)) (by omega)
  · exact below_drew' ((HB.out _ _).alloc (by simp; omega) _)

theorem own_any (n : Nt) (hn : NtOk n) (a : Option Addr) (cap : Nat) (w : World) (hs : StrsAt w (.slice a n.leans.length cap) n.leans) :
    Calls Try.prog 6 #[.agg #[.string ⟨n.name.toArray⟩, .int .i64 n.words, .int .u32 n.sum, .slice a n.leans.length cap]] w fun e w' => ∃ a' cap', e = .returned (.agg #[.string ⟨n.name.toArray⟩, .int .i64 n.words, .int .u32 n.sum, .slice a' n.leans.length cap']) ∧
      w'.ownsRow w.heap.size 9 1 (.slice a' n.leans.length cap') n.leans.length (n.leans.map encStr) ∧ a' ≠ none ∧ Below w.heap.size w w' := by
  rcases hs.source with ⟨h1, h2⟩ | ⟨ad, cap', h1, hc⟩
  · simp only [Value.slice.injEq] at h1
    obtain ⟨rfl, _, rfl⟩ := h1
    have := own_none n hn h2 w
    rw [h2]
    exact this
  · simp only [Value.slice.injEq] at h1
    obtain ⟨rfl, _, rfl⟩ := h1
    exact own_some n hn ad cap w hc
end Go.Proofs.Ytnjjpahpaeblfab
