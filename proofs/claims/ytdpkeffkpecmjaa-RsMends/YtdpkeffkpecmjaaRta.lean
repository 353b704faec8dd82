/- Plain facts of distances; RsApart. -/
import Derived.Test.YtdpkeffkpecmjaaRst
import Derived.Test.YtdpkeffkpecmjaaRme
namespace Go.Proofs.Ytdpkeffkpecmjaa
open Go.RowKit
set_option linter.unusedVariables false

theorem slice_take {w0 : World} {a : Option Addr} {cap : Nat} {L : List UInt8} (hb : ByAt w0 (.slice a L.length cap) L) (hlc : L.length ≤ cap) (C : Nat) (hC : C ≤ L.length) : ∃ a1 : Option Addr, (∀ w, (Instr.sliceAt 22 (.slice a L.length cap) none (some (.int .i64 (C : Int))) none).run Try.prog w = .ok (.slice a1 (L.take C).length cap) w) ∧ ByAt w0 (.slice a1 (L.take C).length cap) (L.take C) := by
  have hl : (L.take C).length = C := by rw [List.length_take]; omega
  refine ⟨if cap = 0 then a else a.map (·.add 0), fun w => by rw [hl]; exact sliceAt_h a _ cap C (by omega) w, ?_⟩
  rw [hl]
  have he : (if cap = 0 then a else a.map (·.add 0)) = a ∨ cap = 0 := by
    by_cases h0 : cap = 0
    · exact Or.inr h0
    · rw [if_neg h0]
      refine Or.inl ?_
      rcases hb with ⟨hn, a', c', e, hz⟩ | ⟨g, off, c', e, _⟩
      · cases a with
        | none => rfl
        | some ad => rcases ad with ⟨b, o, _ | _⟩ <;> simp [Addr.add]
      · cases e; simp [Addr.add]
  rcases he with he | he
  · rw [he]; exact hb.take hC
  · rw [if_pos he]; exact hb.take hC
/-- At how many of the first k places two words differ. -/
def cntTo (x y : List UInt8) : Nat → Nat
  | 0 => 0
  | k + 1 => if cf x k = cf y k then cntTo x y k else cntTo x y k + 1
theorem cnt_le (x y : List UInt8) : ∀ k, cntTo x y k ≤ k
  | 0 => Nat.le_refl _
  | k + 1 => by have := cnt_le x y k; rw [cntTo]; split <;> omega
theorem cnt_same (x : List UInt8) : ∀ k, cntTo x x k = 0
  | 0 => rfl
  | k + 1 => by rw [cntTo, if_pos rfl, cnt_same x k]
theorem cnt_filter (x y : List UInt8) : ∀ k, ((List.range k).filter fun i => decide (cf x i ≠ cf y i)).length = cntTo x y k
  | 0 => rfl
  | k + 1 => by
    rw [List.range_succ, List.filter_append, List.length_append, cnt_filter x y k, cntTo]
    by_cases h : cf x k = cf y k
    · rw [if_pos h]; simp [h]
    · rw [if_neg h]; simp [h]
/-- Two good words of one length that are unlike differ at more than p places. -/
theorem cnt_apart {f p : Nat} {x y : List UInt8} (h : y.length = x.length) (hl : x.length ≤ 255) (hx : ∀ i, i < p → syn f x i = 0) (hy : ∀ i, i < p → syn f y i = 0) (hne : x ≠ y) : p < cntTo x y x.length := by
  refine Nat.lt_of_not_le fun hle => hne ?_
  refine good_apart h hl hy hx (((List.range x.length).filter fun i => decide (cf x i ≠ cf y i)).map fun i => x.length - 1 - i) ?_ ?_ ?_ (by rw [List.length_map, cnt_filter]; exact hle)
  · rw [List.nodup_iff_pairwise_ne, List.pairwise_map]
    refine List.Pairwise.imp_of_mem ?_ (List.nodup_iff_pairwise_ne.1 (List.Nodup.sublist List.filter_sublist (List.nodup_range (n := x.length))))
    intro a b ha hb hab
    have h1 := List.mem_range.1 (List.mem_filter.1 ha).1
    have h2 := List.mem_range.1 (List.mem_filter.1 hb).1
    omega
  · intro k hk
    obtain ⟨i, hi, rfl⟩ := List.mem_map.1 hk
    have h1 := List.mem_range.1 (List.mem_filter.1 hi).1
    omega
  · intro k hk
    have hlt : k < x.length := Classical.byContradiction fun h' => hk (er_ge h (by omega))
    refine List.mem_map.2 ⟨x.length - 1 - k, List.mem_filter.2 ⟨List.mem_range.2 (by omega), ?_⟩, by omega⟩
    have he := er_at h (i := x.length - 1 - k) (by omega)
    rw [show x.length - 1 - (x.length - 1 - k) = k by omega] at he
    exact decide_eq_true fun hc => hk (by rw [he, hc, UInt8.xor_self])
theorem enc_inj {f p : Nat} {a b : List UInt8} (hl : a.length = b.length) (h : encS f p a = encS f p b) : a = b := by
  have h1 := enc_front f p a
  rw [h, hl, enc_front] at h1
  exact h1.symm

set_option maxRecDepth 100000 in
set_option maxHeartbeats 1600000 in
theorem rsApart_out (p f : Int) (h : ¬ (1 ≤ p ∧ p ≤ 254 ∧ 0 ≤ f ∧ f ≤ 254)) (a b : List UInt8) (va vb : Value) (w : World) (hva : SlAt w va a) (hvb : SlAt w vb b) : Calls Try.prog 8 #[.int .i64 p, .int .i64 f, va, vb] w fun e w' => e = .returned (.bool true) ∧ Below w.heap.size w w' := by
  have HA := hidD (alive_any w)
  have HN := hidD (fun w => rsnew_out p f h w)
  obtain ⟨⟨aa, ca, rfl, hca1, hca2⟩, _⟩ := hva
  obtain ⟨⟨ab, cb, rfl, hcb1, hcb2⟩, _⟩ := hvb
  clear h
  generalize a.length = LA at *
  generalize b.length = LB at *
  by_cases hle : (LA : Int) ≤ LB
  all_goals
    go_enter Try.func8, Try.ntmps8
    go_wp2_with (first
      | (go_at_call 10; refine HA.out.mono ?_; rintro e w1 ⟨rfl, hb⟩; have HB1 := hidD hb; clear hb)
      | (go_at_call 30; refine (HN.out _).mono ?_; rintro e w2 ⟨rfl, hb⟩; have HB2 := hidD (Below.next HB1.out hb); clear hb))
    go_ret
    exact ⟨rfl, HB2.out⟩
set_option maxRecDepth 100000 in
set_option maxHeartbeats 1600000 in
theorem rsApart_none (p f : Nat) (h1 : 1 ≤ p) (h2 : p ≤ 254) (h3 : f ≤ 254) (a b : List UInt8) (hal : a.length ≤ 281474976710656) (hbl : b.length ≤ 281474976710656) (hn : min a.length b.length = 0 ∨ 255 < min a.length b.length + p) (va vb : Value) (w : World) (hva : SlAt w va a) (hvb : SlAt w vb b) : Calls Try.prog 8 #[.int .i64 p, .int .i64 f, va, vb] w fun e w' => e = .returned (.bool true) ∧ Below w.heap.size w w' := by
  have HA := hidD (alive_any w)
  have HN := hidD (rsnew_ok p f h1 h2 h3)
  obtain ⟨⟨aa, ca, rfl, hca1, hca2⟩, _⟩ := hva
  obtain ⟨⟨ab, cb, rfl, hcb1, hcb2⟩, _⟩ := hvb
  generalize a.length = LA at *
  generalize b.length = LB at *
  obtain ⟨N, hN⟩ : ∃ N, N = min LA LB := ⟨_, rfl⟩
  rw [← hN] at hn
  have hcase : (LA ≤ LB ∧ N = LA) ∨ (LB < LA ∧ N = LB) := by omega
  clear hN
  rcases hcase with ⟨hle, hN⟩ | ⟨hle, hN⟩
  all_goals
    subst hN
    rcases hn with hn | hn
    have hni : (N : Int) = 0 := by omega
    have hni2 : ((N : Int) == 0) = true := by rw [hni]; rfl
    rotate_left
    have hni : (255 : Int) < (N : Int) + p := by omega
    have hni2 : ((N : Int) == 0) = false := beq_eq_false_iff_ne.2 (by omega)
    all_goals
      go_enter Try.func8, Try.ntmps8
      go_wp2_with (first
        | (go_at_call 10; refine HA.out.mono ?_; rintro e w1 ⟨rfl, hb⟩; have HB1 := hidD hb; clear hb)
        | (go_at_call 30; refine (HN.out _).mono ?_; rintro e w2 ⟨c, rfl, _, _, hb⟩; have HB2 := hidD (Below.next HB1.out hb); clear hb))
      go_ret
      exact ⟨rfl, HB2.out⟩
end Go.Proofs.Ytdpkeffkpecmjaa
