/- Plain facts: sums of good words, zeros ahead; RsLinear refused. -/
import Derived.Test.YtdpkeffkpecmjaaRta
import Derived.Deep.AppendLies
namespace Go.Proofs.Ytdpkeffkpecmjaa
open Go.RowKit
set_option linter.unusedVariables false

theorem syn_plus {f : Nat} {x y : List UInt8} (h : x.length = y.length) (i : Nat) : syn f (plusS x y) i = syn f x i ^^^ syn f y i := by
  unfold syn
  rw [← eval_plus]
  refine eval_ext 29 _ _ _ fun k => ?_
  rw [cf_plus]
  have hl : (plusS x y).length = x.length := by rw [plus_len]; omega
  by_cases hk : k < x.length
  · rw [cf_reverse _ _ (by omega), cf_reverse _ _ hk, cf_reverse _ _ (by omega), cf_plus, hl, h]
  · rw [cf_ge (by rw [List.length_reverse]; omega), cf_ge (by rw [List.length_reverse]; omega), cf_ge (by rw [List.length_reverse]; omega)]; rfl
theorem enc_cf (f p : Nat) (d : List UInt8) (i : Nat) (hi : i < d.length) : cf (encS f p d) i = cf d i := by
  unfold encS encTo; rw [cf_map, if_pos (by omega), if_pos hi]
theorem enc_plus {f p : Nat} {a b : List UInt8} (h : a.length = b.length) (h5 : a.length + p ≤ 255) : encS f p (plusS a b) = plusS (encS f p a) (encS f p b) := by
  have hx := encS_length f p a
  have hy := encS_length f p b
  have hd : (plusS a b).length = a.length := by rw [plus_len]; omega
  have hz : (encS f p (plusS a b)).length = a.length + p := by rw [encS_length, hd]
  have hr : (plusS (encS f p a) (encS f p b)).length = a.length + p := by rw [plus_len]; omega
  refine (good_apart (f := f) (p := p) (r := plusS (encS f p a) (encS f p b)) (c := encS f p (plusS a b)) (by rw [hz, hr]) (by omega) (enc_syn f p _) (fun i hi => by rw [syn_plus (by omega), enc_syn f p a i hi, enc_syn f p b i hi]; rfl) (List.range p) List.nodup_range (fun k hk => by have := List.mem_range.1 hk; omega) (fun k hk => List.mem_range.2 (Classical.byContradiction fun hge => hk ?_)) (by simp)).symm
  by_cases hkl : k < a.length + p
  · have he := er_at (r := plusS (encS f p a) (encS f p b)) (c := encS f p (plusS a b)) (by rw [hz, hr]) (i := a.length + p - 1 - k) (by omega)
    rw [hr, show a.length + p - 1 - (a.length + p - 1 - k) = k by omega, cf_plus, enc_cf f p a _ (by omega), enc_cf f p b _ (by omega), enc_cf f p (plusS a b) _ (by omega), cf_plus, UInt8.xor_self] at he
    exact he
  · exact er_ge (by rw [hz, hr]) (by omega)
theorem good_of {f p : Nat} {x : List UInt8} (h1 : p < x.length) (h2 : x.length ≤ 255) (h : ∀ i, i < p → syn f x i = 0) : goodS f p x = true := by
  unfold goodS; rw [decide_eq_true h1, decide_eq_true h2, syns_all.2 h]; rfl
theorem syn_ahead (f : Nat) (x : List UInt8) (k i : Nat) : syn f (List.replicate k 0 ++ x) i = syn f x i := by
  unfold syn
  refine eval_ext 29 _ _ _ fun j => ?_
  rw [List.reverse_append, List.reverse_replicate]
  unfold cf
  rw [List.getD_eq_getElem?_getD, List.getD_eq_getElem?_getD]
  by_cases hj : j < x.reverse.length
  · rw [List.getElem?_append_left hj]
  · rw [List.getElem?_append_right (by omega), List.getElem?_replicate, List.getElem?_eq_none (l := x.reverse) (by omega)]
    split <;> rfl
theorem plus_next (x y : List UInt8) (k : Nat) (hk : k < (plusS x y).length) : (plusS x y).take (k + 1) = (plusS x y).take k ++ [cf x k ^^^ cf y k] := by
  rw [List.take_add_one, cf_get hk, cf_plus]; rfl
/- two rows that lie apart -/
def Apart (u v : Value) : Prop := u.ownBlock = none ∨ u.ownBlock ≠ v.ownBlock
theorem Apart.symm {u v : Value} (h : Apart u v) : Apart v u := by
  rcases h with h | h
  · unfold Apart; rw [h]
    cases v.ownBlock <;> simp
  · exact .inr (Ne.symm h)
theorem Apart.grow {u v : Value} (h : Apart u v) {w : World} {B g n m c : Nat} {ys : List Value} (hv : w.ownsRow B 5 1 v m ys) (hat : u.ownBlock = some g ∨ g = w.heap.size) : Apart (.slice (some ⟨g, 0, none⟩) n c) v := by
  right
  show some g ≠ v.ownBlock
  rcases hat with hat | hat
  · rcases h with h | h
    · rw [h] at hat; cases hat
    · rw [← hat]; exact h
  · intro he
    have := (hv.lt g he.symm).2
    omega
set_option maxRecDepth 100000 in
set_option maxHeartbeats 1600000 in
theorem rsLinear_out (p f : Int) (h : ¬ (1 ≤ p ∧ p ≤ 254 ∧ 0 ≤ f ∧ f ≤ 254)) (a b : List UInt8) (z : Int) (va vb : Value) (w : World) (hva : SlAt w va a) (hvb : SlAt w vb b) : Calls Try.prog 7 #[.int .i64 p, .int .i64 f, va, vb, .int .i64 z] w fun e w' => e = .returned (.bool true) ∧ Below w.heap.size w w' := by
  have HA := hidD (alive_any w)
  have HN := hidD (fun w => rsnew_out p f h w)
  obtain ⟨⟨aa, ca, rfl, hca1, hca2⟩, _⟩ := hva
  obtain ⟨⟨ab, cb, rfl, hcb1, hcb2⟩, _⟩ := hvb
  clear h
  generalize a.length = LA at *
  generalize b.length = LB at *
  by_cases hle : (LA : Int) ≤ LB
  all_goals
    go_enter Try.func7, Try.ntmps7
    go_wp2_with (first
      | (go_at_call 10; refine HA.out.mono ?_; rintro e w1 ⟨rfl, hb⟩; have HB1 := hidD hb; clear hb)
      | (go_at_call 30; refine (HN.out _).mono ?_; rintro e w2 ⟨rfl, hb⟩; have HB2 := hidD (Below.next HB1.out hb); clear hb))
    go_ret
    exact ⟨rfl, HB2.out⟩
set_option maxRecDepth 100000 in
set_option maxHeartbeats 1600000 in
theorem rsLinear_none (p f : Nat) (h1 : 1 ≤ p) (h2 : p ≤ 254) (h3 : f ≤ 254) (a b : List UInt8) (hal : a.length ≤ 281474976710656) (hbl : b.length ≤ 281474976710656) (z : Int) (hn : min a.length b.length = 0 ∨ 255 < min a.length b.length + p) (va vb : Value) (w : World) (hva : SlAt w va a) (hvb : SlAt w vb b) : Calls Try.prog 7 #[.int .i64 p, .int .i64 f, va, vb, .int .i64 z] w fun e w' => e = .returned (.bool true) ∧ Below w.heap.size w w' := by
  have HA := hidD (alive_any w)
  have HN := hidD (rsnew_ok p f h1 h2 h3)
  obtain ⟨⟨aa, ca, rfl, hca1, hca2⟩, _⟩ := hva
  obtain ⟨⟨ab, cb, rfl, hcb1, hcb2⟩, _⟩ := hvb
  generalize a.length = LA at *
  generalize b.length = LB at *
  obtain ⟨N, hN⟩ : ∃ N, N = min LA LB := ⟨_, rfl⟩
  rw [← hN] at hn
  have hcase : (LA ≤ LB ∧ N = LA) ∨ (LB < LA ∧ N = LB) := by omega
  clear hN
  rcases hcase with ⟨hle, hN⟩ | ⟨hle, hN⟩
  all_goals
    subst hN
    rcases hn with hn | hn
    have hni : (N : Int) = 0 := by omega
    have hni2 : ((N : Int) == 0) = true := by rw [hni]; rfl
    rotate_left
    have hni : (255 : Int) < (N : Int) + p := by omega
    have hni2 : ((N : Int) == 0) = false := beq_eq_false_iff_ne.2 (by omega)
    all_goals
      go_enter Try.func7, Try.ntmps7
      go_wp2_with (first
        | (go_at_call 10; refine HA.out.mono ?_; rintro e w1 ⟨rfl, hb⟩; have HB1 := hidD hb; clear hb)
        | (go_at_call 30; refine (HN.out _).mono ?_; rintro e w2 ⟨c, rfl, _, _, hb⟩; have HB2 := hidD (Below.next HB1.out hb); clear hb))
      go_ret
      exact ⟨rfl, HB2.out⟩
end Go.Proofs.Ytdpkeffkpecmjaa
