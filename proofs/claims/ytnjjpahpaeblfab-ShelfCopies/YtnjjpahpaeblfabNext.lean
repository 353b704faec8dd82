/- What allPlaced and next of package shelf answer: the first name that has no place while all that it leans on have theirs. -/
import Derived.Test.YtnjjpahpaeblfabLacks
namespace Go.Proofs.Ytnjjpahpaeblfab
open Go.RowKit Go.Maps Go.Sort
set_option linter.unusedVariables false

/-- The map of places: just the names of this list have one. -/
def PlacedIs (D : DataW Unit) (o : List (List UInt8)) : Prop := ∀ x, ∃ c : Int, D.atKey (.string x) (.lit (.int .i64 0)) = .lit (.int .i64 c) ∧ (c == 0) = !o.contains x

theorem PlacedIs.start : PlacedIs (.map []) [] := fun x => ⟨0, rfl, by simp⟩
theorem PlacedIs.step {D : DataW Unit} {o : List (List UInt8)} (h : PlacedIs D o) (hD : IsMap D) (x : List UInt8) (c : Int) (hc : 0 < c) : PlacedIs (D.put (.string x) (.lit (.int .i64 c))) (o ++ [x]) := by
  intro y
  by_cases e : y = x
  · subst e
    refine ⟨c, atKey_put_same hD (by simp [WideAt.IsKeyLit]) _ _, ?_⟩
    have h1 : (c == 0) = false := by simp; omega
    rw [h1]
    simp
  · obtain ⟨d, h1, h2⟩ := h y
    refine ⟨d, by rw [atKey_put_other (by simpa using e)]; exact h1, ?_⟩
    rw [h2]
    congr 1
    rw [Bool.eq_iff_iff]
    simp only [List.contains_eq_mem, List.mem_append, List.mem_singleton, e, or_false]

theorem PlacedIs.look {D : DataW Unit} {o : List (List UInt8)} (h : PlacedIs D o) {w : World} {m nn : Nat} (hown : w.ownsMap Try.prog 9 (plainElem Try.prog 3) m nn D) (x : List UInt8) (hx : x.length ≤ maxLen) :
    ∃ c : Int, (Instr.lookup 52 (.map (some m)) (.string ⟨x.toArray⟩) false).run Try.prog w = .ok (.int .i64 c) w ∧ (c == 0) = !o.contains x := by
  obtain ⟨c, hrun, hat, _⟩ := hown.lookup_int law9 Try.underlying52 Try.underlying3 (zero3 w) (key_str hx)
  obtain ⟨d, h1, h2⟩ := h x
  rw [hat] at h1
  have e : c = d := by simpa using h1
  subst e
  exact ⟨c, hrun, h2⟩

theorem mem_getD {ls : List (List UInt8)} {k : Nat} (h : k < ls.length) : ls.getD k [] ∈ ls := by
  rw [List.getD, List.getElem?_eq_getElem h]; exact List.getElem_mem h
theorem all_of_getD' {ls : List (List UInt8)} {f : List UInt8 → Bool} (h : ∀ j, j < ls.length → f (ls.getD j []) = true) : ls.all f = true := by
  rw [List.all_eq_true]
  intro x hx
  obtain ⟨j, hj, rfl⟩ := List.mem_iff_getElem.1 hx
  have := h j hj
  rwa [List.getD, List.getElem?_eq_getElem hj] at this
theorem all_false_of_getD' {ls : List (List UInt8)} {f : List UInt8 → Bool} {k : Nat} (hk : k < ls.length) (h : f (ls.getD k []) = false) : ls.all f = false := by
  cases ha : ls.all f with
  | false => rfl
  | true => rw [List.all_eq_true] at ha; rw [ha _ (mem_getD hk)] at h; cases h

set_option maxRecDepth 100000 in
set_option maxHeartbeats 1000000 in
theorem allPlaced_any (ls : List (List UInt8)) (hok : StrsOk ls) (a : Option Addr) (cap : Nat) (w : World) (hs : StrsAt w (.slice a ls.length cap) ls) (m nn : Nat) (D : DataW Unit) (o : List (List UInt8)) (hown : w.ownsMap Try.prog 9 (plainElem Try.prog 3) m nn D) (hP : PlacedIs D o) :
    Calls Try.prog 27 #[.slice a ls.length cap, .map (some m)] w fun e w' => e = .returned (.bool (ls.all o.contains)) ∧ w' = w := by
  have hlen := hok.1
  have HL : Hid (∀ x ∈ ls, x.length ≤ maxLen) := hok.2
  have HS : Hid (StrsAt w (.slice a ls.length cap) ls) := hs
  have HP : Hid (PlacedIs D o) := hP
  clear hs hP hok
  go_enter Try.func27, Try.ntmps27
  go_wp2
  go_loop [9] (fun i => ∃ k : Nat, k ≤ ls.length ∧ i = .int .i64 k ∧ ∀ j, j < k → o.contains (ls.getD j []) = true) (fun i => ls.length - (intOf i).toNat)
  case atStart => exact ⟨0, Nat.zero_le _, rfl, fun j hj => by omega⟩
  case round =>
    obtain ⟨k, hk, rfl, hall⟩ := hrel
    have HA : Hid (∀ j, j < k → o.contains (ls.getD j []) = true) := hall
    clear hall
    by_cases hlt : k < ls.length
    · rcases HS.out with ⟨h0, _⟩ | ⟨g, off, cap', hsl, hg, hcl⟩
      · rw [h0] at hlt; exact absurd hlt (by simp)
      · cases hsl
        have hxl := HL.out _ (mem_getD hlt)
        have hcx : w.cell? ⟨g, off + k, none⟩ = some (.string ⟨(ls.getD k []).toArray⟩) := hcl k hlt
        obtain ⟨c, hrun, hc0⟩ := HP.out.look hown _ hxl
        have HC : Hid ((c == 0) = !o.contains (ls.getD k [])) := hc0
        clear hc0 hcl
        generalize hxx : ls.getD k [] = x at *
        have HX : Hid (ls.getD k [] = x) := hxx
        clear hxx
        cases hcc : (c == 0) with
        | true =>
          have HF : Hid (o.contains (ls.getD k []) = false) := by
            show o.contains (ls.getD k []) = false
            have := HC.out; rw [hcc] at this; rw [HX.out]; simpa using this.symm
          go_wp2
          go_ret
          exact ⟨ret_bool (all_false_of_getD' hlt HF.out).symm, rfl⟩
        | false =>
          have HF : Hid (o.contains (ls.getD k []) = true) := by
            show o.contains (ls.getD k []) = true
            have := HC.out; rw [hcc] at this; rw [HX.out]; simpa using this.symm
          go_wp2
          go_round
          case rel =>
            refine ⟨k + 1, by omega, by go_num, fun j hj => ?_⟩
            by_cases e : j = k
            · subst e; exact HF.out
            · exact HA.out j (by omega)
          case measure => simp [intOf]; omega
    · go_wp2
      go_ret
      have hkl : k = ls.length := by omega
      subst hkl
      exact ⟨ret_bool (all_of_getD' HA.out).symm, rfl⟩

theorem SH.leansOf_in {w : World} {p b : Nat} {F : Nat → Prop} {S : List Nt} {D : DataW Value} (h : SH w p b F S D) {n : Nt} (hn : n ∈ S) : leansOf S n.name = n.leans := by
  unfold leansOf
  cases hf : S.find? (fun m => m.name == n.name) with
  | none => have := List.find?_eq_none.1 hf n hn; simp at this
  | some m =>
    have h1 := List.find?_some hf
    have h2 := List.mem_of_find?_eq_some hf
    rw [h.eq_of_name h2 hn (by simpa using h1)]
theorem leansOf_out {S : List Nt} {x : List UInt8} (hx : x ∉ S.map Nt.name) : leansOf S x = [] := by
  unfold leansOf
  cases hf : S.find? (fun m => m.name == x) with
  | none => rfl
  | some m => exact absurd (List.mem_map.2 ⟨m, List.mem_of_find?_eq_some hf, by simpa using List.find?_some hf⟩) hx

/-- A look-up without 'ok': the leans are those of the name. -/
theorem SH.lookF {w : World} {p b : Nat} {F : Nat → Prop} {S : List Nt} {D : DataW Value} (h : SH w p b F S D) (x : List UInt8) (hx : x.length ≤ maxLen) : ∃ s a1 b1 q c, (∀ (W : World), W.ownsMap Try.prog 9 noteR b S.length D →
    (Instr.lookup 44 (.map (some b)) (.string ⟨x.toArray⟩) false).run Try.prog W = .ok (.agg #[.string s, .int .i64 a1, .int .u32 b1, .slice q (leansOf S x).length c]) W) ∧ StrsAt w (.slice q (leansOf S x).length c) (leansOf S x) ∧ StrsOk (leansOf S x) := by
  by_cases hin : x ∈ S.map Nt.name
  · obtain ⟨n, hn, rfl⟩ := List.mem_map.1 hin
    obtain ⟨a, cap, h1, h2, h3, _⟩ := h.look_in hn
    rw [h.leansOf_in hn]
    exact ⟨_, _, _, _, _, fun W hW => (look_val hx h1 h2 W hW).2, h3, (h.inn n hn).1.leans⟩
  · obtain ⟨h1, h2⟩ := h.look_out hin
    rw [leansOf_out hin]
    exact ⟨_, _, _, _, _, fun W hW => (look_val hx h1 h2 W hW).2, .inl ⟨rfl, none, 0, rfl, fun _ => rfl⟩, by simp [StrsOk]⟩

theorem field_leans (s : ByteArray) (a b : Int) (q : Option Addr) (l c : Nat) (w : World) : (Instr.field 30 (.agg #[.string s, .int .i64 a, .int .u32 b, .slice q l c]) 3).run Try.prog w = .ok (.slice q l c) w := by kernel_rfl

def nextV (r : Option (List UInt8)) : Value := match r with | some x => .tuple #[.string ⟨x.toArray⟩, .bool true] | none => .tuple #[.string ⟨#[]⟩, .bool false]

theorem find_take {N : List (List UInt8)} {f : List UInt8 → Bool} {k : Nat} (hk : k < N.length) (h : ∀ j, j < k → f (N.getD j []) = false) (hf : f (N.getD k []) = true) : N.find? f = some (N.getD k []) := by
  rw [List.find?_eq_some_iff_getElem]
  refine ⟨hf, k, hk, by rw [List.getD, List.getElem?_eq_getElem hk]; rfl, fun j hj => ?_⟩
  have := h j hj
  rw [List.getD, List.getElem?_eq_getElem (by omega)] at this
  simpa using this
theorem find_no {N : List (List UInt8)} {f : List UInt8 → Bool} (h : ∀ j, j < N.length → f (N.getD j []) = false) : N.find? f = none := by
  rw [List.find?_eq_none]
  intro x hx
  obtain ⟨j, hj, rfl⟩ := List.mem_iff_getElem.1 hx
  have := h j hj
  rw [List.getD, List.getElem?_eq_getElem hj] at this
  simpa using this

set_option maxRecDepth 100000 in
set_option maxHeartbeats 1000000 in
theorem next_any (N : List (List UInt8)) (hok : StrsOk N) (g cap : Nat) (w : World) (p b : Nat) (F : Nat → Prop) (S : List Nt) (D : DataW Value) (h : SH w p b F S D) (hs : ∀ j, j < N.length → w.cell? ⟨g, j, none⟩ = some (encStr (N.getD j [])))
    (m nn : Nat) (DP : DataW Unit) (o : List (List UInt8)) (hown : w.ownsMap Try.prog 9 (plainElem Try.prog 3) m nn DP) (hP : PlacedIs DP o) :
    Calls Try.prog 22 #[.pointer (some ⟨p, 0, none⟩), .slice (some ⟨g, 0, none⟩) N.length cap, .map (some m)] w fun e w' => e = .returned (nextV (N.find? (readyB S o))) ∧ w' = w := by
  have hlen := hok.1
  have HL : Hid (∀ x ∈ N, x.length ≤ maxLen) := hok.2
  have HS : Hid (∀ j, j < N.length → w.cell? ⟨g, j, none⟩ = some (encStr (N.getD j []))) := hs
  have HP : Hid (PlacedIs DP o) := hP
  have HH : Hid (SH w p b F S D) := h
  have hcp := h.cell
  clear hs hP hok h
  go_enter Try.func22, Try.ntmps22
  go_wp2
  go_loop [12] (fun i => ∃ k : Nat, k ≤ N.length ∧ i = .int .i64 k ∧ ∀ j, j < k → readyB S o (N.getD j []) = false) (fun i => N.length - (intOf i).toNat)
  case atStart => exact ⟨0, Nat.zero_le _, rfl, fun j hj => by omega⟩
  case round =>
    obtain ⟨k, hk, rfl, hall⟩ := hrel
    have HA : Hid (∀ j, j < k → readyB S o (N.getD j []) = false) := hall
    clear hall
    by_cases hlt : k < N.length
    · have hxl := HL.out _ (mem_getD hlt)
      have hcx : w.cell? ⟨g, k, none⟩ = some (.string ⟨(N.getD k []).toArray⟩) := HS.out k hlt
      obtain ⟨c, hrun, hc0⟩ := HP.out.look hown _ hxl
      obtain ⟨s3, a3, b3, q3, c3, hlook, hst, hso⟩ := HH.out.lookF (N.getD k []) hxl
      have hl3 := hlook w HH.out.own
      have hfd := field_leans s3 a3 b3 q3 (leansOf S (N.getD k [])).length c3
      have HR : Hid (readyB S o (N.getD k []) = ((c == 0) && (leansOf S (N.getD k [])).all o.contains)) := by show readyB S o (N.getD k []) = _; rw [hc0]; rfl
      have HT : Hid (readyB S o (N.getD k []) = true → N.find? (readyB S o) = some (N.getD k [])) := find_take hlt HA.out
      clear hc0 hlook
      generalize hls : leansOf S (N.getD k []) = ls at *
      clear hls
      generalize hxx : N.getD k [] = x at *
      have HX : Hid (N.getD k [] = x) := hxx
      clear hxx
      have HNX : Hid (readyB S o x = false → ∀ j, j < k + 1 → readyB S o (N.getD j []) = false) := fun hr j hj => by
        by_cases e : j = k
        · subst e; rw [HX.out]; exact hr
        · exact HA.out j (by omega)
      cases hcc : (c == 0) with
      | false =>
        have HF : Hid (readyB S o x = false) := by show readyB S o x = false; rw [HR.out, hcc]; rfl
        go_wp2
        go_round
        case rel => exact ⟨k + 1, by omega, by go_num, HNX.out HF.out⟩
        case measure => simp [intOf]; omega
      | true =>
        cases hal : ls.all o.contains with
        | false =>
          have HF : Hid (readyB S o x = false) := by show readyB S o x = false; rw [HR.out, hcc, hal]; rfl
          have HC : Hid (Calls Try.prog 27 #[.slice q3 ls.length c3, .map (some m)] w fun e w' => e = .returned (.bool false) ∧ w' = w) := hal ▸ allPlaced_any ls hso q3 c3 w hst m nn DP o hown HP.out
          go_wp2_with (go_at_call 27; refine HC.out.mono ?_; rintro e w' ⟨rfl, rfl⟩)
          go_round
          case rel => exact ⟨k + 1, by omega, by go_num, HNX.out HF.out⟩
          case measure => simp [intOf]; omega
        | true =>
          have HF : Hid (N.find? (readyB S o) = some x) := HT.out (by rw [HR.out, hcc, hal]; rfl)
          have HC : Hid (Calls Try.prog 27 #[.slice q3 ls.length c3, .map (some m)] w fun e w' => e = .returned (.bool true) ∧ w' = w) := hal ▸ allPlaced_any ls hso q3 c3 w hst m nn DP o hown HP.out
          go_wp2_with (go_at_call 27; refine HC.out.mono ?_; rintro e w' ⟨rfl, rfl⟩)
          go_ret2
          rw [HF.out]
          exact ⟨rfl, rfl⟩
    · go_wp2
      go_ret2
      have hkl : k = N.length := by omega
      subst hkl
      rw [find_no HA.out]
      exact ⟨rfl, rfl⟩
end Go.Proofs.Ytnjjpahpaeblfab
