/- What Add of package shelf does: a right note with a new name is there behind it, and nothing else has changed. -/
import Derived.Test.YtnjjpahpaeblfabSh
import Derived.Deep.RegionWith
namespace Go.Proofs.Ytnjjpahpaeblfab
open Go.RowKit Go.Maps
set_option linter.unusedVariables false

def addI (S : List Nt) (n : Nt) : Int := if rightI n ≠ 0 then rightI n else if (S.map Nt.name).contains n.name then 10 else if 64 ≤ S.length then 3 else 0
def addS (S : List Nt) (n : Nt) : List Nt := if addI S n = 0 then S ++ [n] else S

theorem StrsAt.mapTurn {w w' : World} {sl : Value} {ss : List (List UInt8)} {b : Nat} {es : Array MapEntry} {clock : Nat} (h : StrsAt w sl ss) (hm : w.heap[b]? = some (.map es clock)) (hg : w.grownBy w' (some b)) : StrsAt w' sl ss := by
  rcases h with h | ⟨g, off, cap, rfl, hgl, hc⟩
  · exact .inl h
  · by_cases h0 : ss.length = 0
    · exact .inl ⟨List.eq_nil_of_length_eq_zero h0, some ⟨g, off, none⟩, cap, by rw [h0], nofun⟩
    · refine .inr ⟨g, off, cap, rfl, Nat.lt_of_lt_of_le hgl hg.size, fun j hj => ?_⟩
      refine hg.cell (hc j hj) (fun e => ?_)
      have h1 := hc 0 (by omega)
      cases e
      simp [World.cell?, hm] at h1

theorem SH.put {w w' : World} {p b : Nat} {F : Nat → Prop} {S : List Nt} {D : DataW Value} (h : SH w p b F S D) (n : Nt) (hn : NtOk n) (hr : rightI n = 0) (hx : n.name ∉ S.map Nt.name) (hl : S.length < 64) (sl : Value) (hs : StrsAt w sl n.leans)
    (hown : w'.ownsMap Try.prog 9 noteR b (S.length + 1) (D.put (.string n.name) (.held (noteV n sl)))) (hg : w.grownBy w' (some b)) :
    SH w' p b (fun k => F k ∨ sl.ownBlock = some k) (S ++ [n]) (D.put (.string n.name) (.held (noteV n sl))) := by
  have hne := h.ne
  have hT := h.own.tidy law9
  have hI := h.own.isMap
  obtain ⟨es, clock, hb, r⟩ := h.own
  refine ⟨hg.cell h.cell (by simpa using hne), by simpa using hown, ?_, ?_, ?_, ?_, .inl h.fp, .inl h.fb, by simp; omega⟩
  · rw [size_put hT, h.out _ hx, h.size]; simp
  · rw [List.map_append, List.nodup_append]
    refine ⟨h.nodup, by simp, ?_⟩
    intro a ha c hc e
    simp only [List.map_cons, List.map_nil, List.mem_singleton] at hc
    subst hc; subst e
    exact hx ha
  · intro x hxn
    rw [List.map_append, List.mem_append, not_or] at hxn
    have : x ≠ n.name := fun e => hxn.2 (by simp [e])
    rw [has_put_other (by simpa using this)]
    exact h.out x hxn.1
  · intro m hm
    rcases List.mem_append.1 hm with hm | hm
    · obtain ⟨h1, h2, sl0, h3, h4, h5⟩ := h.inn m hm
      have hmn : m.name ≠ n.name := fun e => hx (e ▸ List.mem_map_of_mem hm)
      exact ⟨h1, h2, sl0, fun zd => by rw [atKey_put_other (by simpa using hmn)]; exact h3 zd, h4.mapTurn hb hg, fun g hg' => .inl (h5 g hg')⟩
    · rw [List.mem_singleton] at hm
      subst hm
      exact ⟨hn, hr, sl, fun zd => atKey_put_same hI (by simp [WideAt.IsKeyLit]) _ _, hs.mapTurn hb hg, fun g hg' => .inr hg'⟩

theorem below_drew {B : Nat} {w w' : World} (h : Below B w w') : Below B w w'.drew := ⟨h.os, h.tape, h.output, h.size, h.block⟩
theorem grown_of_below {w w' : World} (h : Below w.heap.size w w') {row : Option Nat} : w.grownBy w' row := ⟨h.os, h.tape, h.output, h.size, fun k hk _ => h.block k hk⟩

theorem add_end {w w5 w6 : World} {p b B : Nat} {F : Nat → Prop} {S : List Nt} {D : DataW Value} {n : Nt} (HA : Hid (addI S n = 0)) (HAS : Hid (addS S n = S ++ [n])) (hs5 : SH w5 p b F S D) (hB5 : Below w.heap.size w w5) (m : Nt) (hn : NtOk n) (hr : rightI n = 0) (hx : n.name ∉ S.map Nt.name) (hl : S.length < 64)
    {a5 : Option Addr} {cap5 : Nat} (hr5 : w5.ownsRow B 9 1 (.slice a5 n.leans.length cap5) n.leans.length (n.leans.map encStr))
    (hown6 : w6.ownsMap Try.prog 9 noteR b (S.length + 1) (D.put (.string n.name) (.held (.agg #[.string ⟨n.name.toArray⟩, .int .i64 n.words, .int .u32 n.sum, .slice a5 n.leans.length cap5])))) (hg6 : w5.grownBy w6 (some b)) (hB : w.heap.size ≤ B) :
    ∃ F' D', Ending.returned (.int .i64 0) = Ending.returned (.int .i64 (addI S n)) ∧ SH w6 p b F' (addS S n) D' ∧ (∀ k, F' k → F k ∨ (w.heap.size ≤ k ∧ k < w6.heap.size)) ∧ (∀ k, F k → F' k) ∧ w.grownBy w6 (some b) := by
  rw [HA.out, HAS.out]
  refine ⟨_, _, rfl, hs5.put n hn hr hx hl (.slice a5 n.leans.length cap5) (StrsAt.of_row hr5) hown6 hg6, ?_, fun k hk => .inl hk, ?_⟩
  · rintro k (hk | hk)
    · exact .inl hk
    · have h1 := hr5.lt k hk
      have h2 := hg6.size
      exact .inr ⟨by omega, by omega⟩
  · exact ⟨hg6.os.trans hB5.os, hg6.tape.trans hB5.tape, hg6.output.trans hB5.output, Nat.le_trans hB5.size hg6.size, fun k hk hkb => (hg6.block k (Nat.lt_of_lt_of_le hk hB5.size) hkb).trans (hB5.block k hk)⟩

set_option maxRecDepth 100000 in
set_option maxHeartbeats 4000000 in
theorem add_any (n : Nt) (hn : NtOk n) (sl : Value) (w : World) (hs : StrsAt w sl n.leans) (p b : Nat) (F : Nat → Prop) (S : List Nt) (D : DataW Value) (h : SH w p b F S D) :
    Calls Try.prog 7 #[.pointer (some ⟨p, 0, none⟩), noteV n sl] w fun e w' => ∃ F' D', e = .returned (.int .i64 (addI S n)) ∧ SH w' p b F' (addS S n) D' ∧ (∀ k, F' k → F k ∨ (w.heap.size ≤ k ∧ k < w'.heap.size)) ∧ (∀ k, F k → F' k) ∧ w.grownBy w' (some b) := by
  obtain ⟨a, cap, hsh⟩ := hs.shape
  have hbox : ∀ o, Below w.heap.size w (w.alloc o) := fun o => (Below.refl _ _).alloc (Nat.le_refl _) o
  have HB : Hid (∀ o, Below w.heap.size w (w.alloc o)) := hbox
  have HS : Hid (∀ w', Below w.heap.size w w' → StrsAt w' sl n.leans) := fun w' hb => hs.below hb (Nat.le_refl _)
  have HH : Hid (∀ w', Below w.heap.size w w' → SH w' p b F S D) := fun w' hb => h.below hb (Nat.le_refl _)
  have hp : p < w.heap.size := World.block_lt_of_cell? w _ h.cell
  have hbl := h.own.lt
  have hne := h.ne
  have hcell := h.cell
  have hrb : rightI n = 0 ∨ rightI n = 1 ∨ rightI n = 3 := by unfold rightI; split <;> (try split) <;> simp
  have HN : Hid (NtOk n) := hn
  have hnl := hn.name
  by_cases hr : rightI n = 0
  · subst hsh
    clear hs hbox hrb
    have hv : noteV n (.slice a n.leans.length cap) = .agg #[.string ⟨n.name.toArray⟩, .int .i64 n.words, .int .u32 n.sum, .slice a n.leans.length cap] := rfl
    rw [hv]
    cases hin : (S.map Nt.name).contains n.name with
    | true =>
      have HA : Hid (addI S n = 10) := by show addI S n = 10; simp only [addI, hr, hin]; simp
      have HAS : Hid (addS S n = S) := by show addS S n = S; rw [addS, HA.out]; rfl
      obtain ⟨n0, hn0, hnm⟩ := List.mem_map.1 (List.contains_iff_mem.1 hin)
      obtain ⟨a0, cap0, hat0, hhas0, _, _⟩ := h.look_in hn0
      rw [hnm] at hat0 hhas0
      have HL : Hid (∀ (W : World), W.ownsMap Try.prog 9 noteR b S.length D → (Instr.lookup 44 (.map (some b)) (.string ⟨n.name.toArray⟩) true).run Try.prog W = .ok (.tuple #[.agg #[.string ⟨n0.name.toArray⟩, .int .i64 n0.words, .int .u32 n0.sum, .slice a0 n0.leans.length cap0], .bool true]) W) := fun W hW => (look_val hnl hat0 hhas0 W hW).1
      clear hin hat0 hhas0 hnm hn0
      go_enter Try.func7, Try.ntmps7
      go_wp2_with (first
        | (go_at_call 16; refine (right_any n HN.out _ _ (HS.out _ (HB.out _))).mono ?_; rintro e w2 ⟨rfl, hb2⟩; obtain ⟨hc2, hf2⟩ := bcell hb2; have hsz2 : w.heap.size < w2.heap.size := by { have := hb2.size; simp at this; omega }; have hp2 : p < w2.heap.size := by omega)
        | go_in)
      have hb3 : Below w.heap.size w w2 := (HB.out _).trans (hb2.mono (by simp))
      have hown2 := (HH.out _ hb3).own
      have hl1 := HL.out _ hown2.drew
      have hl2 := fun o => HL.out _ (hown2.alloc o).drew
      go_region
      go_wp2
      go_ret
      have hb4 : ∀ o, Below w.heap.size w (w2.alloc o).drew := fun o => below_drew (hb3.alloc hb3.size o)
      rw [HA.out, HAS.out]
      exact ⟨F, D, rfl, HH.out _ (hb4 _), fun k hk => .inl hk, fun k hk => hk, grown_of_below (hb4 _)⟩
    | false =>
      have hxn : n.name ∉ S.map Nt.name := fun hx => by rw [List.contains_iff_mem.2 hx] at hin; cases hin
      have HX : Hid (n.name ∉ S.map Nt.name) := hxn
      obtain ⟨hat0, hhas0⟩ := h.look_out hxn
      have HL : Hid (∀ (W : World), W.ownsMap Try.prog 9 noteR b S.length D → (Instr.lookup 44 (.map (some b)) (.string ⟨n.name.toArray⟩) true).run Try.prog W = .ok (.tuple #[.agg #[.string ⟨#[]⟩, .int .i64 0, .int .u32 0, .slice none 0 0], .bool false]) W) := fun W hW => (look_val hnl hat0 hhas0 W hW).1
      have HI : Hid ((S.map Nt.name).contains n.name = false) := hin
      clear hin hat0 hhas0 hxn
      have hsize : (Maps.size D : Int) = (S.length : Int) := by rw [h.size]
      have hfew := h.few
      by_cases h64 : (64 : Int) ≤ S.length
      · have HA : Hid (addI S n = 3) := by show addI S n = 3; simp only [addI, hr, HI.out]; simp; omega
        have HAS : Hid (addS S n = S) := by show addS S n = S; rw [addS, HA.out]; rfl
        go_enter Try.func7, Try.ntmps7
        go_wp2_with (first
          | (go_at_call 16; refine (right_any n HN.out _ _ (HS.out _ (HB.out _))).mono ?_; rintro e w2 ⟨rfl, hb2⟩; obtain ⟨hc2, hf2⟩ := bcell hb2; have hsz2 : w.heap.size < w2.heap.size := by { have := hb2.size; simp at this; omega }; have hp2 : p < w2.heap.size := by omega)
          | go_in)
        have hb3 : Below w.heap.size w w2 := (HB.out _).trans (hb2.mono (by simp))
        have hown2 := (HH.out _ hb3).own
        have hl1 := HL.out _ hown2.drew
        have hl2 := fun o => HL.out _ (hown2.alloc o).drew
        go_region
        go_wp2_with (first
          | (at_len; refine wpList_len_own _ rfl _ 44 rfl 9 30 Try.underlying44 noteR b S.length D rfl (hown2.alloc _).drew ?_)
          | go_in)
        go_ret
        have hb4 : ∀ o, Below w.heap.size w (w2.alloc o).drew := fun o => below_drew (hb3.alloc hb3.size o)
        rw [HA.out, HAS.out]
        exact ⟨F, D, rfl, HH.out _ (hb4 _), fun k hk => .inl hk, fun k hk => hk, grown_of_below (hb4 _)⟩
      · have HA : Hid (addI S n = 0) := by show addI S n = 0; simp only [addI, hr, HI.out]; simp; omega
        have HAS : Hid (addS S n = S ++ [n]) := by show addS S n = S ++ [n]; rw [addS, HA.out]; rfl
        go_enter Try.func7, Try.ntmps7
        go_wp2_with (first
          | (go_at_call 16; refine (right_any n HN.out _ _ (HS.out _ (HB.out _))).mono ?_; rintro e w2 ⟨rfl, hb2⟩; obtain ⟨hc2, hf2⟩ := bcell hb2; have hsz2 : w.heap.size < w2.heap.size := by { have := hb2.size; simp at this; omega }; have hp2 : p < w2.heap.size := by omega)
          | go_in)
        have hb3 : Below w.heap.size w w2 := (HB.out _).trans (hb2.mono (by simp))
        have hown2 := (HH.out _ hb3).own
        have hl1 := HL.out _ hown2.drew
        have hl2 := fun o => HL.out _ (hown2.alloc o).drew
        go_region
        go_wp2_with (first
          | (at_len; refine wpList_len_own _ rfl _ 44 rfl 9 30 Try.underlying44 noteR b S.length D rfl (hown2.alloc _).drew ?_)
          | go_in)
        have hb4 : ∀ o, Below w.heap.size w (w2.alloc o).drew := fun o => below_drew (hb3.alloc hb3.size o)
        have HB4 : Hid (∀ o, Below w.heap.size w (w2.alloc o).drew) := hb4
        clear hb4 hl1 hl2
        go_region_with (go_at_call 17; refine (copyNote_agg n HN.out a cap _ (HS.out _ (below_drew (HB4.out _)))).mono ?_; rintro e w5 ⟨a5, cap5, rfl, hrow5, hb5⟩; have HB5 : Hid (Below w.heap.size w w5) := (below_drew (HB4.out _)).trans (hb5.mono (by simp; omega)); have HR5 : Hid (w5.ownsRow w2.heap.size 9 1 (.slice a5 n.leans.length cap5) n.leans.length (n.leans.map encStr)) := row_mono hrow5 (by simp); obtain ⟨hc5, hf5⟩ := bcell hb5; obtain ⟨w6, hrun6, hown6, hturn6⟩ := (HH.out _ HB5.out).own.store law9 Try.underlying44 (by unfold maxLen; omega) (key_str hnl) (noteR_mk ⟨n.name.toArray⟩ n.words n.sum a5 n.leans.length cap5); clear hrow5 hb5)
        all_goals
          go_wp2
          go_ret
          exact add_end HA HAS (HH.out _ HB5.out) HB5.out n HN.out hr HX.out (by omega) HR5.out hown6 hturn6.grown (by omega)
  · have hbne : (rightI n != 0) = true := by rw [bne_iff_ne]; exact hr
    have HA : Hid (addI S n = rightI n) := by show addI S n = rightI n; simp [addI, hr]
    have HAS : Hid (addS S n = S) := by show addS S n = S; rw [addS, HA.out, if_neg hr]
    clear hrb hs hbox
    subst hsh
    have hv : noteV n (.slice a n.leans.length cap) = .agg #[.string ⟨n.name.toArray⟩, .int .i64 n.words, .int .u32 n.sum, .slice a n.leans.length cap] := rfl
    rw [hv]
    go_enter Try.func7, Try.ntmps7
    go_wp2_with (first
      | (go_at_call 16; refine (right_any n HN.out _ _ (HS.out _ (HB.out _))).mono ?_; rintro e w2 ⟨rfl, hb2⟩)
      | go_in)
    go_ret
    have hb3 : Below w.heap.size w w2 := (HB.out _).trans (hb2.mono (by simp))
    rw [HA.out, HAS.out]
    exact ⟨F, D, rfl, HH.out _ hb3, fun k hk => .inl hk, fun k hk => hk, ⟨hb3.os, hb3.tape, hb3.output, hb3.size, fun k hk _ => hb3.block k hk⟩⟩
end Go.Proofs.Ytnjjpahpaeblfab
