/- What Clone of package shelf answers: a shelf with the same notes, in new memory. -/
import Derived.Test.YtnjjpahpaeblfabLacks
import Derived.Test.YtnjjpahpaeblfabNe
import Derived.Deep.RegionHeldLaw
namespace Go.Proofs.Ytnjjpahpaeblfab
open Go.RowKit Go.Maps Go.Sort
set_option linter.unusedVariables false

theorem hidC {q : Prop} (h : q) : Hid q := h
theorem nodup_le : ∀ {l m : List (List UInt8)}, l.Nodup → (∀ y ∈ l, y ∈ m) → l.length ≤ m.length
  | [], m, _, _ => by simp
  | x :: r, m, h, hs => by
    rw [List.nodup_cons] at h
    have hx := hs x (List.mem_cons_self ..)
    have ih := nodup_le (l := r) (m := m.erase x) h.2 (fun y hy => by
      have hne : y ≠ x := fun e => h.1 (e ▸ hy)
      exact (List.mem_erase_of_ne hne).2 (hs y (List.mem_cons_of_mem _ hy)))
    rw [List.length_erase_of_mem hx] at ih
    have := List.length_pos_of_mem hx
    simp only [List.length_cons]
    omega
theorem nodup_nt {S : List Nt} (h : (S.map Nt.name).Nodup) : S.Nodup := by
  rw [List.nodup_iff_pairwise_ne] at h ⊢
  exact (List.pairwise_map.1 h).imp (fun hne e => hne (by rw [e]))

theorem clone_rel {w w1 w2 w5 w6 wr : World} {p b cnt2 : Nat} {F F2 : Nat → Prop} {S S2 : List Nt} {D D2 : DataW Value} {left : Lit → Bool} {n : Nt} {a5 : Option Addr} {cap5 : Nat} {o : Obj} (hS5 : SH w5 (w.heap.size + 1) w.heap.size F2 S2 D2) (hn : n ∈ S) (hok : NtOk n) (hri : rightI n = 0) (hxn : n.name ∉ S2.map Nt.name) (hl : S2.length < 64)
    (hr5 : w5.ownsRow (w2.alloc o).drew.heap.size 9 1 (.slice a5 n.leans.length cap5) n.leans.length (n.leans.map encStr)) (hown6 : w6.ownsMap Try.prog 9 noteR w.heap.size (S2.length + 1) (D2.put (.string n.name) (.held (.agg #[.string ⟨n.name.toArray⟩, .int .i64 n.words, .int .u32 n.sum, .slice a5 n.leans.length cap5]))))
    (hg6 : w5.grownBy w6 (some w.heap.size)) (hF2 : ∀ j, F2 j → w.heap.size ≤ j ∧ j < wr.heap.size ∧ j ≠ w1.heap.size) (hmem : ∀ m, m ∈ S2 ↔ m ∈ S ∧ left (.string m.name) = false) (hlk : left (.string n.name) = true) (hH : SH w p b F S D)
    (hrg2 : w2.ranges Try.prog 9 noteR b w1.heap.size S.length D (fun z => left z && !z.sameKey (.string n.name)) cnt2) (hb5 : Below (w2.alloc o).drew.heap.size (w2.alloc o).drew w5) (hB5 : Below w.heap.size w w5) (hrs2 : w1.heap.size < w2.heap.size) (hp2 : w.heap.size < w2.heap.size) (hsz : w2.heap.size = wr.heap.size) (hz : w.heap.size + 2 ≤ w1.heap.size) :
    w6.ranges Try.prog 9 noteR b w1.heap.size S.length D (fun z => left z && !z.sameKey (.string n.name)) cnt2 ∧ ∃ (F3 : Nat → Prop) (D3 : DataW Value), SH w6 (w.heap.size + 1) w.heap.size F3 (S2 ++ [n]) D3 ∧
      (∀ j, F3 j → w.heap.size ≤ j ∧ j < w6.heap.size ∧ j ≠ w1.heap.size) ∧ (∀ m, m ∈ S2 ++ [n] ↔ m ∈ S ∧ (left (.string m.name) && !(Lit.string m.name).sameKey (.string n.name)) = false) ∧ Below w.heap.size w w6 ∧ w1.heap.size < w6.heap.size := by
  have h5 := hb5.size
  have h6 := hg6.size
  have hal : (w2.alloc o).drew.heap.size = w2.heap.size + 1 := by simp
  have hbl := hH.own.lt
  refine ⟨?_, _, _, hS5.put n hok hri hxn hl (.slice a5 n.leans.length cap5) (StrsAt.of_row hr5) hown6 hg6, ?_, ?_, hB5.grown hg6 hB5.size (fun j hj => by cases hj; exact Nat.le_refl _), by omega⟩
  · have hr1 : w5.ranges Try.prog 9 noteR b w1.heap.size S.length D (fun z => left z && !z.sameKey (.string n.name)) cnt2 := (hrg2.alloc o).kept (row := none) (w' := w5) ⟨hb5.os, hb5.tape, hb5.output, hb5.size, fun k hk _ => hb5.block k hk⟩ (by simp) (by simp)
    exact hr1.kept hg6 (by simp; omega) (by simp; omega)
  · rintro j (hj | hj)
    · have := hF2 j hj
      exact ⟨this.1, by omega, this.2.2⟩
    · have := hr5.lt j hj
      exact ⟨by omega, by omega, by omega⟩
  · intro m
    rw [List.mem_append, List.mem_singleton, hmem m]
    constructor
    · rintro (⟨h1, h2⟩ | rfl)
      · exact ⟨h1, by simp [h2]⟩
      · exact ⟨hn, by simp [Lit.sameKey]⟩
    · rintro ⟨h1, h2⟩
      by_cases e : m.name = n.name
      · exact .inr (hH.eq_of_name h1 hn e)
      · have hs : (Lit.string m.name).sameKey (.string n.name) = false := sameKey_ne (by simpa using e)
        exact .inl ⟨h1, by simpa [hs] using h2⟩

set_option maxRecDepth 100000 in
set_option maxHeartbeats 4000000 in
theorem clone_any (w : World) (p b : Nat) (F : Nat → Prop) (S : List Nt) (D : DataW Value) (h : SH w p b F S D) :
    Calls Try.prog 9 #[.pointer (some ⟨p, 0, none⟩)] w fun e w' => ∃ p2 b2 F2 S2 D2, e = .returned (.pointer (some ⟨p2, 0, none⟩)) ∧ SH w' p2 b2 F2 S2 D2 ∧ S2.Perm S ∧ (∀ j, F2 j → w.heap.size ≤ j ∧ j < w'.heap.size) ∧ Below w.heap.size w w' := by
  have hcell := h.cell
  have hp : p < w.heap.size := World.block_lt_of_cell? w _ h.cell
  have hbl := h.own.lt
  have HH := hidC h
  clear h
  go_enter Try.func9, Try.ntmps9
  go_wp2_with (first
    | (go_at_call 5; refine (new_at w).mono ?_; rintro e w1 ⟨rfl, hS1, hb1, hz1⟩; have HS1 := hidC hS1; have HB1 := hidC hb1; have hs1 := hb1.size; have hc1 : w1.cell? ⟨p, 0, none⟩ = some (.map (some b)) := (hb1.cell (p := ⟨p, 0, none⟩) hp).trans hcell; have HZ1 := hidC hz1; clear hS1 hb1 hz1)
    | (at_range; refine wpList_range_own _ rfl _ 44 rfl 9 30 law9 Try.underlying44 noteR b S.length D rfl (HH.out.below HB1.out (Nat.le_refl _)).own ?_; intro w0 hrg0 hg0 hs0)
    | go_in)
  go_frame
  have hz1 : w.heap.size + 2 ≤ w1.heap.size := by rw [HZ1.out]; omega
  have hg0s := hg0.size
  go_loopw [4] (fun _ wr => ∃ (left : Lit → Bool) (cnt : Nat) (S2 : List Nt) (F2 : Nat → Prop) (D2 : DataW Value), wr.ranges Try.prog 9 noteR b w1.heap.size S.length D left cnt ∧ SH wr (w.heap.size + 1) w.heap.size F2 S2 D2 ∧
      (∀ j, F2 j → w.heap.size ≤ j ∧ j < wr.heap.size ∧ j ≠ w1.heap.size) ∧ (∀ n, n ∈ S2 ↔ n ∈ S ∧ left (.string n.name) = false) ∧ Below w.heap.size w wr ∧ w1.heap.size < wr.heap.size)
    (fun _ wr => wr.rangeLeft b w1.heap.size)
  case atStart =>
    refine ⟨_, _, [], _, _, hrg0, HS1.out.kept hg0s (fun j _ hj => hg0.block j hj (by simp)), ?_, ?_, HB1.out.grown hg0 hs1 (fun j hj => by cases hj), by omega⟩
    · rintro j (rfl | rfl) <;> omega
    · intro n
      constructor
      · intro hn; simp at hn
      · rintro ⟨hn, hl⟩
        rw [HH.out.has_true hn] at hl
        cases hl
  case round =>
    obtain ⟨left, cnt, S2, F2, D2, hrg, hS2, hF2, hmem, hnx, hszr⟩ := hrel
    have HS2 := hidC hS2
    have HF2 := hidC hF2
    have HMEM := hidC hmem
    have HNX := hidC hnx
    clear hF2 hmem hS2
    go_wp2_with (first
      | (at_next; refine wpList_next_ranges _ rfl _ rfl 9 law9 noteR encStr mkNoteV (fun key kl hk => by obtain ⟨x, hx, _⟩ := Maps.keyOf_str Try.underlying9 hk; exact ⟨x, hx⟩) (fun v y hv => by obtain ⟨c, hc, _⟩ := noteR_inv hv; exact ⟨c, hc⟩) b w1.heap.size S.length _ _ _ rfl hrg ?_ ?_)
      | go_in)
    · intro hc0 hl0
      go_wp2
      go_ret
      refine ⟨_, _, F2, S2, D2, rfl, HS2.out, ?_, fun j hj => ⟨(HF2.out j hj).1, (HF2.out j hj).2.1⟩, HNX.out⟩
      exact (List.perm_ext_iff_of_nodup (nodup_nt HS2.out.nodup) (nodup_nt HH.out.nodup)).2 (fun n => by rw [HMEM.out n]; simp [hl0])
    · intro x s1 a1 b1 q1 l1 k1 kl yd yp w2 cnt2 hkey hlk hv hat hrg2 hlt hg2 hs2 hen
      obtain ⟨x', ex, rfl, _⟩ := Maps.keyOf_str Try.underlying9 hkey
      obtain rfl : x = x' := encStr_inj ex
      obtain ⟨n, hn, rfl, a, cap, hve, hst, _⟩ := HH.out.entry hv hat
      rw [hve] at hen ⊢
      clear hv hat hve ex hkey
      have HN := hidC hn
      have HB2 : Hid (Below w.heap.size w w2) := HNX.out.grown hg2 HNX.out.size (fun j hj => by cases hj; exact hs1)
      have HS22 : Hid (SH w2 (w.heap.size + 1) w.heap.size F2 S2 D2) := HS2.out.kept hg2.size (fun j hj hl => hg2.block j hl (by have := (HF2.out j hj).2.2; simpa using this))
      have hrs2 : w1.heap.size < w2.heap.size := Nat.lt_of_lt_of_le hszr hg2.size
      have HSZ2 := hidC hs2
      have hc2 : w2.cell? ⟨w.heap.size + 1, 0, none⟩ = some (.map (some w.heap.size)) := HS22.out.cell
      have hp2 : w.heap.size + 1 < w2.heap.size := World.block_lt_of_cell? w2 _ hc2
      have hp2' : w.heap.size < w2.heap.size := by omega
      have HOK := hidC (HH.out.inn n hn).1
      have HRI := hidC (HH.out.inn n hn).2.1
      have hnl := (HH.out.inn n hn).1.name
      have HST : Hid (∀ w', Below w.heap.size w w' → StrsAt w' (.slice a n.leans.length cap) n.leans) := fun w' hb => hst.below hb (Nat.le_refl _)
      have hxn : n.name ∉ S2.map Nt.name := fun hm => by
        obtain ⟨m, hm1, hm2⟩ := List.mem_map.1 hm
        have := (HMEM.out m).1 hm1
        rw [hm2, hlk] at this
        cases this.2
      have HXN := hidC hxn
      have hl64 : S2.length < 64 := by
        have := nodup_le (l := n.name :: S2.map Nt.name) (m := S.map Nt.name) (List.nodup_cons.2 ⟨hxn, HS2.out.nodup⟩) (fun y hy => by
          rcases List.mem_cons.1 hy with rfl | hy
          · exact List.mem_map_of_mem hn
          · obtain ⟨m, hm1, rfl⟩ := List.mem_map.1 hy
            exact List.mem_map_of_mem ((HMEM.out m).1 hm1).1)
        simp at this
        have := HH.out.few
        omega
      have HLK := hidC hlk
      clear hs2 hxn hst hlk hn hnx
      unfold encStr at hen ⊢
      go_wp2_with fail
      have HBX : Hid (∀ o, Below w.heap.size w (w2.alloc o).drew) := fun o => below_drew (HB2.out.alloc HB2.out.size o)
      go_region_with (go_at_call 17; refine (copyNote_agg n HOK.out a cap _ (HST.out _ (HBX.out _))).mono ?_; rintro e w5 ⟨a5, cap5, rfl, hrow5, hb5⟩; have HB5 := hidC hb5; have HR5 := hidC hrow5; have hs5 : w2.heap.size < w5.heap.size := by { have := hb5.size; simp at this; omega }; have HS5 := hidC ((HS22.out.below (below_drew ((Below.refl w2.heap.size w2).alloc (Nat.le_refl _) _)) (Nat.le_refl _)).below hb5 (Nat.le_refl _)); have hc5p : w5.cell? ⟨w.heap.size + 1, 0, none⟩ = some (.map (some w.heap.size)) := HS5.out.cell; obtain ⟨w6, hrun6, hown6, hturn6⟩ := HS5.out.own.store law9 Try.underlying44 (by unfold maxLen; omega) (key_str hnl) (noteR_mk ⟨n.name.toArray⟩ n.words n.sum a5 n.leans.length cap5); clear hrow5 hb5)
      all_goals
        go_wp2
        go_roundw
        case rel =>
          have hB5 := (HBX.out _).trans (HB5.out.mono (show w.heap.size ≤ (w2.alloc (.cells #[.string ⟨n.name.toArray⟩, .int .i64 n.words, .int .u32 n.sum, .slice a n.leans.length cap] 30)).drew.heap.size by simp; omega))
          obtain ⟨k0, F3, D3, k1, k2, k3, k4, k5⟩ := clone_rel HS5.out HN.out HOK.out HRI.out HXN.out hl64 HR5.out hown6 hturn6.grown HF2.out HMEM.out HLK.out HH.out hrg2 HB5.out hB5 hrs2 hp2' HSZ2.out hz1
          exact ⟨_, cnt2, S2 ++ [n], F3, D3, k0, k1, k2, k3, k4, k5⟩
        case measure =>
          have hB5 := (HBX.out _).trans (HB5.out.mono (show w.heap.size ≤ (w2.alloc (.cells #[.string ⟨n.name.toArray⟩, .int .i64 n.words, .int .u32 n.sum, .slice a n.leans.length cap] 30)).drew.heap.size by simp; omega))
          have k0 := (clone_rel HS5.out HN.out HOK.out HRI.out HXN.out hl64 HR5.out hown6 hturn6.grown HF2.out HMEM.out HLK.out HH.out hrg2 HB5.out hB5 hrs2 hp2' HSZ2.out hz1).1
          rw [k0.left_eq, hrg.left_eq]; exact hlt
end Go.Proofs.Ytnjjpahpaeblfab
