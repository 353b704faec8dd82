/- What lacks of package shelf answers: whether a note leans on a name that is not there. -/
import Derived.Test.YtnjjpahpaeblfabNames
namespace Go.Proofs.Ytnjjpahpaeblfab
open Go.RowKit Go.Maps Go.Sort
set_option linter.unusedVariables false

def allIn (S : List Nt) (n : Nt) : Bool := n.leans.all fun l => (S.map Nt.name).contains l

theorem lacksB_eq (S : List Nt) : lacksB S = S.any (fun n => !allIn S n) := by
  unfold lacksB allIn
  congr 1
  funext n
  rw [List.not_all_eq_any_not]
theorem lacksB_true {S : List Nt} {n : Nt} (hn : n ∈ S) {k : Nat} (hk : k < n.leans.length) (h : (S.map Nt.name).contains (n.leans.getD k []) = false) : lacksB S = true := by
  rw [lacksB, List.any_eq_true]
  refine ⟨n, hn, ?_⟩
  rw [List.any_eq_true]
  refine ⟨n.leans.getD k [], ?_, by simp only [h, Bool.not_false]⟩
  rw [List.getD, List.getElem?_eq_getElem hk]
  exact List.getElem_mem hk
theorem allIn_of {S : List Nt} {n : Nt} (h : ∀ j, j < n.leans.length → (S.map Nt.name).contains (n.leans.getD j []) = true) : allIn S n = true := by
  rw [allIn, List.all_eq_true]
  intro x hx
  obtain ⟨j, hj, rfl⟩ := List.mem_iff_getElem.1 hx
  have := h j hj
  rwa [List.getD, List.getElem?_eq_getElem hj] at this
theorem lacksB_false {S : List Nt} (h : ∀ n ∈ S, allIn S n = true) : lacksB S = false := by
  rw [lacksB_eq, List.any_eq_false]
  intro n hn
  simp [h n hn]

/-- The note that a range hands out is one of the shelf's. -/
theorem SH.entry {w : World} {p b : Nat} {F : Nat → Prop} {S : List Nt} {D : DataW Value} (h : SH w p b F S D) {x : List UInt8} {v : Value} {yd : DataW Value} {yp : List MemPlace} (hv : noteR v = some (yd, yp)) (hat : ∀ zd, D.atKey (.string x) zd = yd) :
    ∃ n ∈ S, n.name = x ∧ ∃ a cap, v = .agg #[.string ⟨n.name.toArray⟩, .int .i64 n.words, .int .u32 n.sum, .slice a n.leans.length cap] ∧ StrsAt w (.slice a n.leans.length cap) n.leans ∧ ∀ g, (Value.slice a n.leans.length cap).ownBlock = some g → F g := by
  have hh := has_true_of_atKey hat
  rw [h.has_iff] at hh
  obtain ⟨n, hn, rfl⟩ := List.mem_map.1 (List.contains_iff_mem.1 hh)
  obtain ⟨a, cap, h1, _, h3, h4⟩ := h.look_in hn
  refine ⟨n, hn, rfl, a, cap, ?_, h3, h4⟩
  have e := hat (.held zeroNote)
  rw [h1, noteR_self hv] at e
  cases e
  rfl

/-- A look-up in a shelf: a value of a note's shape; whether the name is there. -/
theorem SH.look {w : World} {p b : Nat} {F : Nat → Prop} {S : List Nt} {D : DataW Value} (h : SH w p b F S D) (x : List UInt8) (hx : x.length ≤ maxLen) : ∃ s a1 b1 q l c, ∀ (W : World), W.ownsMap Try.prog 9 noteR b S.length D →
    (Instr.lookup 44 (.map (some b)) (.string ⟨x.toArray⟩) true).run Try.prog W = .ok (.tuple #[.agg #[.string s, .int .i64 a1, .int .u32 b1, .slice q l c], .bool ((S.map Nt.name).contains x)]) W := by
  by_cases hin : x ∈ S.map Nt.name
  · obtain ⟨n, hn, rfl⟩ := List.mem_map.1 hin
    obtain ⟨a, cap, h1, h2, _, _⟩ := h.look_in hn
    exact ⟨_, _, _, _, _, _, fun W hW => (look_val hx h1 (h2.trans (List.contains_iff_mem.2 hin).symm) W hW).1⟩
  · obtain ⟨h1, h2⟩ := h.look_out hin
    refine ⟨_, _, _, _, _, _, fun W hW => (look_val hx h1 (h2.trans ?_) W hW).1⟩
    cases hc : (S.map Nt.name).contains x with
    | false => rfl
    | true => exact absurd (List.contains_iff_mem.1 hc) hin

theorem SH.eq_of_name {w : World} {p b : Nat} {F : Nat → Prop} {S : List Nt} {D : DataW Value} (h : SH w p b F S D) {m n : Nt} (hm : m ∈ S) (hn : n ∈ S) (e : m.name = n.name) : m = n := by
  obtain ⟨i, hi, rfl⟩ := List.mem_iff_getElem.1 hm
  obtain ⟨j, hj, rfl⟩ := List.mem_iff_getElem.1 hn
  have := (List.getElem_inj (i := i) (j := j) (h₀ := by simpa using hi) (h₁ := by simpa using hj) h.nodup).1 (by simpa using e)
  subst this
  rfl

theorem ranges_below {w : World} {b r n : Nat} {D : DataW Value} {left : Lit → Bool} {cnt : Nat} (h : w.ranges Try.prog 9 noteR b r n D left cnt) : w.ownsMap Try.prog 9 noteR b n D := h.owns

set_option maxRecDepth 100000 in
set_option maxHeartbeats 2000000 in
theorem lacks_any (w : World) (p b : Nat) (F : Nat → Prop) (S : List Nt) (D : DataW Value) (h : SH w p b F S D) :
    Calls Try.prog 21 #[.pointer (some ⟨p, 0, none⟩)] w fun e w' => e = .returned (.bool (lacksB S)) ∧ Below w.heap.size w w' := by
  have hown := h.own
  have hbl := hown.lt
  have hcell := h.cell
  have hp : p < w.heap.size := World.block_lt_of_cell? w _ h.cell
  have HH : Hid (SH w p b F S D) := h
  clear h
  go_enter Try.func21, Try.ntmps21
  go_wp2_with (first
    | (at_range; refine wpList_range_own _ rfl _ 44 rfl 9 30 law9 Try.underlying44 noteR b S.length D rfl hown ?_; intro w0 hrg0 hg0 hs0)
    | go_in)
  go_frame
  go_loopw [4] (fun _ wr => ∃ (left : Lit → Bool) (cnt : Nat), wr.ranges Try.prog 9 noteR b w.heap.size S.length D left cnt ∧ (∀ n ∈ S, left (.string n.name) = false → allIn S n = true) ∧ Below w.heap.size w wr)
    (fun _ wr => wr.rangeLeft b w.heap.size)
  case atStart =>
    refine ⟨_, _, hrg0, fun n hn hl => ?_, (Below.refl _ _).grown hg0 (Nat.le_refl _) (fun j hj => by cases hj)⟩
    rw [HH.out.has_true hn] at hl
    cases hl
  case round =>
    obtain ⟨left, cnt, hrg, hall, hnx⟩ := hrel
    have HA : Hid (∀ n ∈ S, left (.string n.name) = false → allIn S n = true) := hall
    clear hall
    go_wp2_with (first
      | (at_next; refine wpList_next_ranges _ rfl _ rfl 9 law9 noteR encStr mkNoteV (fun key kl hk => by obtain ⟨x, hx, _⟩ := Maps.keyOf_str Try.underlying9 hk; exact ⟨x, hx⟩) (fun v y hv => by obtain ⟨c, hc, _⟩ := noteR_inv hv; exact ⟨c, hc⟩) b w.heap.size S.length _ _ _ rfl hrg ?_ ?_)
      | go_in)
    · intro hc0 hl0
      go_wp2
      go_ret
      exact ⟨ret_bool (lacksB_false (fun n hn => HA.out n hn (hl0 _))).symm, hnx⟩
    · intro x s1 a1 b1 q1 l1 k1 kl yd yp w2 cnt2 hkey hlk hv hat hrg2 hlt hg2 hs2 hen
      obtain ⟨x', ex, rfl, _⟩ := Maps.keyOf_str Try.underlying9 hkey
      obtain rfl : x = x' := encStr_inj ex
      obtain ⟨n, hn, rfl, a, cap, hve, hst, _⟩ := HH.out.entry hv hat
      rw [hve] at hen ⊢
      clear hv hat hve ex hkey
      have hnx2 : Below w.heap.size w w2 := hnx.grown hg2 hnx.size (fun j hj => by cases hj; exact Nat.le_refl _)
      have HB2 : Hid (Below w.heap.size w w2) := hnx2
      have hsz2 : w.heap.size ≤ w2.heap.size := hnx2.size
      have hnok := (HH.out.inn n hn).1
      have HN : Hid (NtOk n) := hnok
      have hll : n.leans.length ≤ 8796093022208 := hnok.leans.1
      clear hs2 hnx2 hnok
      have HS2 : Hid (∀ o, Below w.heap.size w (w2.alloc o)) := fun o => HB2.out.alloc hsz2 o
      have HR2 : Hid (∀ o, (w2.alloc o).ranges Try.prog 9 noteR b w.heap.size S.length D (fun z => left z && !z.sameKey (.string n.name)) cnt2) := fun o => hrg2.alloc o
      have HST : Hid (StrsAt w (.slice a n.leans.length cap) n.leans) := hst
      have HLK : Hid (left (.string n.name) = true) := hlk
      clear hst hlk
      go_wp2_with fail
      go_loopw [21] (fun i wq => ∃ k : Nat, k ≤ n.leans.length ∧ i = .int .i64 k ∧ wq.ranges Try.prog 9 noteR b w.heap.size S.length D (fun z => left z && !z.sameKey (.string n.name)) cnt2 ∧ Below w.heap.size w wq ∧ ∀ j, j < k → (S.map Nt.name).contains (n.leans.getD j []) = true)
        (fun i _ => n.leans.length - (intOf i).toNat)
      case atStart => exact ⟨0, Nat.zero_le _, rfl, HR2.out _, HS2.out _, fun j hj => by omega⟩
      case round =>
        obtain ⟨k, hk, rfl, hrq, hbq, hjs⟩ := hrel
        have HJ : Hid (∀ j, j < k → (S.map Nt.name).contains (n.leans.getD j []) = true) := hjs
        clear hjs
        by_cases hkl : k < n.leans.length
        · rcases HST.out with ⟨h0, _⟩ | ⟨g, off, cap', hsl, hg, hcl⟩
          · rw [h0] at hkl; exact absurd hkl (by simp)
          · cases hsl
            have hx1 : (n.leans.getD k []).length ≤ maxLen := HN.out.leans.2 _ (by rw [List.getD, List.getElem?_eq_getElem hkl]; exact List.getElem_mem hkl)
            have hcx : wr.cell? ⟨g, off + k, none⟩ = some (.string ⟨(n.leans.getD k []).toArray⟩) := (hbq.cell (p := ⟨g, off + k, none⟩) hg).trans (hcl k hkl)
            have hcp : wr.cell? ⟨p, 0, none⟩ = some (.map (some b)) := (hbq.cell (p := ⟨p, 0, none⟩) hp).trans hcell
            have hszq := hbq.size
            obtain ⟨s3, a3, b3, q3, l3, c3, hlook⟩ := HH.out.look (n.leans.getD k []) hx1
            have hl3 := hlook wr hrq.owns
            have HT : Hid (∀ c, c = (S.map Nt.name).contains (n.leans.getD k []) → c = false → lacksB S = true) := fun c hc hf => lacksB_true hn hkl (hc ▸ hf)
            have HJ2 : Hid (∀ c, c = (S.map Nt.name).contains (n.leans.getD k []) → c = true → ∀ j, j < k + 1 → (S.map Nt.name).contains (n.leans.getD j []) = true) := fun c hc ht j hj => by
              by_cases e : j = k
              · subst e; exact hc ▸ ht
              · exact HJ.out j (by omega)
            generalize hcc : (S.map Nt.name).contains (n.leans.getD k []) = c at hl3
            have HC : Hid (c = (S.map Nt.name).contains (n.leans.getD k [])) := hcc.symm
            clear hcc hlook hcl
            generalize hxx : n.leans.getD k [] = x at *
            have HX : Hid (n.leans.getD k [] = x) := hxx
            clear hxx
            cases c with
            | false =>
              go_wp2
              go_ret
              exact ⟨ret_bool (HT.out false HC.out rfl).symm, hbq.alloc hszq _⟩
            | true =>
              go_wp2
              go_roundw
              case rel => exact ⟨k + 1, by omega, by go_num, hrq.alloc _, hbq.alloc hszq _, HJ2.out true HC.out rfl⟩
              case measure => simp [intOf]; omega
        · go_wp2
          have hke : k = n.leans.length := by omega
          subst hke
          go_roundw
          case rel =>
            refine ⟨_, cnt2, hrq, fun m hm hlm => ?_, hbq⟩
            by_cases e : m.name = n.name
            · rw [HH.out.eq_of_name hm hn e]
              exact allIn_of HJ.out
            · refine HA.out m hm ?_
              have hs : (Lit.string m.name).sameKey (.string n.name) = false := sameKey_ne (by simpa using e)
              simpa [hs] using hlm
          case measure => rw [hrq.left_eq, hrg.left_eq]; exact hlt
end Go.Proofs.Ytnjjpahpaeblfab
