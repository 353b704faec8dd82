/- What Find and next of the document's shelf answer. -/
import Derived.Test.YtnjjpahpaeblfaaNe
import Derived.Test.YtnjjpahpaeblfaaRefB
namespace Go.Proofs.Ytnjjpahpaeblfaa
open Go.RowKit Go.Maps Go.Sort
set_option linter.unusedVariables false

theorem ret_ib {i : Int} {a b : Bool} (h : a = b) : Ending.returned (.tuple #[.int .i64 i, .bool a]) = .returned (.tuple #[.int .i64 i, .bool b]) := by rw [h]
theorem hidR {q : Prop} (h : q) : Hid q := h

/-- The document's shelf: its struct at r, its notes T. -/
def RS (w : World) (r : Nat) (T : List Ne) : Prop := ∃ a cap, w.cell? ⟨r, 0, none⟩ = some (.slice a T.length cap) ∧ NotesAt w (.slice a T.length cap) T
theorem RS.below {B : Nat} {w w' : World} {r : Nat} {T : List Ne} (h : RS w r T) (hb : Below B w w') (hB : w.heap.size ≤ B) : RS w' r T := by
  obtain ⟨a, cap, h1, h2⟩ := h
  exact ⟨a, cap, (hb.cell (p := ⟨r, 0, none⟩) (Nat.lt_of_lt_of_le (World.block_lt_of_cell? w _ h1) hB)).trans h1, h2.below hb hB⟩

def nmAt (T : List Ne) (k : Nat) : List UInt8 := (T.getD k ne0).n.name
/-- Where Find stops. -/
structure FindAt (T : List Ne) (x : List UInt8) (k : Nat) : Prop where
  le : k ≤ T.length
  lt : ∀ j, j < k → Op.bytesLess (nmAt T j) x = true
  ge : k < T.length → Op.bytesLess (nmAt T k) x = false
def foundB (T : List Ne) (x : List UInt8) (k : Nat) : Bool := decide (k < T.length) && (nmAt T k == x)

set_option maxRecDepth 100000 in
set_option maxHeartbeats 2000000 in
theorem find_any (x : List UInt8) (w : World) (r : Nat) (T : List Ne) (h : RS w r T) :
    Calls Try.prog 33 #[.pointer (some ⟨r, 0, none⟩), .string ⟨x.toArray⟩] w fun e w' => ∃ k, FindAt T x k ∧ e = .returned (.tuple #[.int .i64 k, .bool (foundB T x k)]) ∧ Below w.heap.size w w' := by
  obtain ⟨a, cap, hcell, hN⟩ := h
  have hlen := hN.2.1
  have HN := hidR hN
  clear hN
  go_enter Try.func33, Try.ntmps33
  go_wp2_with fail
  go_loop [6] (fun i => ∃ k : Nat, k ≤ T.length ∧ i = .int .i64 k ∧ ∀ j, j < k → Op.bytesLess (nmAt T j) x = true) (fun i => T.length - (intOf i).toNat)
  case atStart => exact ⟨0, Nat.zero_le _, rfl, fun j hj => by omega⟩
  case round =>
    obtain ⟨k, hk, rfl, hall⟩ := hrel
    have HA := hidR hall
    clear hall
    by_cases hlt : k < T.length
    · rcases HN.out.1 with ⟨h0, _⟩ | ⟨g, off, cap', hsl, hg, hcl⟩
      · rw [h0] at hlt; exact absurd hlt (by simp)
      cases hsl
      have hcx : w.cell? ⟨g, off + k * 4, none⟩ = some (.string ⟨(nmAt T k).toArray⟩) := (hcl k hlt).1
      have hlti : (k : Int) < T.length := by omega
      have HF : Hid (∀ b, (nmAt T k == x) = b → foundB T x k = b) := fun b hb => by simp [foundB, hlt, hb]
      have HST : Hid (Op.bytesLess (nmAt T k) x = true → ∀ j, j < k + 1 → Op.bytesLess (nmAt T j) x = true) := fun hb j hj => by
        by_cases e : j = k
        · subst e; exact hb
        · exact HA.out j (by omega)
      have HFA : Hid (Op.bytesLess (nmAt T k) x = false → FindAt T x k) := fun hb => ⟨hk, HA.out, fun _ => hb⟩
      clear hcl
      generalize nmAt T k = y at *
      cases hb : Op.bytesLess y x with
      | true =>
        go_wp2
        go_round
        case rel => exact ⟨k + 1, by omega, by go_num, HST.out hb⟩
        case measure => simp [intOf]; omega
      | false =>
        cases he : (y == x) with
        | true =>
          go_wp2_with fail
          go_quiet (fail)
          go_wp2
          go_ret2
          exact ⟨k, HFA.out hb, ret_ib (HF.out true he).symm, below_drewN (Below.refl _ _) _⟩
        | false =>
          go_wp2_with fail
          go_quiet (fail)
          go_wp2
          go_ret2
          exact ⟨k, HFA.out hb, ret_ib (HF.out false he).symm, below_drewN (Below.refl _ _) _⟩
    · have hkl : k = T.length := by omega
      have hd : decide ((k : Int) < (T.length : Int)) = false := by simp; omega
      have HFA : Hid (FindAt T x k) := ⟨hk, HA.out, fun h => absurd h hlt⟩
      have HF : Hid (foundB T x k = false) := by show foundB T x k = false; simp [foundB, hlt]
      clear hkl
      go_wp2_with fail
      go_quiet (fail)
      go_wp2
      go_ret2
      exact ⟨k, HFA.out, ret_ib HF.out.symm, below_drewN (Below.refl _ _) _⟩

theorem all_take_bool {ls o : List (List UInt8)} {q : Nat} {nb b : Bool} (hq : q < ls.length) (hb : o.contains (ls.getD q []) = b) : (!nb && (ls.take (q + 1)).all o.contains) = ((!nb && (ls.take q).all o.contains) && b) := by
  rw [List.getD, List.getElem?_eq_getElem hq, Option.getD_some] at hb
  rw [List.take_succ_eq_append_getElem hq, List.all_append]
  simp only [List.all_cons, List.all_nil, Bool.and_true]
  rw [hb, Bool.and_assoc]

/-- Ready, by the document's notes. -/
def readyN (o : List (List UInt8)) (n : Nt) : Bool := !o.contains n.name && n.leans.all o.contains
/-- The place of the first that is ready. -/
def nextI (T : List Ne) (o : List (List UInt8)) (i : Int) : Prop := (i = -1 ∧ ∀ j, j < T.length → readyN o (T.getD j ne0).n = false) ∨ ∃ k : Nat, i = k ∧ k < T.length ∧ readyN o (T.getD k ne0).n = true ∧ ∀ j, j < k → readyN o (T.getD j ne0).n = false

set_option maxRecDepth 100000 in
set_option maxHeartbeats 2000000 in
theorem refNext_any (o : List (List UInt8)) (hol : o.length ≤ 8796093022208) (ao : Option Addr) (co : Nat) (w : World) (ho : StrsAt w (.slice ao o.length co) o) (r : Nat) (T : List Ne) (h : RS w r T) :
    Calls Try.prog 44 #[.pointer (some ⟨r, 0, none⟩), .slice ao o.length co] w fun e w' => ∃ i, nextI T o i ∧ e = .returned (.int .i64 i) ∧ w' = w := by
  obtain ⟨a, cap, hcell, hN⟩ := h
  have hlen := hN.2.1
  have HN := hidR hN
  have HO := hidR ho
  clear hN ho
  go_enter Try.func44, Try.ntmps44
  go_wp2_with fail
  go_loop [5] (fun i => ∃ k : Nat, k ≤ T.length ∧ i = .int .i64 k ∧ ∀ j, j < k → readyN o (T.getD j ne0).n = false) (fun i => T.length - (intOf i).toNat)
  case atStart => exact ⟨0, Nat.zero_le _, rfl, fun j hj => by omega⟩
  case round =>
    obtain ⟨k, hk, rfl, hall⟩ := hrel
    have HA := hidR hall
    clear hall
    by_cases hlt : k < T.length
    · rcases HN.out.1 with ⟨h0, _⟩ | ⟨g, off, cap', hsl, hg, hcl⟩
      · rw [h0] at hlt; exact absurd hlt (by simp)
      cases hsl
      obtain ⟨hc0, hc1, hc2, hc3⟩ := hcl k hlt
      have hok := HN.out.2.2 _ (mem_getD1 hlt)
      have HY : Hid (readyN o (T.getD k ne0).n = true → nextI T o k) := fun h => .inr ⟨k, rfl, hlt, h, HA.out⟩
      have HNO : Hid (readyN o (T.getD k ne0).n = false → ∀ j, j < k + 1 → readyN o (T.getD j ne0).n = false) := fun h j hj => by
        by_cases e : j = k
        · subst e; exact h
        · exact HA.out j (by omega)
      clear hcl hc1 hc2
      generalize T.getD k ne0 = x at *
      have HST := hidR hok.at_
      have hll := hok.ok.leans.1
      obtain ⟨nb, hnb⟩ : ∃ nb, nb = o.contains x.n.name := ⟨_, rfl⟩
      have HAM0 := hidR (among_any o hol x.n.name ao co w HO.out)
      rw [← hnb] at HAM0
      have HNB := hidR hnb
      clear hnb hok
      go_wp2_with (go_at_call 27; refine HAM0.out.mono ?_; rintro e w' ⟨rfl, rfl⟩)
      go_loop [6, 7] (fun b i => ∃ q : Nat, q ≤ x.n.leans.length ∧ i = .int .i64 q ∧ b = .bool (!nb && (x.n.leans.take q).all o.contains)) (fun _ i => x.n.leans.length - (intOf i).toNat)
      case atStart => exact ⟨0, Nat.zero_le _, rfl, by simp⟩
      case round =>
        obtain ⟨q, hq, rfl, rfl⟩ := hrel
        by_cases hql : q < x.n.leans.length
        · rcases HST.out with ⟨h0, _⟩ | ⟨gl, ol, cl, hsl, hgl, hcl⟩
          · rw [h0] at hql; exact absurd hql (by simp)
          rw [Value.slice.injEq] at hsl
          obtain ⟨hxa, _, _⟩ := hsl
          rw [hxa] at hc3
          have hcy : w'.cell? ⟨gl, ol + q, none⟩ = some (.string ⟨(x.n.leans.getD q []).toArray⟩) := hcl q hql
          have HTQ : Hid (∀ b, o.contains (x.n.leans.getD q []) = b → (!nb && (x.n.leans.take (q + 1)).all o.contains) = ((!nb && (x.n.leans.take q).all o.contains) && b)) := fun b hb => all_take_bool hql hb
          obtain ⟨cb, hcb⟩ : ∃ cb, cb = o.contains (x.n.leans.getD q []) := ⟨_, rfl⟩
          have HAM := hidR (among_any o hol (x.n.leans.getD q []) ao co w' HO.out)
          rw [← hcb] at HAM
          have HCB := hidR (HTQ.out cb hcb.symm)
          clear hcl hcb HTQ
          generalize x.n.leans.getD q [] = y at *
          obtain ⟨acc, hacc⟩ : ∃ acc, acc = (!nb && (x.n.leans.take q).all o.contains) := ⟨_, rfl⟩
          rw [← hacc] at HCB ⊢
          clear hacc
          cases acc with
          | true =>
            go_wp2_with (go_at_call 27; refine HAM.out.mono ?_; rintro e w2 ⟨rfl, rfl⟩)
            go_round
            case rel => exact ⟨q + 1, by omega, by go_num, by rw [HCB.out]; simp⟩
            case measure => simp [intOf]; omega
          | false =>
            go_wp2
            go_round
            case rel => exact ⟨q + 1, by omega, by go_num, by rw [HCB.out]; simp⟩
            case measure => simp [intOf]; omega
        · have hqe : q = x.n.leans.length := by omega
          have HRB : Hid (readyN o x.n = (!nb && (x.n.leans.take q).all o.contains)) := by
            show readyN o x.n = _
            rw [hqe, List.take_length, HNB.out]; rfl
          obtain ⟨acc, hacc⟩ : ∃ acc, acc = (!nb && (x.n.leans.take q).all o.contains) := ⟨_, rfl⟩
          rw [← hacc] at HRB ⊢
          clear hacc
          cases acc with
          | true =>
            go_wp2
            go_ret
            exact ⟨_, HY.out HRB.out, rfl, rfl⟩
          | false =>
            go_wp2
            go_round
            case rel => exact ⟨k + 1, by omega, by go_num, HNO.out HRB.out⟩
            case measure => simp [intOf]; omega
    · go_wp2
      go_ret
      have hkl : k = T.length := by omega
      subst hkl
      exact ⟨-1, .inl ⟨rfl, HA.out⟩, rfl, rfl⟩
end Go.Proofs.Ytnjjpahpaeblfaa
