/- What Name and Of answer. -/
import Derived.Test.YtgmbkelmgolkpabDoorNwa
import Derived.Test.YtgmbkelmgolkpabDoorGmg
namespace Go.Proofs.YtgmbkelmgolkpabDoor
open Go.RowKit Go.Maps
set_option linter.unusedVariables false

set_option maxRecDepth 100000 in
set_option maxHeartbeats 800000 in
theorem name_any {p : Nat} {w : World} {T O : List Tx} {st nul : Nat} {R : List (Nat × List Int)} {bg fo : Nat → Nat} (h : GfAt w p T O st R nul bg fo) (s : Nat) (hs : s < (allN T O).length) : Calls Tryd.prog 17 #[.pointer (some ⟨p, 0, none⟩), .int .i64 (s : Int)] w fun e w' => e = .returned (.tuple #[encT ((allN T O).getD s []), .bool true]) ∧ Below w.heap.size w w' := by
  have HHA := hidD (has_any (s : Int) w h.gm)
  rw [show hasS (gsOf T O st nul bg fo) (s : Int) = true from by
    unfold hasS gsOf
    rw [decide_eq_true (show (0 : Int) ≤ (s : Int) by omega), decide_eq_true (show (s : Int) < (((allN T O).length : Nat) : Int) by omega)]; rfl] at HHA
  obtain ⟨cs, h1, ⟨nv, B, e1, e2⟩, _⟩ := h.cs
  obtain ⟨na, nc, rfl, hc1, hc2, hcell⟩ := e2
  obtain ⟨g, o, cs2, rfl, hg, hh, hv⟩ := hcell s hs
  have f0 : w.cell? ⟨p, 0, none⟩ = some (.slice (some ⟨g, o, none⟩) (allN T O).length nc) := by rw [h1.cell]; exact e1
  have f1 : w.cell? ⟨g, o + s, none⟩ = some (encT ((allN T O).getD s [])) := (cell_of_row _ _ _ _ _ _ hh).trans hv
  have hsi : (s : Int) < (((allN T O).length : Nat) : Int) := by omega
  clear h hcell e1 hh hv h1
  generalize (allN T O).getD s [] = x at *
  unfold encT at *
  generalize bA x = b at *
  generalize (allN T O).length = n at *
  go_enter Tryd.func17, Tryd.ntmps17
  go_wp2_with (go_at_call 35; refine HHA.out.mono ?_; rintro e w2 ⟨rfl, hw⟩; subst w2)
  refine bodyPost_ret (v := .tuple #[.string b, .bool true]) (by simp [results, Tryd.results17, go_sem]) rfl ?_
  exact ⟨rfl, Below.refl _ _⟩
/-- The first k rules of a symbol. -/
def ofTo (R : List (Nat × List Int)) (s : Int) : Nat → List Int
  | 0 => []
  | k + 1 => if ((R.getD k (0, [])).1 : Int) = s then ofTo R s k ++ [(k : Int)] else ofTo R s k
theorem of_len (R : List (Nat × List Int)) (s : Int) : ∀ k, (ofTo R s k).length ≤ k
  | 0 => Nat.le_refl _
  | k + 1 => by
    have := of_len R s k
    rw [ofTo]; split
    · rw [List.length_append, List.length_singleton]; omega
    · omega
set_option maxRecDepth 100000 in
set_option maxHeartbeats 800000 in
theorem of_own {p : Nat} (R : List (Nat × List Int)) (hRl : R.length ≤ 1048576) (s : Int) (vr : Value) (w : World) (hp : p < w.heap.size) (hpc : w.cell? ⟨p, 4, none⟩ = some vr) (hr : RuAt w vr R) : Calls Tryd.prog 21 #[.pointer (some ⟨p, 0, none⟩), .int .i64 s] w fun e w' => ∃ u, e = .returned u ∧ w'.ownsRow w.heap.size 3 1 u (ofTo R s R.length).length ((ofTo R s R.length).map encI) ∧ Below w.heap.size w w' := by
  obtain ⟨ar, cr, rfl, hrc⟩ := hr
  have HRC := hidD hrc
  have HLN := hidD (of_len R s)
  have HNX : Hid (∀ k, ofTo R s (k + 1) = if ((R.getD k (0, [])).1 : Int) = s then ofTo R s k ++ [(k : Int)] else ofTo R s k) := fun k => rfl
  clear hrc
  obtain ⟨hz76, hsz76⟩ := zero_of_info Tryd.zero76
  generalize R.length = rn at *
  go_enter Tryd.func21, Tryd.ntmps21
  go_wp2_with fail
  go_loopw [5, 15] (fun o i wr => ∃ k : Nat, k ≤ rn ∧ i = .int .i64 (k : Int) ∧ wr.ownsRow w.heap.size 3 1 o (ofTo R s k).length ((ofTo R s k).map encI) ∧ Below w.heap.size w wr) (fun _ i _ => rn - (intOf i).toNat)
  case atStart => exact ⟨0, Nat.zero_le _, rfl, World.ownsRow_nil _ _ _ _, Below.refl _ _⟩
  case round =>
    obtain ⟨k, hk, rfl, hown, hbel⟩ := hrel
    have HOW := hidD hown
    have HBW := hidD hbel
    by_cases hlt : k < rn
    · have hlti : (k : Int) < (rn : Int) := by omega
      obtain ⟨g, o, rv, rfl, hg, hc1, hc2, a2, c2, hrv, _⟩ := HRC.out k hlt
      subst hrv
      generalize (R.getD k (0, [])).2.length = n2 at *
      have f1 : wr.cell? ⟨g, o + k * 2, none⟩ = some (.int .i64 ((R.getD k (0, [])).1 : Int)) := (hbel.cell (p := ⟨g, o + k * 2, none⟩) hg).trans hc1
      have f2 : wr.cell? ⟨g, o + k * 2 + 1, none⟩ = some (.slice a2 n2 c2) := (hbel.cell (p := ⟨g, o + k * 2 + 1, none⟩) hg).trans hc2
      have HN := hidD (HNX.out k)
      have hln := HLN.out k
      clear hown hbel hc1 hc2 HRC
      generalize (R.getD k (0, [])).1 = lf at *
      generalize hLL : ofTo R s k = LL at *
      clear hLL
      generalize hll : LL.length = ll at *
      have HLL := hidD hll
      clear hll
      obtain ⟨a5, c5, h5⟩ := row_shape HOW.out
      subst h5
      have hkl : ll ≤ 1048576 := by omega
      by_cases he : (lf : Int) = s
      · rw [if_pos he] at HN
        have hed : decide ((lf : Int) = s) = true := decide_eq_true he
        have HBA := hidD (fun o' => HBW.out.alloc (show w.heap.size ≤ wr.heap.size from HBW.out.size) o')
        go_wp2_with (at_builtin; refine wpList_append_int rfl _ _ rfl w.heap.size (.slice a5 ll c5) ll (LL.map encI) rfl ((HOW.out.alloc _).alloc _) (wr.heap.size + 1) (k : Int) rfl (by simp) (by omega) (by have := HBW.out.size; simp; omega) ?_; intro v8 w8 hown8 hg8; have HO8 := hidD hown8; have HB8 := hidD (row_grown ((HOW.out.alloc _).alloc _) ((HBA.out _).alloc (by have := HBW.out.size; simp; omega) _) hg8 (by have := HBW.out.size; simp; omega)); clear hown8 hg8)
        go_roundw
        case rel => exact ⟨k + 1, by omega, by go_num, by rw [HN.out, List.length_append, List.map_append, HLL.out]; exact HO8.out, HB8.out⟩
        case measure => simp [intOf]; omega
      · rw [if_neg he] at HN
        have hed : decide ((lf : Int) = s) = false := decide_eq_false he
        go_wp2_with fail
        go_roundw
        case rel => exact ⟨k + 1, by omega, by go_num, by rw [HN.out, HLL.out]; exact HOW.out.alloc _, HBW.out.alloc (show w.heap.size ≤ wr.heap.size from HBW.out.size) _⟩
        case measure => simp [intOf]; omega
    · obtain rfl : k = rn := by omega
      have HIL := hidD hown
      obtain ⟨a5, c5, h5⟩ := row_shape hown
      subst h5
      clear hown hbel
      generalize hLL : ofTo R s k = LL at *
      generalize hll : LL.length = ll at *
      go_wp2_with fail
      refine bodyPost_ret (v := .slice a5 ll c5) (by simp [results, Tryd.results21, go_sem]) rfl ?_
      exact ⟨_, rfl, by rw [hLL, hll]; exact HIL.out, HBW.out⟩
theorem of_any {p : Nat} (R : List (Nat × List Int)) (hRl : R.length ≤ 1048576) (s : Int) (vr : Value) (w : World) (hp : p < w.heap.size) (hpc : w.cell? ⟨p, 4, none⟩ = some vr) (hr : RuAt w vr R) : Calls Tryd.prog 21 #[.pointer (some ⟨p, 0, none⟩), .int .i64 s] w fun e w' => ∃ u, e = .returned u ∧ IlAt w' u (ofTo R s R.length) ∧ Below w.heap.size w w' :=
  (of_own R hRl s vr w hp hpc hr).mono fun e w' ⟨u, h1, h2, h3⟩ => ⟨u, h1, il_of_own h2, h3⟩
end Go.Proofs.YtgmbkelmgolkpabDoor
