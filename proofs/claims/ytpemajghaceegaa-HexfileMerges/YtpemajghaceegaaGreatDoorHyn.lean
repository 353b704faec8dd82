/- What Merge answers of every list of segments. -/
import Derived.Test.YtpemajghaceegaaGreatDoorHyk
import Derived.Test.YtpemajghaceegaaGreatDoorHym
namespace Go.Proofs.YtpemajghaceegaaGreatDoor
open Go.RowKit
set_option linter.unusedVariables false

theorem sg_of_own {w : World} {B : Nat} {v : Value} {L : List Sgc} {e : TypeId} (h : w.ownsRow B e 2 v L.length (flatV L)) : SgAt w v L := by
  rcases Nat.eq_zero_or_pos L.length with h0 | h0
  · obtain ⟨a, cap, rfl⟩ := row_shape h
    exact ⟨a, cap, rfl, fun k hk => by omega⟩
  · obtain ⟨g, cap, cur, rfl, hb, hg, h1, h2, h3⟩ := row_cells h h0
    refine ⟨_, cap, rfl, fun k hk => ⟨g, 0, rfl, row_lt hg, ?_, ?_⟩⟩
    · rw [cell_of_row _ _ _ _ _ _ hg, Nat.zero_add, h3 _ (by omega), flatV_get _ _ (by omega)]
      have e1 : k * 2 / 2 = k := by omega
      have e2 : k * 2 % 2 = 0 := by omega
      simp only [e1, e2]; rfl
    · rw [cell_of_row _ _ _ _ _ _ hg, Nat.zero_add, h3 _ (by omega), flatV_get _ _ (by omega)]
      have e1 : (k * 2 + 1) / 2 = k := by omega
      have e2 : (k * 2 + 1) % 2 = 1 := by omega
      simp only [e1, e2]; rfl
def pbS (Bf : Sgc → List UInt8) (x : Sgc) : Pb := (x.1, Bf x)
/- what Merge tells -/
def MgIs (et : TypeId) (R : Except Int (List Pb)) (e : Ending) (w w' : World) : Prop :=
  Below w.heap.size w w' ∧ match R with
    | .error n => e = .returned (.tuple #[.slice none 0 0, .int .i64 n])
    | .ok M => ∃ l T, e = .returned (.tuple #[l, .int .i64 0]) ∧ T.map pbT = M ∧ SegsAt et w.heap.size w' l T
theorem filter_pb (Bf : Sgc → List UInt8) : ∀ L : List Sgc, (∀ x ∈ L, (Bf x).length = x.2.2.1) → (L.map (pbS Bf)).filter fullP = (L.filter fullG).map (pbS Bf)
  | [], _ => rfl
  | x :: L, h => by
    have e : fullP (pbS Bf x) = fullG x := by unfold fullP fullG pbS; rw [h x (by simp)]
    rw [List.map_cons, List.filter_cons, List.filter_cons, e, filter_pb Bf L (fun y hy => h y (by simp [hy]))]
    split <;> rfl
theorem Merge_any (v : Value) (L : List Sgc) (Bf : Sgc → List UInt8) (hl : L.length ≤ 4398046510976) (w : World) (h : SgAt w v L)
    (hb : ∀ x ∈ L, ByAt w (slS x) (Bf x)) (hn : ∀ x ∈ L, (Bf x).length ≤ 140737488355328) :
    Calls Tryz.prog 10 #[v] w fun e w' => MgIs 36 (mergeP (L.map (pbS Bf))) e w w' := by
  have hlen : ∀ x ∈ L, (Bf x).length = x.2.2.1 := fun x hx => by
    obtain ⟨ea, ec, ee⟩ := (hb x hx).len
    have e2 : Value.slice x.2.1 x.2.2.1 x.2.2.2 = .slice ea (Bf x).length ec := ee
    injection e2 with e3 e4 e5
    exact e4.symm
  have hfit : ∀ x ∈ L, fitP (pbS Bf x) = fitG x := fun x hx => by unfold fitP fitG pbS; rw [hlen x hx]
  refine Calls.mono (Merge_with (fun e w' => MgIs 36 (mergeP (L.map (pbS Bf))) e w w') v L hl (fun x hx => by rw [← hlen x hx]; exact hn x hx) w h (fun w' hbw hx => ?_) (fun M r w1 hfx hso ho hbw => ?_)) (fun e w' hh => hh.1)
  · obtain ⟨x, hx, hf⟩ := hx
    have : mergeP (L.map (pbS Bf)) = .error 1 := by
      unfold mergeP
      rw [if_pos ⟨pbS Bf x, List.mem_map_of_mem hx, by rw [hfit x hx]; exact hf⟩]
    rw [this]
    exact ⟨hbw, rfl⟩
  · have hperm : (M.map (pbS Bf)).Perm ((L.map (pbS Bf)).filter fullP) := by rw [filter_pb Bf L hlen]; exact hso.1.map _
    have hsub : ∀ x ∈ M, x ∈ L ∧ fullG x = true := fun x hx => by
      have := hso.1.mem_iff.1 hx
      rwa [List.mem_filter] at this
    have hmf : ∀ x ∈ M, 0 ≤ x.1 ∧ x.1 ≤ 65536 - x.2.2.1 ∧ 0 < x.2.2.1 := fun x hx => by
      obtain ⟨h1, h2⟩ := hsub x hx
      have h3 := hfx x h1
      unfold fitG at h3
      rw [Bool.and_eq_true] at h3
      exact ⟨of_decide_eq_true h3.1, of_decide_eq_true h3.2, of_decide_eq_true h2⟩
    have hnot : ¬ ∃ x ∈ L.map (pbS Bf), fitP x = false := by
      rintro ⟨y, hy, hf⟩
      obtain ⟨x, hx, rfl⟩ := List.mem_map.1 hy
      rw [hfit x hx, hfx x hx] at hf
      cases hf
    have hsort : (M.map (pbS Bf)).Pairwise (fun x y => x.1 ≤ y.1) := by
      rw [List.pairwise_map, List.pairwise_iff_getElem]
      intro i j hi hj hij
      exact hso.2 i j hij hj
    have hall := join_all (M.map (pbS Bf)) hsort (fun y hy => by
      obtain ⟨x, hx, rfl⟩ := List.mem_map.1 hy
      obtain ⟨h1, h2, h3⟩ := hmf x hx
      have h4 := hlen x (hsub x hx).1
      refine ⟨h1, ?_, ?_⟩
      · show x.1 + ((Bf x).length : Int) ≤ 65536
        omega
      · show 0 < (Bf x).length
        omega)
    have hml : M.length ≤ 4398046510976 := by
      have := hso.1.length_eq
      have h2 := List.length_filter_le fullG L
      omega
    refine (joined_any r M Bf hml w1 (sg_of_own ho) (fun x hx => (hb x (hsub x hx).1).next hbw) hmf).mono ?_
    rintro e w' ⟨hb2, hres⟩
    have hB := hbw.trans (hb2.mono hbw.size)
    unfold mergeP
    rw [if_neg hnot]
    by_cases hd : ((L.map (pbS Bf)).filter fullP).Pairwise apartP
    · have hd2 : (M.map (pbS Bf)).Pairwise apartP := hperm.symm.pairwise hd (fun {x y} => apart_symm)
      rw [if_pos hd]
      have hj : joinG [] (-1) (M.map fun x => (x.1, Bf x)) = some (runsTo (mpP (M.map (pbS Bf))) 65536) := hall.1 hd2
      rw [hj] at hres
      obtain ⟨l, T, rfl, hT, hS⟩ := hres
      refine ⟨_, _, rfl, hB, l, T, rfl, ?_, ⟨row_mono hS.1 hbw.size, fun t ht => ⟨row_mono (hS.2 t ht).1 hbw.size, (hS.2 t ht).2⟩⟩⟩
      rw [hT]
      exact runs_congr _ (fun p _ => mp_perm hperm hd2 p)
    · have hd2 : ¬ (M.map (pbS Bf)).Pairwise apartP := fun hh => hd (hperm.pairwise hh (fun {x y} => apart_symm))
      rw [if_neg hd]
      have hj : joinG [] (-1) (M.map fun x => (x.1, Bf x)) = none := hall.2 hd2
      rw [hj] at hres
      exact ⟨_, _, hres, hB, hres⟩
end Go.Proofs.YtpemajghaceegaaGreatDoor
