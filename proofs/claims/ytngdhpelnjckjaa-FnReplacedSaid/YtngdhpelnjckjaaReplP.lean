/- Replaced: what replacing does. -/
import Derived.Test.YtngdhpelnjckjaaRepl
import Derived.Test.YtngdhpelnjckjaaDepth2
namespace Go.Proofs.Ytngdhpelnjckjaa
open Go.RowKit

theorem repl_part {ar t : List Int} {z : Int} (h : askOk ar t z = true) :
    replOk ar t z (partAns ar t z) = true ∧ replAns ar t z (partAns ar t z) = t ∧ endN ar t z = z + (partAns ar t z).length ∧ goodTerm ar (partAns ar t z) = true ∧ (partAns ar t z).length ≤ 40 := by
  obtain ⟨k, e, rfl, hk, he, hke, het, h40, hg, hok⟩ := ask_yes h
  have hp := partAns_yes h he
  have hpo := partOf_ok ar t k e hok hk he
  have hlen := partOf_len t k e het
  have hre : replIn ar t k (partOf t k e) = t := by rw [replIn_eq he, replaced_self t k e (by omega)]
  have hro : replOk ar t k (partOf t k e) = true := by unfold replOk; rw [h, hpo, hre, hok]; rfl
  rw [hp]
  refine ⟨hro, by rw [repl_yes hro, hre], ?_, by unfold goodTerm; rw [hg, hpo]; rfl, by omega⟩
  have : endN ar t k = e := by simp [endN, h, endI, he]
  rw [this]
  omega
theorem part_repl {ar t u : List Int} {z : Int} (h : replOk ar t z u = true) :
    askOk ar (replAns ar t z u) z = true ∧ partAns ar (replAns ar t z u) z = u ∧ ((replAns ar t z u).length : Int) = t.length - (partAns ar t z).length + u.length := by
  have h0 := h
  unfold replOk at h0
  simp only [Bool.and_eq_true] at h0
  obtain ⟨⟨ha, hu⟩, hr⟩ := h0
  obtain ⟨k, e, rfl, hk, he, hke, het, h40, hg, hok⟩ := ask_yes ha
  have hp := partAns_yes ha he
  have hlen := partOf_len t k e het
  have hre := replIn_eq (ar := ar) (u := u) he
  have hr2 : okTerm ar (replaced t k e u) = true := by rw [← hre]; exact hr
  rw [repl_yes h, hre]
  have hrl := replaced_len t u k e (by omega) het
  have hu1 := ((okTerm_iff ar u).1 hu).1
  have hask : askOk ar (replaced t k e u) k = true := askOk_iff.2 ⟨by unfold goodTerm; rw [hg, hr2]; rfl, by omega, by omega⟩
  have hdrop : (replaced t k e u).drop k = u ++ t.drop e := by
    unfold replaced
    rw [List.append_assoc]
    have : (t.take k).length = k := by simp; omega
    rw [List.drop_append_of_le_length (by omega), List.drop_eq_nil_of_le (by omega), List.nil_append]
  have hend : endOf ar (replaced t k e u) k = some (k + u.length) := by
    unfold endOf
    rw [hdrop]
    have h4 := ((okTerm_iff ar u).1 hu).2.2
    unfold endOf at h4
    rw [List.drop_zero] at h4
    have h5 := endGo_shift ar (u ++ t.drop e) 1 0 k
    rw [Nat.zero_add, endGo_ext ar u _ _ _ _ h4] at h5
    rw [h5]; simp; omega
  refine ⟨hask, ?_, by rw [hrl, hp, hlen]; omega⟩
  rw [partAns_yes hask hend]
  unfold partOf
  rw [hdrop, show k + u.length - k = u.length by omega, List.take_left']
  rfl
theorem depthAns_le (ar t : List Int) : depthAns ar t ≤ t.length := by
  unfold depthAns
  split
  · have := depthAt_le ar t 0; omega
  · omega
end Go.Proofs.Ytngdhpelnjckjaa
