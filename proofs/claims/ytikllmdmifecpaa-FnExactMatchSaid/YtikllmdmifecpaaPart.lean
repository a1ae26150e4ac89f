/- PartAt, ReplaceAt: both functions. -/
import Derived.Test.YtikllmdmifecpaaSlice
import Derived.Test.YtikllmdmifecpaaGood2
import Derived.Test.YtikllmdmifecpaaTerm2
namespace Go.Proofs.Ytikllmdmifecpaa
open Go.RowKit

theorem l1End_v (l h l' h' : Nat) (v u : Value) (ar t : List Int) (i q : Nat) (w : World) (he : endOf ar t i = some q) (hg : goodSign ar = true) (ht : t.length ≤ 1048576) (hi : i ≤ t.length) (hv : SlI l h w v ar) (hu : SlI l' h' w u t) :
    Calls Try.prog 120 #[.agg #[v], u, .int .i64 i] w (RetV w (.int .i64 q)) := endI_some he ▸ l1End_c l h l' h' v u ar t i w hg ht hi hv hu
theorem termEnd_v (l h l' h' : Nat) (v u : Value) (ar t : List Int) (i q : Nat) (w : World) (he : endOf ar t i = some q) (hg : goodSign ar = true) (ht : t.length ≤ 1048576) (hi : i ≤ t.length) (hv : SlI l h w v ar) (hu : SlI l' h' w u t) :
    Calls Try.prog 123 #[.agg #[v], u, .int .i64 i] w (RetV w (.tuple #[.int .i64 q, .bool true])) := endP_some he ▸ termEnd_c l h l' h' v u ar t i w hg ht hi hv hu

theorem l1Part_c (l h l' h' : Nat) (v u : Value) (ar t : List Int) (i q : Nat) (w : World) (hg : goodSign ar = true) (ht : t.length ≤ 1048576) (hi : i < t.length) (he : endOf ar t i = some q) (hq1 : i < q) (hq2 : q ≤ t.length) (hv : SlI l h w v ar) (hu : SlI l' h' w u t) :
    Calls Try.prog 121 #[.agg #[v], u, .int .i64 i] w (RetI w (partOf t i q)) := by
  obtain ⟨b, off, cap, rfl, hcap⟩ := hu.plain (by omega)
  have HE := Lib.hid he
  clear he
  have hpl : (partOf t i q).length ≤ 1048576 := by rw [partOf_len t i q hq2]; omega
  have hq3 : (i : Int) < q := by omega
  have hq4 : (q : Int) ≤ t.length := by omega
  go_enter Try.func121, Try.ntmps121
  go_wp2_with fail
  refine (l1End_v _ _ _ _ _ _ ar t i q _ HE.out hg ht (by omega) (hv.alloc _) (hu.alloc _)).mono ?_; rintro e w1 ⟨rfl, hb1⟩
  go_wp2_with fail
  refine (l1Own_c _ _ _ (partOf t i q) _ hpl ((hu.below hb1.of_alloc).cut i q (by omega) hq2)).mono ?_; rintro e w2 ⟨ad, n, c, rfl, ho, hb2⟩
  go_wp2_with fail
  go_ret
  exact ⟨_, _, _, rfl, ho.mono (by have := hb1.size; simp at this; omega) (Nat.le_refl _), hb1.of_alloc.step hb2⟩

/-- What PartAt answers. -/
def partAns (ar t : List Int) (i : Int) : List Int := if askOk ar t i then partOf t i.toNat ((endOf ar t i.toNat).getD 0) else []
theorem partAns_yes {ar t : List Int} {k q : Nat} (h : askOk ar t k = true) (he : endOf ar t k = some q) : partAns ar t k = partOf t k q := by simp [partAns, h, he]
theorem partAns_len (ar t : List Int) (i : Int) : (partAns ar t i).length ≤ 1048576 := by
  unfold partAns
  split
  · rename_i h
    obtain ⟨k, e, rfl, hk, he, _, hle, hl, _, _⟩ := ask_yes h
    simp only [Int.toNat_natCast, he, Option.getD_some]
    rw [partOf_len t k e hle]
    omega
  · exact Nat.zero_le _

theorem replaced_len_le (t r : List Int) (i q : Nat) (ht : t.length ≤ 1048576) (hr : r.length ≤ 1048576) : (replaced t i q r).length ≤ 1099511627776 := by
  simp [replaced]; omega

end Go.Proofs.Ytikllmdmifecpaa
