/- Texts merged, part 11. -/
import Derived.Test.YtfhljkjcjnfjfaaRows
import Derived.ProofKit
import Derived.OpenShut
import Derived.ShutString
import Derived.ChangeOld
import Derived.Lib.SmallJoins
import Derived.Deep.Slices
import Derived.Deep.Strs
import Derived.Test.YtfhljkjcjnfjfaaMgReadClause10
section
/- Chapter 4, the reference: ReadClause. -/
namespace Go.Proofs.Ytfhljkjcjnfjfaa
open Go.RowKit

theorem l4Clause_v (l h l' h' : Nat) (v u : Value) (ar : List Int) (c : List Lt) (q : Bool) (w : World) (hq : okLits ar c = q) (hg : goodSign ar = true) (hx : shortC c) (hv : SlI l h w v ar) (hu : SlC l' h' w u c) :
    Calls Try.prog 94 #[.agg #[v], u] w (RetV w (.bool q)) := by subst hq; exact l4Clause_c l h l' h' v u ar c w hg hx hv hu

set_option maxRecDepth 100000 in
set_option maxHeartbeats 1000000 in
theorem sReadClause_h {l h : Nat} {v : Value} {ar : List Int} {s : ByteArray} {w : World} (ha : ar.length ≤ 1048576) (hv : SlI l h w v ar) (hs : s.size ≤ 1048576) (hsh : s.size ≤ 1000 → (readT ar s.data.toList).2.2 = true → shortC (readT ar s.data.toList).1) :
    Calls Try.prog 44 #[.agg #[v], .string s] w (RetRC w (readClAns ar s)) := by
  unfold readClAns
  cases hg : goodSign ar with
  | false =>
    rw [if_neg (by simp)]
    have HG := Lib.hid (fun (w' : World) (hb : Bel w w') => sGoodSign_v l h v ar false w' hg ha (hv.below hb)); clear hg
    go_enter Try.func44, Try.ntmps44
    go_wp2_with fail
    refine (HG.out _ (Bel.alloc0 _ _)).mono ?_; rintro e w1 ⟨rfl, hb1⟩
    go_wp2_with fail
    go_ret3
    exact ⟨_, _, _, rfl, OwnC.nil _ _ _, hb1.of_alloc⟩
  | true =>
    have HG := Lib.hid (fun (w' : World) (hb : Bel w w') => sGoodSign_v l h v ar true w' hg ha (hv.below hb))
    by_cases hsz : s.size ≤ 1000
    · rw [if_pos ⟨rfl, hsz⟩]
      have hI : ¬ ((1000 : Int) < s.size) := by omega
      have HR := Lib.hid (fun (w' : World) (hb : Bel w w') => l4Read_c l h v ar s w' hg hsz (hv.below hb))
      have HC := fun (q : Bool) (w' : World) (u : Value) (l' h' : Nat) (hq : okLits ar (readT ar s.data.toList).1 = q) (hb : Bel w w') (hk : (readT ar s.data.toList).2.2 = true) (hu : SlC l' h' w' u (readT ar s.data.toList).1) => l4Clause_v l h l' h' v u ar _ q w' hq hg (hsh hsz hk) (hv.below hb) hu
      clear hg hsh
      generalize readT ar s.data.toList = R at *
      obtain ⟨c, at', k⟩ := R
      simp only at *
      cases k with
      | false =>
        rw [if_neg (by simp)]
        clear HC
        go_enter Try.func44, Try.ntmps44
        go_wp2_with fail
        refine (HG.out _ (Bel.alloc0 _ _)).mono ?_; rintro e w1 ⟨rfl, hb1⟩
        have hbx := boxc hb1 0 _ rfl
        go_wp2_with fail
        refine (HR.out _ hb1.of_alloc).mono ?_; rintro e w2 ⟨a2, n2, c2, rfl, o2, hb2⟩
        go_wp2_with fail
        go_ret3
        exact ⟨_, _, _, rfl, OwnC.nil _ _ _, hb1.of_alloc.step hb2⟩
      | true =>
        rw [if_pos rfl]
        cases hq : okLits ar c with
        | false =>
          rw [if_neg (by simp)]
          have HCC := Lib.hid (fun w' u l' h' => HC false w' u l' h' hq)
          clear HC hq
          go_enter Try.func44, Try.ntmps44
          go_wp2_with fail
          refine (HG.out _ (Bel.alloc0 _ _)).mono ?_; rintro e w1 ⟨rfl, hb1⟩
          have hbx := boxc hb1 0 _ rfl
          go_wp2_with fail
          refine (HR.out _ hb1.of_alloc).mono ?_; rintro e w2 ⟨a2, n2, c2, rfl, o2, hb2⟩
          have hbx2 := boxc (hb1.step hb2) 0 _ rfl
          go_wp2_with fail
          refine (HCC.out _ _ _ _ (hb1.of_alloc.step hb2) trivial o2.sl).mono ?_; rintro e w3 ⟨rfl, hb3⟩
          go_wp2_with fail
          go_ret3
          exact ⟨_, _, _, rfl, OwnC.nil _ _ _, (hb1.of_alloc.step hb2).step hb3⟩
        | true =>
          rw [if_pos rfl]
          have HCC := Lib.hid (fun w' u l' h' => HC true w' u l' h' hq)
          clear HC hq
          go_enter Try.func44, Try.ntmps44
          go_wp2_with fail
          refine (HG.out _ (Bel.alloc0 _ _)).mono ?_; rintro e w1 ⟨rfl, hb1⟩
          have hbx := boxc hb1 0 _ rfl
          go_wp2_with fail
          refine (HR.out _ hb1.of_alloc).mono ?_; rintro e w2 ⟨a2, n2, c2, rfl, o2, hb2⟩
          have hbx2 := boxc (hb1.step hb2) 0 _ rfl
          go_wp2_with fail
          refine (HCC.out _ _ _ _ (hb1.of_alloc.step hb2) trivial o2.sl).mono ?_; rintro e w3 ⟨rfl, hb3⟩
          go_wp2_with fail
          go_ret3
          exact ⟨_, _, _, rfl, (o2.below hb3).mono (by have := hb1.of_alloc.size; omega) hb3.size, (hb1.of_alloc.step hb2).step hb3⟩
    · rw [if_neg (fun h => hsz h.2)]
      have hI : (1000 : Int) < s.size := by omega
      clear hg hsh
      go_enter Try.func44, Try.ntmps44
      go_wp2_with fail
      refine (HG.out _ (Bel.alloc0 _ _)).mono ?_; rintro e w1 ⟨rfl, hb1⟩
      go_wp2_with fail
      go_ret3
      exact ⟨_, _, _, rfl, OwnC.nil _ _ _, hb1.of_alloc⟩
end Go.Proofs.Ytfhljkjcjnfjfaa
end
section
/- The terms of a clause, literal by literal: both sides. -/
namespace Go.Proofs.Ytfhljkjcjnfjfaa
open Go.RowKit

theorem news_two (w : World) (x y : Value) (t : TypeId) : ∀ j u, [x, y][j]? = some u → (w.alloc (.cells #[x, y] t)).cell? ((⟨w.heap.size, 0, none⟩ : Addr).add j) = some u := by
  intro j u hj
  match j, hj with
  | 0, hj => simp at hj; subst hj; rw [show (⟨w.heap.size, 0, none⟩ : Addr).add 0 = ⟨w.heap.size, 0, none⟩ from rfl, World.cell?_alloc_new w]; rfl
  | 1, hj => simp at hj; subst hj; rw [addr_add, World.cell?_alloc_new w]; rfl
theorem news_two_at (w : World) (x y : Value) (t : TypeId) (g : Nat) (hg : g = w.heap.size) : ∀ j u, [x, y][j]? = some u → (w.alloc (.cells #[x, y] t)).cell? ((⟨g, 0, none⟩ : Addr).add j) = some u := by subst hg; exact news_two w x y t
theorem news_one_at (w : World) (x : Value) (t : TypeId) (g : Nat) (hg : g = w.heap.size) : ∀ j u, [x][j]? = some u → (w.alloc (.cells #[x] t)).cell? ((⟨g, 0, none⟩ : Addr).add j) = some u := by subst hg; exact news_one w x t
theorem two_slice (a b : Option Addr) (n m c d : Nat) : ∀ u ∈ [Value.slice a n c, Value.slice b m d], u.oneCell' = true := by
  intro u hu; simp at hu; rcases hu with rfl | rfl <;> rfl
theorem flatC_take (c : List Lt) (k : Nat) (h : k < c.length) : flatC (c.take (k+1)) = flatC (c.take k) ++ [(c.getD k lt0).2.1] ++ [(c.getD k lt0).2.2] := by
  rw [List.take_succ_eq_append_getElem h, flatC_app]
  simp [flatC, List.getD, h]
/-- A literal's terms as they lie in the world W. -/
theorem SlC.two {lo hi : Nat} {w : World} {ad : Option Addr} {n k : Nat} {c : List Lt} (h : SlC lo hi w (.slice ad n k) c) (j : Nat) (hj : j < c.length) :
    ∃ (b off : Nat) (z1 z2 : SV), ad = some ⟨b, off, none⟩ ∧ b < w.heap.size ∧ w.cell? ⟨b, off + j * 3, none⟩ = some (.bool (c.getD j lt0).1) ∧ w.cell? ⟨b, off + j * 3 + 1, none⟩ = some (encS z1) ∧ w.cell? ⟨b, off + j * 3 + 2, none⟩ = some (encS z2) ∧
      SlI 0 w.heap.size w (encS z1) (c.getD j lt0).2.1 ∧ SlI 0 w.heap.size w (encS z2) (c.getD j lt0).2.2 := by
  obtain ⟨b, off, u1, u2, rfl, hb, c1, c2, c3, s1, s2⟩ := h.at (Bel.rfl' w) j hj
  obtain ⟨x1, y1, rfl⟩ := s1.form
  obtain ⟨x2, y2, rfl⟩ := s2.form
  exact ⟨b, off, (x1, _, y1), (x2, _, y2), rfl, hb, c1, c2, c3, s1.in', s2.in'⟩

set_option maxRecDepth 100000 in
set_option maxHeartbeats 400000 in
theorem termsIn_c (l h : Nat) (v : Value) (c : List Lt) (w : World) (hx : c.length ≤ 1048576) (hv : SlC l h w v c) :
    Calls Try.prog 120 #[v] w (RetRow w (flatC c)) := by
  obtain ⟨i1, hi1, hy0, hy1, hy2⟩ := info_parts Try.info22
  obtain ⟨ad, cap, rfl⟩ := hv.form
  go_enter Try.func120, Try.ntmps120
  go_wp2_with fail
  go_loopw [3, 8] (fun o i wr => ∃ k : Nat, k ≤ c.length ∧ i = .int .i64 k ∧ RowV w wr o (flatC (c.take k)) ∧ Bel w wr) (fun _ i _ => c.length - (intOf i).toNat)
  case atStart => exact ⟨0, Nat.zero_le _, rfl, ⟨[], World.ownsRow_nil _ _ _ _, Els.nil _⟩, Bel.rfl' _⟩
  case round =>
    obtain ⟨k, hk, rfl, hrow, hb⟩ := hrel
    by_cases hlt : k < c.length
    · obtain ⟨b, off, z1, z2, rfl, hbs, e1, e2, e3, s1, s2⟩ := hv.two k hlt
      have c1 := hb.at (World.block_lt_of_cell? _ ⟨_, _, none⟩ e1) e1
      have c2 := hb.at (World.block_lt_of_cell? _ ⟨_, _, none⟩ e2) e2
      have c3 := hb.at (World.block_lt_of_cell? _ ⟨_, _, none⟩ e3) e3
      have HF := Lib.hid (flatC_take c k hlt)
      have hfl := flatC_len (c.take k)
      have hkl : (c.take k).length = k := by rw [List.length_take]; omega
      obtain ⟨zs, ho, hE⟩ := hrow
      have hzl := hE.1
      have hE2 := Lib.hid ((hE.snoc s1).snoc s2)
      have hin1 : (k : Int) < c.length := by omega
      generalize (c.getD k lt0).1 = p at *
      obtain ⟨a1, n1, d1⟩ := z1
      obtain ⟨a2, n2, d2⟩ := z2
      simp only [encS] at c2 c3
      have hbz := hb.size
      clear hv s1 s2 hE e1 e2 e3
      go_wp2_with (at_builtin; refine wpList_append_own _ rfl _ _ 41 rfl w.heap.size 22 i1 (.slice none 0 0) 1 24 Try.underlying41 hi1 hy0 hy1 hy2 rfl (by decide) _ _ _ rfl ((ho.alloc _).alloc _) ⟨wr.heap.size + 1, 0, none⟩ 2 2 [.slice a1 n1 d1, .slice a2 n2 d2] rfl rfl (news_two_at _ _ _ _ _ (by simp)) (two_slice _ _ _ _ _ _) (by unfold maxLen; rw [hzl]; omega) (by rw [hzl]; omega) (by simp; omega) ?_; intro v' w1 hown' hgrow _)
      go_roundw
      case rel =>
        refine ⟨k+1, by omega, by go_num, ?_, ?_⟩
        · rw [HF.out]
          exact ⟨zs ++ [(a1, n1, d1)] ++ [(a2, n2, d2)], by simpa [encS] using hown', hE2.out⟩
        · exact ((hb.alloc _).alloc _).grown hgrow (fun q hq => own_base ho q hq)
      case measure => simp [intOf]; omega
    · rw [List.take_of_length_le (by omega)] at hrow
      obtain ⟨og, oc, rfl⟩ := hrow.form
      go_wp2_with fail
      go_ret
      exact ⟨_, _, _, rfl, hrow, hb⟩

end Go.Proofs.Ytfhljkjcjnfjfaa
end
section
/- Chapter 4, the program: GoodClause, WeightOf. -/
namespace Go.Proofs.Ytfhljkjcjnfjfaa
open Go.RowKit

theorem short_flat {c : List Lt} (h : sumC c ≤ 1048576) : sumL (flatC c) ≤ 1048576 ∧ ∀ j, j < (flatC c).length → ((flatC c).getD j []).length ≤ 1048576 := by
  have h1 : sumL (flatC c) ≤ 1048576 := by have := sumC_eq c; unfold lenC at this; omega
  exact ⟨h1, fun j hj => by have := sumL_get (flatC c) j hj; omega⟩
theorem short_flat8 {c : List Lt} (h : sumC c ≤ 1048576) (h8 : c.length ≤ 8) : short (flatC c) := ⟨by rw [flatC_len]; omega, (short_flat h).2⟩

theorem short_flat8s {c : List Lt} (h : shortC c) (h8 : c.length ≤ 8) : short (flatC c) := by
  refine ⟨by rw [flatC_len]; omega, fun j hj => ?_⟩
  obtain ⟨x, hx, e⟩ := flat_mem (mem_getD (flatC c) [] j hj)
  obtain ⟨i, hi, rfl⟩ := List.getElem_of_mem hx
  have := h.2 i hi
  rw [show c.getD i lt0 = c[i] from by simp [List.getD, hi]] at this
  rcases e with e | e <;> rw [e]
  · exact this.1
  · exact this.2

set_option maxRecDepth 100000 in
set_option maxHeartbeats 400000 in
theorem iGoodClause_sh {l h l' h' : Nat} {v u : Value} {ar : List Int} {c : List Lt} {w : World} (ha : ar.length ≤ 1048576) (hv : SlI l h w v ar) (hc : shortC c) (hu : SlC l' h' w u c) :
    Calls Try.prog 71 #[.agg #[v], u] w (RetV w (.bool (goodClause ar c))) := by
  obtain ⟨ad, cap, rfl⟩ := hu.form
  have hle := hc.1
  by_cases h8 : c.length ≤ 8
  · have hd : decide ((c.length : Int) ≤ 8) = true := by rw [decide_eq_true]; omega
    have HE := Lib.hid (goodTerms_flat ar h8)
    have hsh := short_flat8s hc h8
    have HT := Lib.hid (fun (w' : World) (hb : Bel w w') => termsIn_c l' h' _ c w' (by omega) (hu.below hb))
    have HD := Lib.hid (fun (w' : World) (x : Value) (hb : Bel w w') (hx : SlS 0 w'.heap.size w' x (flatC c)) => goodTerms_c l h _ _ v x ar (flatC c) 16 w' (by omega) ha (hv.below hb) hsh hx)
    rw [HE.out] at HD
    clear hsh hle hu hv HE h8
    have HB0 : Bel w (w.alloc (.cells #[v] 30)).drew := (Bel.alloc0 _ _).drew
    have hbox0 : (w.alloc (.cells #[v] 30)).drew.cell? ⟨w.heap.size, 0, none⟩ = some v := boxc ((Bel.rfl' _).drew) 0 _ rfl
    go_enter Try.func71, Try.ntmps71
    go_wp2_with fail
    go_region_held3 (fun w' => Bel w w' ∧ w'.cell? ⟨w.heap.size, 0, none⟩ = some v)
      (first | exact ⟨HB2, hbox2⟩ | exact ⟨HB1, hbox1⟩ | exact ⟨HB0, hbox0⟩ | fail)
      (first | (go_at_call 119; refine (HD.out _ _ HB1 hrow).mono ?_; rintro e w2 ⟨rfl, hb2⟩; have HB2 := HB1.step hb2; have hbox2 := hb2.at (World.block_lt_of_cell? _ ⟨_, _, none⟩ hbox1) hbox1) | (go_at_call 120; refine (HT.out _ HB0).mono ?_; rintro e w1 ⟨ad1, n1, c1, rfl, hrw, hb1⟩; have HB1 := HB0.step hb1; have hbox1 := hb1.at (World.block_lt_of_cell? _ ⟨_, _, none⟩ hbox0) hbox0; have hrow := hrw.sls hb1) | fail)
    go_wp2_with fail
    go_ret
    exact ⟨rfl, HB2⟩
  · have hd : decide ((c.length : Int) ≤ 8) = false := by rw [decide_eq_false]; omega
    have E := Lib.hid (goodClause_long ar h8)
    clear h8
    go_enter Try.func71, Try.ntmps71
    go_wp2_with fail
    have hbox0 : (w.alloc (.cells #[v] 30)).drew.cell? ⟨w.heap.size, 0, none⟩ = some v := boxc ((Bel.rfl' _).drew) 0 _ rfl
    go_region
    all_goals
      go_wp2_with fail
      go_ret
      exact ⟨by rw [E.out]; rfl, (Bel.alloc0 _ _).drew⟩
theorem iGoodClause_t {l h l' h' : Nat} {v u : Value} {ar : List Int} {c : List Lt} {w : World} (ha : ar.length ≤ 1048576) (hv : SlI l h w v ar) (hc : sumC c ≤ 1048576) (hu : SlC l' h' w u c) :
    Calls Try.prog 71 #[.agg #[v], u] w (RetV w (.bool (goodClause ar c))) := iGoodClause_sh ha hv (shortC_of_sum hc) hu
theorem iGoodClause_v {l h l' h' : Nat} {v u : Value} {ar : List Int} {c : List Lt} {w : World} {q : Bool} (he : goodClause ar c = q) (ha : ar.length ≤ 1048576) (hv : SlI l h w v ar) (hc : sumC c ≤ 1048576) (hu : SlC l' h' w u c) :
    Calls Try.prog 71 #[.agg #[v], u] w (RetV w (.bool q)) := by subst he; exact iGoodClause_t ha hv hc hu

end Go.Proofs.Ytfhljkjcjnfjfaa
end
section
/- Chapter 4, the program: ReadClause. -/
namespace Go.Proofs.Ytfhljkjcjnfjfaa
open Go.RowKit

theorem ba_ex0 (s : ByteArray) : s.extract 0 s.size = s := by
  apply ByteArray.ext
  simp only [ByteArray.data_extract]
  apply Array.ext
  · simp
  · intro i h1 h2; simp

set_option maxRecDepth 100000 in
set_option maxHeartbeats 2000000 in
theorem scanClause_c (l h : Nat) (v : Value) (ar : List Int) (s : ByteArray) (w : World) (hg : goodSign ar = true) (hs : s.size ≤ 1000) (hv : SlI l h w v ar) :
    Calls Try.prog 99 #[.agg #[v], .string s] w (RetRC w (readT ar s.data.toList)) := by
  obtain ⟨i0, hi0, hz0, hz1, hz2⟩ := info_parts Try.info95
  have hsz := ba_len s
  have HP := Lib.hid (fun (q : Nat) (b : UInt8) (r : Bool) (w' : World) (hr : decide (s.data.toList[q]? = some b) = r) (hq : q ≤ s.size) => sPrefix_v s q b r hr hq (by omega) w')
  have HP0 : Hid (∀ (r : Bool) (w' : World), decide (s.data.toList[0]? = some 45) = r → Calls Try.prog 132 #[.string s, .string ⟨#[45]⟩] w' fun e w'' => e = .returned (.bool r) ∧ w'' = w') := fun r w' hr => by have := HP.out 0 45 r w' hr (Nat.zero_le _); rw [ba_ex0] at this; exact this
  by_cases hB : s.data.toList[0]? = some 45
  · have HP1 := Lib.hid (fun w' => HP0.out true w' (decide_eq_true hB))
    cases hA : (s.data.toList == [45]) with
    | true =>
      have E : Hid (readT ar s.data.toList = ([], 1, true)) := by show _ = _; unfold readT; rw [if_pos (by simpa using hA)]
      have ht : (s.toList == [45]) = true := by rw [Lib.toList_data]; exact hA
      generalize readT ar s.data.toList = R at *
      clear hA hB hsz HP HP0
      go_enter Try.func99, Try.ntmps99
      go_wp2_with fail
      refine (HP1.out _).mono ?_; rintro e w1 ⟨rfl, rfl⟩
      go_wp2_with fail
      go_ret3
      exact ⟨_, _, _, by rw [E.out]; rfl, by rw [E.out]; exact OwnC.nil _ _ _, Bel.alloc0 _ _⟩
    | false =>
      have E : Hid (readT ar s.data.toList = ([], 1, false)) := by show _ = _; unfold readT; rw [if_neg (by simpa using hA), if_pos hB]
      have ht : (s.toList == [45]) = false := by rw [Lib.toList_data]; exact hA
      generalize readT ar s.data.toList = R at *
      clear hA hB hsz HP HP0
      go_enter Try.func99, Try.ntmps99
      go_wp2_with fail
      refine (HP1.out _).mono ?_; rintro e w1 ⟨rfl, rfl⟩
      go_wp2_with fail
      go_ret3
      exact ⟨_, _, _, by rw [E.out]; rfl, by rw [E.out]; exact OwnC.nil _ _ _, Bel.alloc0 _ _⟩
  · have HP1 := Lib.hid (fun w' => HP0.out false w' (decide_eq_false hB))
    have hA : ¬ s.data.toList = [45] := fun h => hB (by rw [h]; rfl)
    have hR : readLits ar s.data.toList (s.size + 1) 0 [] = readT ar s.data.toList := by unfold readT; rw [if_neg hA, if_neg hB, hsz]
    have HS := Lib.hid (fun (p : Nat) (w' : World) (hp : p ≤ s.size) (hb : Bel w w') => scanLit_c l h v ar s p w' hg hs hp (hv.below hb))
    have HPOS := Lib.hid (fun (p : Nat) (hp : p ≤ s.size) => litAt_ok (ar := ar) (T := s.data.toList) (p := p) (by omega))
    have HR0 := Lib.hid hR
    generalize readT ar s.data.toList = R at *
    clear hA hB hR HP0 hv
    go_enter Try.func99, Try.ntmps99
    go_wp2_with fail
    refine (HP1.out _).mono ?_; rintro e w1 ⟨rfl, rfl⟩
    go_wp2_with fail
    go_loopw [7, 8] (fun o a wr => ∃ (f p : Nat) (acc : List Lt), p ≤ s.size ∧ a = .int .i64 p ∧ RowCO (w.heap.size + 1) wr o acc ∧ readLits ar s.data.toList f p acc = R ∧ s.size + 1 - p ≤ f ∧ acc.length ≤ p ∧ Bel (w.alloc (.cells #[v] 30)) wr) (fun _ a _ => s.size + 1 - (intOf a).toNat)
    case atStart => exact ⟨s.size + 1, 0, [], Nat.zero_le _, rfl, RowCO.nil _ _, HR0.out, by omega, by simp, Bel.rfl' _⟩
    case round =>
      obtain ⟨f0, p, acc, hp, rfl, hrow, hR, hf, hal, hbL⟩ := hrel
      obtain ⟨f, rfl⟩ : ∃ f, f0 = f + 1 := ⟨f0 - 1, by omega⟩
      have hbox := boxc hbL 0 _ rfl
      have HHBL := Lib.hid hbL
      have HROW := Lib.hid hrow
      have hbz := hbL.size
      simp only [World.size_alloc] at hbz
      have HS1 := Lib.hid (HS.out p _ hp hbL.of_alloc)
      have hle1 := HPOS.out p hp
      have HB0 := fun h => lits_lit0 (ar := ar) (T := s.data.toList) (f := f) (p := p) (acc := acc) h
      have HEN := fun h h1 => lits_litEnd (ar := ar) (T := s.data.toList) (f := f) (p := p) (acc := acc) h h1
      have HBA := fun c h h1 h2 => lits_litBar (c := c) (ar := ar) (T := s.data.toList) (f := f) (p := p) (acc := acc) h h1 h2
      have HMO := fun h h1 => lits_litMore (ar := ar) (T := s.data.toList) (f := f) (p := p) (acc := acc) h h1
      generalize litAt ar s.data.toList p = r1 at *
      obtain ⟨x, q, k⟩ := r1
      simp only at hle1 HB0 HEN HBA HMO
      rw [hsz] at hle1
      clear hrow hbL
      go_wp2_with fail
      refine HS1.out.mono ?_; rintro e w1 ⟨p0, a1, n1, c1, a2, n2, c2, m, rfl, hb1, hown1⟩
      cases k with
      | false =>
        have E : Hid (R = ([], q, false)) := by show _ = _; rw [← hR]; exact HB0 rfl
        clear HB0 HEN HBA HMO hR hown1
        go_wp2_with fail
        go_ret3
        exact ⟨_, _, _, by rw [E.out]; rfl, by rw [E.out]; exact OwnC.nil _ _ _, (HHBL.out.of_alloc.step hb1).alloc _⟩
      | true =>
        obtain ⟨hp0, hm1, hm2, o1, o2⟩ := hown1 rfl
        simp only at hp0 o1 o2
        obtain ⟨hpq, hwq⟩ := hle1.2 rfl
        obtain ⟨px, xl, xr⟩ := x
        simp only at hp0 o1 o2
        subst hp0
        obtain ⟨zs, hown, hzl, hnext⟩ := HROW.out.step hb1 (Bel.alloc2 w1 (.cells #[.bool p0, .slice a1 n1 c1, .slice a2 n2 c2] 95) (.cells #[.bool p0, .slice a1 n1 c1, .slice a2 n2 c2] 95)) o1 o2 (Nat.le_refl _) hm1 hm2 (Nat.le_refl _) (.inl (Nat.le_refl _)) hbz p0
        have HNX := Lib.hid hnext
        have HZ2 : w.heap.size + 1 ≤ ((w1.alloc (.cells #[.bool p0, .slice a1 n1 c1, .slice a2 n2 c2] 95)).alloc (.cells #[.bool p0, .slice a1 n1 c1, .slice a2 n2 c2] 95)).heap.size := by have h1 := hb1.size; simp; omega
        have hzp : zs.length ≤ 1000 := by omega
        have HQ := hle1.1
        clear hnext o1 o2 hown1
        by_cases hlast : q = s.size
        · have hnone : s.data.toList[q]? = none := List.getElem?_eq_none (by rw [hsz]; omega)
          have E : Hid (R = (acc ++ [(p0, xl, xr)], q, true)) := by show _ = _; rw [← hR]; exact HEN rfl hnone
          have he2 : ((q : Int) == s.size) = true := by rw [hlast]; exact beq_self_eq_true _
          have HL2 := Lib.hid hlast
          clear HB0 HEN HBA HMO hlast hnone hR
          go_wp2_with (at_builtin; refine wpList_append_own_at _ rfl _ _ 32 rfl (w.heap.size + 1) 95 i0 (.agg #[.bool false, .slice none 0 0, .slice none 0 0]) 3 56 Try.underlying32 hi0 hz0 hz1 hz2 rfl (by decide) _ _ _ rfl hown _ _ _ [.bool p0, .slice a1 n1 c1, .slice a2 n2 c2] rfl rfl (news_lit _ _ _ _ _ _ (by simp)) (one_lit _ _ _ _ _ _ _) (by unfold maxLen; omega) (by omega) HZ2 ?_; intro v' w4 hown' hgrow _ hat)
          have hR5 := HNX.out w4 v' (rowC_lit hown') hgrow hat
          obtain ⟨av, cv, rfl⟩ := hR5.form
          have hB4 := (((HHBL.out.of_alloc.step hb1).alloc (.cells #[.bool p0, .slice a1 n1 c1, .slice a2 n2 c2] 95)).alloc (.cells #[.bool p0, .slice a1 n1 c1, .slice a2 n2 c2] 95)).grown hgrow (fun q hq => Nat.le_of_succ_le (own_base hown q hq))
          go_wp2_with fail
          go_ret3
          exact ⟨_, _, _, by rw [E.out]; rfl, by rw [E.out]; exact hR5.own.mono (by omega) (Nat.le_refl _), hB4⟩
        · have hqlt : q < s.size := by omega
          have hg2 := sa_get s q hqlt
          have he2 : ((q : Int) == s.size) = false := beq_eq_false_iff_ne.2 (by omega)
          have hi2 : (q : Int) ≤ s.size := by omega
          by_cases hbar : s[q] = 124
          · have E : Hid (readLits ar s.data.toList f (q + 1) (acc ++ [(p0, xl, xr)]) = R) := by show _ = _; rw [← hR]; exact (HMO rfl (by rw [hg2, hbar])).symm
            have HPB := Lib.hid (fun w' => HP.out q 124 true w' (decide_eq_true (by rw [hg2, hbar])) (by omega))
            have hw2 := IntWalk.i64_in ((q : Int) + 1) (by omega)
            clear HB0 HEN HBA HMO hlast hbar hg2 hR
            go_wp2_with (at_builtin; refine wpList_append_own_at _ rfl _ _ 32 rfl (w.heap.size + 1) 95 i0 (.agg #[.bool false, .slice none 0 0, .slice none 0 0]) 3 56 Try.underlying32 hi0 hz0 hz1 hz2 rfl (by decide) _ _ _ rfl hown _ _ _ [.bool p0, .slice a1 n1 c1, .slice a2 n2 c2] rfl rfl (news_lit _ _ _ _ _ _ (by simp)) (one_lit _ _ _ _ _ _ _) (by unfold maxLen; omega) (by omega) HZ2 ?_; intro v' w4 hown' hgrow _ hat)
            have hR5 := HNX.out w4 v' (rowC_lit hown') hgrow hat
            have hB4 := (((HHBL.out.step hb1).alloc (.cells #[.bool p0, .slice a1 n1 c1, .slice a2 n2 c2] 95)).alloc (.cells #[.bool p0, .slice a1 n1 c1, .slice a2 n2 c2] 95)).grown hgrow (fun q hq => by have := own_base hown q hq; simp; omega)
            go_wp2_with fail
            refine (HPB.out _).mono ?_; rintro e w5 ⟨rfl, rfl⟩
            go_wp2_with fail
            go_roundw
            case rel => exact ⟨f, q + 1, _, by omega, by go_num, hR5, E.out, by omega, by simp; omega, hB4⟩
            case measure => simp [intOf]; omega
          · have E : Hid (R = ([], q, false)) := by show _ = _; rw [← hR]; exact HBA _ rfl hg2 hbar
            have HPB := Lib.hid (fun w' => HP.out q 124 false w' (decide_eq_false (by rw [hg2]; simpa using hbar)) (by omega))
            clear HB0 HEN HBA HMO hlast hbar hg2 hR
            go_wp2_with (at_builtin; refine wpList_append_own_at _ rfl _ _ 32 rfl (w.heap.size + 1) 95 i0 (.agg #[.bool false, .slice none 0 0, .slice none 0 0]) 3 56 Try.underlying32 hi0 hz0 hz1 hz2 rfl (by decide) _ _ _ rfl hown _ _ _ [.bool p0, .slice a1 n1 c1, .slice a2 n2 c2] rfl rfl (news_lit _ _ _ _ _ _ (by simp)) (one_lit _ _ _ _ _ _ _) (by unfold maxLen; omega) (by omega) HZ2 ?_; intro v' w4 hown' hgrow _ hat)
            have hB4 := (((HHBL.out.of_alloc.step hb1).alloc (.cells #[.bool p0, .slice a1 n1 c1, .slice a2 n2 c2] 95)).alloc (.cells #[.bool p0, .slice a1 n1 c1, .slice a2 n2 c2] 95)).grown hgrow (fun q hq => Nat.le_of_succ_le (own_base hown q hq))
            go_wp2_with fail
            refine (HPB.out _).mono ?_; rintro e w5 ⟨rfl, rfl⟩
            go_wp2_with fail
            go_ret3
            exact ⟨_, _, _, by rw [E.out]; rfl, by rw [E.out]; exact OwnC.nil _ _ _, hB4⟩

theorem iGoodClause_q {l h l' h' : Nat} {v u : Value} {ar : List Int} {c : List Lt} {w : World} {q : Bool} (hq : okLits ar c = q) (hg : goodSign ar = true) (ha : ar.length ≤ 1048576) (hv : SlI l h w v ar) (hc : shortC c) (hu : SlC l' h' w u c) :
    Calls Try.prog 71 #[.agg #[v], u] w (RetV w (.bool q)) := by
  have := iGoodClause_sh ha hv hc hu
  rwa [show goodClause ar c = q from by unfold goodClause; rw [hg, hq]; rfl] at this

set_option maxRecDepth 100000 in
set_option maxHeartbeats 1000000 in
theorem iReadClause_h {l h : Nat} {v : Value} {ar : List Int} {s : ByteArray} {w : World} (ha : ar.length ≤ 1048576) (hv : SlI l h w v ar) (hs : s.size ≤ 1048576) (hsh : s.size ≤ 1000 → (readT ar s.data.toList).2.2 = true → shortC (readT ar s.data.toList).1) :
    Calls Try.prog 45 #[.agg #[v], .string s] w (RetRC w (readClAns ar s)) := by
  unfold readClAns
  cases hg : goodSign ar with
  | false =>
    rw [if_neg (by simp)]
    have HG := Lib.hid (fun (w' : World) (hb : Bel w w') => iGoodSign_v l h v ar false w' hg ha (hv.below hb)); clear hg
    go_enter Try.func45, Try.ntmps45
    go_wp2_with fail
    refine (HG.out _ (Bel.alloc0 _ _)).mono ?_; rintro e w1 ⟨rfl, hb1⟩
    go_wp2_with fail
    go_ret3
    exact ⟨_, _, _, rfl, OwnC.nil _ _ _, hb1.of_alloc⟩
  | true =>
    have HG := Lib.hid (fun (w' : World) (hb : Bel w w') => iGoodSign_v l h v ar true w' hg ha (hv.below hb))
    by_cases hsz : s.size ≤ 1000
    · rw [if_pos ⟨rfl, hsz⟩]
      have hI : ¬ ((1000 : Int) < s.size) := by omega
      have HR := Lib.hid (fun (w' : World) (hb : Bel w w') => scanClause_c l h v ar s w' hg hsz (hv.below hb))
      have HC := fun (q : Bool) (w' : World) (u : Value) (l' h' : Nat) (hq : okLits ar (readT ar s.data.toList).1 = q) (hb : Bel w w') (hk : (readT ar s.data.toList).2.2 = true) (hu : SlC l' h' w' u (readT ar s.data.toList).1) => iGoodClause_q hq hg ha (hv.below hb) (hsh hsz hk) hu
      clear hg hsh
      generalize readT ar s.data.toList = R at *
      obtain ⟨c, at', k⟩ := R
      simp only at *
      cases k with
      | false =>
        rw [if_neg (by simp)]
        clear HC
        go_enter Try.func45, Try.ntmps45
        go_wp2_with fail
        refine (HG.out _ (Bel.alloc0 _ _)).mono ?_; rintro e w1 ⟨rfl, hb1⟩
        have hbx := boxc hb1 0 _ rfl
        go_wp2_with fail
        refine (HR.out _ hb1.of_alloc).mono ?_; rintro e w2 ⟨a2, n2, c2, rfl, o2, hb2⟩
        go_wp2_with fail
        go_ret3
        exact ⟨_, _, _, rfl, OwnC.nil _ _ _, hb1.of_alloc.step hb2⟩
      | true =>
        rw [if_pos rfl]
        cases hq : okLits ar c with
        | false =>
          rw [if_neg (by simp)]
          have HCC := Lib.hid (fun w' u l' h' => HC false w' u l' h' hq)
          clear HC hq
          go_enter Try.func45, Try.ntmps45
          go_wp2_with fail
          refine (HG.out _ (Bel.alloc0 _ _)).mono ?_; rintro e w1 ⟨rfl, hb1⟩
          have hbx := boxc hb1 0 _ rfl
          go_wp2_with fail
          refine (HR.out _ hb1.of_alloc).mono ?_; rintro e w2 ⟨a2, n2, c2, rfl, o2, hb2⟩
          have hbx2 := boxc (hb1.step hb2) 0 _ rfl
          go_wp2_with fail
          refine (HCC.out _ _ _ _ (hb1.of_alloc.step hb2) trivial o2.sl).mono ?_; rintro e w3 ⟨rfl, hb3⟩
          go_wp2_with fail
          go_ret3
          exact ⟨_, _, _, rfl, OwnC.nil _ _ _, (hb1.of_alloc.step hb2).step hb3⟩
        | true =>
          rw [if_pos rfl]
          have HCC := Lib.hid (fun w' u l' h' => HC true w' u l' h' hq)
          clear HC hq
          go_enter Try.func45, Try.ntmps45
          go_wp2_with fail
          refine (HG.out _ (Bel.alloc0 _ _)).mono ?_; rintro e w1 ⟨rfl, hb1⟩
          have hbx := boxc hb1 0 _ rfl
          go_wp2_with fail
          refine (HR.out _ hb1.of_alloc).mono ?_; rintro e w2 ⟨a2, n2, c2, rfl, o2, hb2⟩
          have hbx2 := boxc (hb1.step hb2) 0 _ rfl
          go_wp2_with fail
          refine (HCC.out _ _ _ _ (hb1.of_alloc.step hb2) trivial o2.sl).mono ?_; rintro e w3 ⟨rfl, hb3⟩
          go_wp2_with fail
          go_ret3
          exact ⟨_, _, _, rfl, (o2.below hb3).mono (by have := hb1.of_alloc.size; omega) hb3.size, (hb1.of_alloc.step hb2).step hb3⟩
    · rw [if_neg (fun h => hsz h.2)]
      have hI : (1000 : Int) < s.size := by omega
      clear hg hsh
      go_enter Try.func45, Try.ntmps45
      go_wp2_with fail
      refine (HG.out _ (Bel.alloc0 _ _)).mono ?_; rintro e w1 ⟨rfl, hb1⟩
      go_wp2_with fail
      go_ret3
      exact ⟨_, _, _, rfl, OwnC.nil _ _ _, hb1.of_alloc⟩

theorem sReadClause_t {l h : Nat} {v : Value} {ar : List Int} {s : ByteArray} {w : World} (ha : ar.length ≤ 1048576) (hv : SlI l h w v ar) (hs : s.size ≤ 1048576) :
    Calls Try.prog 44 #[.agg #[v], .string s] w (RetRC w (readClAns ar s)) := sReadClause_h ha hv hs (fun h1 h2 => readT_short h1 h2)
theorem iReadClause_t {l h : Nat} {v : Value} {ar : List Int} {s : ByteArray} {w : World} (ha : ar.length ≤ 1048576) (hv : SlI l h w v ar) (hs : s.size ≤ 1048576) :
    Calls Try.prog 45 #[.agg #[v], .string s] w (RetRC w (readClAns ar s)) := iReadClause_h ha hv hs (fun h1 h2 => readT_short h1 h2)
end Go.Proofs.Ytfhljkjcjnfjfaa
end
section
/- The laws' helpers over slices of literals: marks. -/
namespace Go.Proofs.Ytfhljkjcjnfjfaa
open Go.RowKit

def qlo (bs : Nat → Nat) (i : Nat) (xs : List Int) : Nat := if 0 < xs.length then bs i else 0
def qhi (bs : Nat → Nat) (i : Nat) (xs : List Int) : Nat := if 0 < xs.length then bs i + 1 else 0
theorem Ins.feed {lo hi b w us xss bs} (h : Ins lo hi b w us xss bs) (i : Nat) (u : Value) (hu : us[i]? = some u) : OwnI (qlo bs i (xss.getD i [])) (qhi bs i (xss.getD i [])) w u (xss.getD i []) := by
  have ho := h.own i u hu
  unfold qlo qhi
  split
  · exact ho
  · rename_i h0; rw [len0 h0] at ho ⊢; exact ho.empty
theorem Ins.fed {lo hi b w w' us xss bs} (h : Ins lo hi b w us xss bs) (hb : b < w.heap.size) (i : Nat) (hi' : i < xss.length) (u : Value) (hu : us[i]? = some u) (ys : List Int) (hl : ys.length = (xss.getD i []).length)
    (hch : Chg (qlo bs i (xss.getD i [])) (qhi bs i (xss.getD i [])) w w') (ho : OwnI (qlo bs i (xss.getD i [])) (qhi bs i (xss.getD i [])) w' u ys) :
    Ins lo hi b w' us (xss.set i ys) bs ∧ Chg lo hi w w' ∧ w'.heap[b]? = w.heap[b]? := by
  by_cases hp : 0 < (xss.getD i []).length
  · obtain ⟨a1, a2, a3⟩ := h.rng i hi' hp
    unfold qlo qhi at hch ho
    rw [if_pos hp, if_pos hp] at hch ho
    exact ⟨h.stored i hi' u hu ys hl (fun _ => hch) (fun h0 => absurd (by omega) h0) ho, hch.mono a1 (by omega), hch.block b hb (by omega)⟩
  · unfold qlo qhi at hch ho
    rw [if_neg hp, if_neg hp] at hch ho
    have hy : ys = [] := List.length_eq_zero_iff.1 (by omega)
    subst hy
    exact ⟨h.stored i hi' u hu [] hl (fun h0 => absurd h0 (by simp)) (fun _ => hch) ho.empty, ⟨hch.os, hch.tape, hch.output, hch.size, fun x hx _ => hch.block x hx (by omega)⟩, hch.block b hb (by omega)⟩
theorem CRow.left {lo hi b off : Nat} {w w' : World} {zs : List LV} {c : List Lt} {bs : Nat → Nat} (h : CRow lo hi b off w zs c bs) (hb : b < w.heap.size) (j : Nat) (z : LV) (hz : zs[j]? = some z) (ys : List Int) (hl : ys.length = (c.getD j lt0).2.1.length)
    (hch : Chg (qlo bs (2*j) (c.getD j lt0).2.1) (qhi bs (2*j) (c.getD j lt0).2.1) w w') (ho : OwnI (qlo bs (2*j) (c.getD j lt0).2.1) (qhi bs (2*j) (c.getD j lt0).2.1) w' z.2.1 ys) :
    CRow lo hi b off w' zs (c.set j ((c.getD j lt0).1, ys, (c.getD j lt0).2.2)) bs ∧ Chg lo hi w w' := by
  have hj : j < zs.length := (List.getElem?_eq_some_iff.1 hz).1
  have hjc : j < c.length := by rw [← h.len]; exact hj
  have hfl := flatC_len c
  obtain ⟨g1, g2⟩ := flatC_get c j
  rw [← g1] at hch ho hl
  obtain ⟨k1, k2, k3⟩ := h.ins.fed hb (2*j) (by omega) z.2.1 (rowsC_get zs j z hz).1 ys hl hch ho
  refine ⟨h.terms k3 (by simp) (fun i => ?_) ?_, k2⟩
  · by_cases e : j = i
    · subst e; simp [List.getD, hjc]
    · simp [List.getD, List.getElem?_set, e]
  · have : flatC (c.set j ((c.getD j lt0).1, ys, (c.getD j lt0).2.2)) = (flatC c).set (2*j) ys := by
      rw [flatC_set c j _ hjc]
      show ((flatC c).set (2 * j) ys).set (2 * j + 1) (c.getD j lt0).2.2 = _
      rw [← g2]
      apply List.ext_getElem?
      intro i
      simp only [List.getElem?_set]
      by_cases e : 2 * j + 1 = i
      · subst e; simp [List.getD, show 2 * j + 1 < (flatC c).length by omega]
      · rw [if_neg e]
    rw [this]; exact k1
theorem CRow.right {lo hi b off : Nat} {w w' : World} {zs : List LV} {c : List Lt} {bs : Nat → Nat} (h : CRow lo hi b off w zs c bs) (hb : b < w.heap.size) (j : Nat) (z : LV) (hz : zs[j]? = some z) (ys : List Int) (hl : ys.length = (c.getD j lt0).2.2.length)
    (hch : Chg (qlo bs (2*j+1) (c.getD j lt0).2.2) (qhi bs (2*j+1) (c.getD j lt0).2.2) w w') (ho : OwnI (qlo bs (2*j+1) (c.getD j lt0).2.2) (qhi bs (2*j+1) (c.getD j lt0).2.2) w' z.2.2 ys) :
    CRow lo hi b off w' zs (c.set j ((c.getD j lt0).1, (c.getD j lt0).2.1, ys)) bs ∧ Chg lo hi w w' := by
  have hj : j < zs.length := (List.getElem?_eq_some_iff.1 hz).1
  have hjc : j < c.length := by rw [← h.len]; exact hj
  have hfl := flatC_len c
  obtain ⟨g1, g2⟩ := flatC_get c j
  rw [← g2] at hch ho hl
  obtain ⟨k1, k2, k3⟩ := h.ins.fed hb (2*j+1) (by omega) z.2.2 (rowsC_get zs j z hz).2 ys hl hch ho
  refine ⟨h.terms k3 (by simp) (fun i => ?_) ?_, k2⟩
  · by_cases e : j = i
    · subst e; simp [List.getD, hjc]
    · simp [List.getD, List.getElem?_set, e]
  · have : flatC (c.set j ((c.getD j lt0).1, (c.getD j lt0).2.1, ys)) = (flatC c).set (2*j+1) ys := by
      rw [flatC_set c j _ hjc]
      show ((flatC c).set (2 * j) (c.getD j lt0).2.1).set (2 * j + 1) ys = _
      rw [← g1]
      apply List.ext_getElem?
      intro i
      simp only [List.getElem?_set, List.length_set]
      by_cases e : 2 * j + 1 = i
      · subst e; simp
      · rw [if_neg e, if_neg e]
        by_cases e2 : 2 * j = i
        · subst e2; simp [List.getD, show 2 * j < (flatC c).length by omega]
        · rw [if_neg e2]
    rw [this]; exact k1

theorem markIntS_z (lo hi : Nat) (v : Value) (xs : List Int) (z : Int) (k : Nat) (w : World) (hz : z = k) (hx : xs.length ≤ 1099511627776) (hk : k ≤ 1099511627776) (hv : OwnI lo hi w v xs) :
    Calls Try.prog 26 #[v, .int .i64 z] w (RetM lo hi w v xs k) := by subst hz; exact markIntS_c lo hi v xs k w hx hk hv
theorem heldIntS_z (l h : Nat) (v : Value) (n : Nat) (z : Int) (k : Nat) (w : World) (hz : z = k) (hx : n ≤ 1099511627776) (hk : k ≤ 1099511627776) (hv : SlI l h w v (marks k n)) :
    Calls Try.prog 27 #[v, .int .i64 z] w (RetV w (.int .i64 ((k + n : Nat) : Int))) := by subst hz; exact heldIntS_c l h v n k w hx hk hv
theorem set_twice {α : Type} (l : List α) (j : Nat) (a b : α) : (l.set j a).set j b = l.set j b := by simp

def RetMC (lo hi : Nat) (w : World) (v : Value) (c : List Lt) (k : Nat) (e : Ending) (w' : World) : Prop := e = .returned (.int .i64 ((k + sumC c : Nat) : Int)) ∧ Chg lo hi w w' ∧ OwnC lo hi w' v (marksC k c)
theorem OwnC.crow {lo hi : Nat} {w : World} {ad : Option Addr} {n k : Nat} {c : List Lt} (h : OwnC lo hi w (.slice ad n k) c) (hp : 0 < c.length) : ∃ b off zs bs, ad = some ⟨b, off, none⟩ ∧ n = c.length ∧ c.length ≤ k ∧ k ≤ maxLen ∧ CRow lo hi b off w zs c bs := by
  obtain ⟨ad', cap, e, hc, hm, hr⟩ := h
  simp only [Value.slice.injEq] at e
  obtain ⟨rfl, rfl, rfl⟩ := e
  obtain ⟨b, off, zs, bs, e, a1, a2, hl, a3, hf, hi⟩ := hr hp
  exact ⟨b, off, zs, bs, e, rfl, hc, hm.1, a1, a2, hl, a3, hf, hi⟩
theorem CRow.own {lo hi b off k : Nat} {w : World} {zs : List LV} {c : List Lt} {bs : Nat → Nat} (h : CRow lo hi b off w zs c bs) (hc : c.length ≤ k) (hm : k ≤ maxLen) : OwnC lo hi w (.slice (some ⟨b, off, none⟩) c.length k) c :=
  ⟨_, k, rfl, hc, ⟨hm, fun h => by simp at h⟩, fun _ => ⟨b, off, zs, bs, rfl, h.hlo, h.hhi, h.len, h.cell, h.free, h.ins⟩⟩

set_option maxRecDepth 100000 in
set_option maxHeartbeats 400000 in
theorem markLitS_c (lo hi : Nat) (v : Value) (c : List Lt) (k : Nat) (w : World) (hx : sumC c ≤ 1048576) (hk : k ≤ 1073741824) (hv : OwnC lo hi w v c) :
    Calls Try.prog 25 #[v, .int .i64 k] w (RetMC lo hi w v c k) := by
  obtain ⟨ad, cap, rfl⟩ := hv.sl.form
  go_enter Try.func25, Try.ntmps25
  go_wp2_with fail
  go_loopw [1, 5] (fun m i wr => ∃ j : Nat, j ≤ c.length ∧ i = .int .i64 j ∧ m = .int .i64 ((k + sumC (c.take j) : Nat) : Int) ∧ OwnC lo hi wr (.slice ad c.length cap) (markedC c k j) ∧ Chg lo hi w wr) (fun _ i _ => c.length - (intOf i).toNat)
  case atStart => exact ⟨0, Nat.zero_le _, rfl, by simp [sumC], by rw [markedC_zero]; exact hv, Chg.refl _ _ _⟩
  case round =>
    obtain ⟨j, hj, rfl, rfl, ho, hb⟩ := hrel
    by_cases hlt : j < c.length
    · have hl := markedC_len c k j hj
      have hst := sumC_take c j hlt
      have hsl := sumC_get c j hlt
      have hcl := sumC_len c
      obtain ⟨b, off, zs, bs, rfl, -, hcap, hml, hR⟩ := ho.crow (by omega)
      have hzl := hR.len
      have hz : zs[j]? = some zs[j] := List.getElem?_eq_getElem (by omega)
      obtain ⟨-, c1, c2, c3⟩ := hR.cell j _ hz
      have f1 := hR.free (off + j * 3)
      have hB := World.block_lt_of_cell? wr ⟨b, _, none⟩ c1
      have hget := markedC_get c k j hlt
      have hsucc := markedC_succ c k j hlt
      have hin1 : (j : Int) < c.length := by omega
      have hwd : wC (c.getD j lt0) = 1 + (c.getD j lt0).2.1.length + (c.getD j lt0).2.2.length := rfl
      generalize zs[j] = z at *
      obtain ⟨p0, u1, u2⟩ := z
      simp only at c1 c2 c3
      have hkj : k + sumC (c.take j) ≤ 1073741824 + 1048576 := by have := sumC_le c j; omega
      generalize hz0 : k + sumC (c.take j) = z0 at *
      have hrem : Int.tmod (z0 : Int) 3 = ((z0 % 3 : Nat) : Int) := by rw [Int.tmod_eq_emod_of_nonneg (by omega)]; omega
      -- the sign
      have hdec : (((z0 : Nat) : Int) % 3 == 0) = decide (z0 % 3 = 0) := by rw [Bool.eq_iff_iff]; simp; omega
      have hR1 := hR.sign j _ hz (((z0 : Nat) : Int) % 3 == 0)
      rw [hget] at hR1
      generalize hx : c.getD j lt0 = x at *
      obtain ⟨p, xl, xr⟩ := x
      simp only at *
      have hW1 := Chg.set (lo := lo) (hi := hi) wr (p := ⟨b, off + j * 3, none⟩) hR.hlo hR.hhi (.bool (((z0 : Nat) : Int) % 3 == 0))
      have hs1 : (wr.setCell ⟨b, off + j * 3, none⟩ (.bool (((z0 : Nat) : Int) % 3 == 0))).heap.size = wr.heap.size := by simp
      have e1 := World.cell?_setCell_other (h := show (⟨b, off + j * 3, none⟩ : Addr) ≠ ⟨b, off + j * 3 + 1, none⟩ by intro h; simp at h) (w := wr) (v := .bool (((z0 : Nat) : Int) % 3 == 0))
      rw [c2] at e1
      generalize hz1 : zs.set j (((z0 : Nat) : Int) % 3 == 0, u1, u2) = zs1 at hR1
      have hg1 : zs1[j]? = some (((z0 : Nat) : Int) % 3 == 0, u1, u2) := by rw [← hz1, List.getElem?_set]; simp; omega
      have hd1 : ((markedC c k j).set j (((z0 : Nat) : Int) % 3 == 0, xl, xr)).getD j lt0 = (((z0 : Nat) : Int) % 3 == 0, xl, xr) := by simp [List.getD, hl, hlt]
      have hfeed := hR1.ins.feed (2*j) u1 (rowsC_get zs1 j _ hg1).1
      rw [(flatC_get _ j).1, hd1] at hfeed
      have HC := Lib.hid (markIntS_z _ _ u1 xl ((z0 : Int) + 1) (z0 + 1) _ (by omega) (by omega) (by omega) hfeed)
      have HK := Lib.hid (And.intro hR1 (And.intro hg1 (And.intro hd1 (And.intro hsucc (And.intro hst (And.intro hl (And.intro hwd (And.intro hW1 hs1))))))))
      have HB2 := Lib.hid hb
      have HDEC := Lib.hid hdec
      clear hdec
      clear ho hv hR hR1 hz hget hsucc hst hl hwd hb hz1 hg1 hd1 hfeed hW1 hs1
      go_wp2_with fail
      refine HC.out.mono ?_; rintro e w1 ⟨rfl, hch, hom⟩
      obtain ⟨hR1, hg1, hd1, hsucc, hst, hl, hwd, hW1, hs1⟩ := HK.out
      have hB1 : b < (wr.setCell ⟨b, off + j * 3, none⟩ (.bool (((z0 : Nat) : Int) % 3 == 0))).heap.size := by rw [hs1]; exact hB
      have hst1 := hR1.left (w' := w1) hB1 j _ hg1 (marks (z0 + 1) xl.length) (by rw [hd1, marks_len]) (by rw [hd1]; exact hch) (by rw [hd1]; exact hom)
      rw [hd1, set_twice] at hst1
      obtain ⟨hR2, hW2⟩ := hst1
      obtain ⟨-, d1, d2, d3⟩ := hR2.cell j _ hg1
      simp only at d1 d2 d3
      have hB2 : b < w1.heap.size := Nat.lt_of_lt_of_le hB1 hW2.size
      have hd2 : ((markedC c k j).set j (((z0 : Nat) : Int) % 3 == 0, marks (z0 + 1) xl.length, xr)).getD j lt0 = (((z0 : Nat) : Int) % 3 == 0, marks (z0 + 1) xl.length, xr) := by simp [List.getD, hl, hlt]
      have hfeed := hR2.ins.feed (2*j+1) u2 (rowsC_get zs1 j _ hg1).2
      rw [(flatC_get _ j).2, hd2] at hfeed
      have HD := Lib.hid (markIntS_z _ _ u2 xr (((z0 + 1 + xl.length : Nat) : Int)) (z0 + 1 + xl.length) _ rfl (by omega) (by omega) hfeed)
      have HK2 := Lib.hid (And.intro hR2 (And.intro hg1 (And.intro hd2 (And.intro hsucc (And.intro hst (And.intro hl (And.intro hwd ((hW1.trans hW2)))))))))
      clear HK HC hR1 hR2 hg1 hd1 hd2 hsucc hst hl hwd hW1 hW2 hfeed hom hch hs1 hB1
      go_wp2_with fail
      refine HD.out.mono ?_; rintro e w2 ⟨rfl, hch, hom⟩
      obtain ⟨hR2, hg1, hd2, hsucc, hst, hl, hwd, hW⟩ := HK2.out
      have hst2 := hR2.right (w' := w2) hB2 j _ hg1 (marks (z0 + 1 + xl.length) xr.length) (by rw [hd2, marks_len]) (by rw [hd2]; exact hch) (by rw [hd2]; exact hom)
      rw [hd2, set_twice] at hst2
      obtain ⟨hR3, hW3⟩ := hst2
      rw [HDEC.out, show (decide (z0 % 3 = 0), marks (z0 + 1) xl.length, marks (z0 + 1 + xl.length) xr.length) = mark1 z0 (p, xl, xr) from rfl, hsucc] at hR3
      have hl3 := markedC_len c k (j+1) (by omega)
      have hown := hR3.own (k := cap) (by rw [hl3]; omega) hml
      rw [hl3] at hown
      have HO := Lib.hid (And.intro hown (And.intro (HB2.out.trans (hW.trans hW3)) (And.intro hst hwd)))
      clear hR2 hR3 hg1 hd2 hsucc hst hl hwd hW hW3 hch hom hown HK2 HD HB2
      go_wp2_with fail
      go_roundw
      case rel =>
        obtain ⟨h1, h2, h3, h4⟩ := HO.out
        exact ⟨j+1, by omega, by go_num, by rw [h3, h4, ← Nat.add_assoc, hz0]; exact congrArg (Value.int .i64) (by omega), h1, h2⟩
      case measure => simp [intOf]; omega
    · rw [markedC_all c k j hlt] at ho
      rw [sumC_all c j hlt]
      go_wp2_with fail
      go_ret
      exact ⟨rfl, hb, ho⟩

set_option maxRecDepth 100000 in
set_option maxHeartbeats 400000 in
theorem heldLitS_c (l h : Nat) (v : Value) (c : List Lt) (k : Nat) (w : World) (hx : sumC c ≤ 1048576) (hk : k ≤ 1073741824) (hv : SlC l h w v (marksC k c)) :
    Calls Try.prog 46 #[v, .int .i64 k] w (RetV w (.int .i64 ((k + sumC c : Nat) : Int))) := by
  obtain ⟨ad, cap, rfl⟩ := hv.form
  have hml := marksC_len k c
  rw [hml]
  go_enter Try.func46, Try.ntmps46
  go_wp2_with fail
  go_loopw [1, 5] (fun m i wr => ∃ j : Nat, j ≤ c.length ∧ i = .int .i64 j ∧ m = .int .i64 ((k + sumC (c.take j) : Nat) : Int) ∧ Bel w wr) (fun _ i _ => c.length - (intOf i).toNat)
  case atStart => exact ⟨0, Nat.zero_le _, rfl, by simp [sumC], Bel.rfl' _⟩
  case round =>
    obtain ⟨j, hj, rfl, rfl, hb⟩ := hrel
    by_cases hlt : j < c.length
    · have hst := sumC_take c j hlt
      have hsl := sumC_get c j hlt
      have hcl := sumC_len c
      obtain ⟨b, off, u1, u2, rfl, -, c1, c2, c3, s1, s2⟩ := hv.at hb j (by rw [hml]; exact hlt)
      rw [marksC_get k c j hlt] at c1 s1 s2
      have hin1 : (j : Int) < c.length := by omega
      have hwd : wC (c.getD j lt0) = 1 + (c.getD j lt0).2.1.length + (c.getD j lt0).2.2.length := rfl
      have hkj : k + sumC (c.take j) ≤ 1073741824 + 1048576 := by have := sumC_le c j; omega
      generalize hz0 : k + sumC (c.take j) = z0 at *
      unfold mark1 at c1 s1 s2
      generalize c.getD j lt0 = x at *
      obtain ⟨p, xl, xr⟩ := x
      simp only at c1 c2 c3 s1 s2 hwd
      have hdec : (((z0 : Nat) : Int) % 3 == 0) = decide (z0 % 3 = 0) := by rw [Bool.eq_iff_iff]; simp; omega
      have hrem : Int.tmod (z0 : Int) 3 = ((z0 % 3 : Nat) : Int) := by rw [Int.tmod_eq_emod_of_nonneg (by omega)]; omega
      rw [← hdec] at c1
      have hne : ((((z0 : Nat) : Int) % 3 == 0) != (((z0 : Nat) : Int) % 3 == 0)) = false := by simp
      have HC := Lib.hid (fun (w' : World) (hq : Bel wr w') => heldIntS_z _ _ u1 xl.length ((z0 : Int) + 1) (z0 + 1) w' (by omega) (by omega) (by omega) (s1.below hq))
      have HD := Lib.hid (fun (w' : World) (hq : Bel wr w') => heldIntS_z _ _ u2 xr.length ((z0 + 1 + xl.length : Nat) : Int) (z0 + 1 + xl.length) w' rfl (by omega) (by omega) (s2.below hq))
      have HS := Lib.hid (And.intro hst hwd)
      have B1 := World.block_lt_of_cell? wr ⟨b, _, none⟩ c1
      have hn1 : decide (((z0 + 1 + xl.length : Nat) : Int) < 0) = false := by simp; omega
      have hn2 : decide (((z0 + 1 + xl.length + xr.length : Nat) : Int) < 0) = false := by simp; omega
      clear hv s1 s2 hst hwd hdec
      go_wp2_with fail
      refine (HC.out _ (Bel.rfl' _)).mono ?_; rintro e w1 ⟨rfl, hb1⟩
      have d3 := hb1.at (World.block_lt_of_cell? wr ⟨b, _, none⟩ c3) c3
      go_wp2_with fail
      refine (HD.out _ hb1).mono ?_; rintro e w2 ⟨rfl, hb2⟩
      go_wp2_with fail
      go_roundw
      case rel =>
        obtain ⟨h3, h4⟩ := HS.out
        exact ⟨j+1, by omega, by go_num, by rw [h3, h4, ← Nat.add_assoc, hz0]; exact congrArg (Value.int .i64) (by omega), (hb.step hb1).step hb2⟩
      case measure => simp [intOf]; omega
    · rw [sumC_all c j hlt]
      go_wp2_with fail
      go_ret
      exact ⟨rfl, hb⟩
end Go.Proofs.Ytfhljkjcjnfjfaa
end
section
/- The arguments of a law, opened: slices of ints, a struct of one, strings, ints. -/
namespace Go.Proofs.Ytfhljkjcjnfjfaa
open Go.ChangeShapes Go.WideShapes Go.ChangeAt Go.RowKit
open Go.ChangeMaps (open_string shut_string)
set_option linter.unusedVariables false
set_option maxRecDepth 100000

theorem Row.own : ownKnob Try.prog.godebug = none := by kernel_rfl
theorem Row.laidOut : laidOutB Try.prog = true := by kernel_rfl

/-- A slice of ints that came in. -/
theorem op_slI {H : Type} {enc : TypeId × Value → H} {W : World} {fuel : Nat} {v : Value} {x : DataW H × List MemPlace}
    (h : DataW.trod enc Try.prog W 0 (fun _ => true) true fuel 22 [v] = some x) :
    ∃ xs : List Int, xs.length ≤ 9223372036854775807 ∧ SlI 0 W.heap.size W v xs ∧ ∀ n ∈ xs, (Lit.int .i64 n).wf = true := by
  rcases open_ints Try.underlying22 Try.underlying3 (by kernel_rfl) h with ⟨hcs, _⟩ | ⟨a, l, c, zs, hcs, _, hl, hm, hz, _, hcell, hwz⟩
  · simp at hcs
    subst hcs
    exact ⟨[], by simp, SlI.nil _ _ _, by simp⟩
  · simp at hcs
    subst hcs
    have hz' : zs.length = c := by simpa using hz
    have hlen : (zs.take l).length = l := by simp; omega
    refine ⟨zs.take l, by rw [hlen]; have : maxLen = 9223372036854775807 := rfl; omega, ⟨some a, c, by rw [hlen], by rw [hlen]; exact hl, ⟨hm, fun h => by simp at h⟩, fun hp => ?_⟩, fun n hn => hwz n (List.mem_of_mem_take hn)⟩
    rw [hlen] at hp
    obtain ⟨b, off, spot⟩ := a
    have h0 := hcell 0 (by omega)
    have hspot : spot = none := by simpa [Addr.add] using World.cell?_spot h0
    subst hspot
    refine ⟨b, off, rfl, Nat.zero_le _, World.block_lt_of_cell? W ⟨b, off + 0, none⟩ h0, fun j hj => ?_⟩
    rw [hlen] at hj
    rw [← add_plain, hcell j (by omega)]
    simp [List.getD, hj]

theorem op_int {H : Type} {enc : TypeId × Value → H} {W : World} {v : Value} {d : DataW H} {p : List MemPlace} {base : Nat} (hv : Value.okWide Try.prog W .any base 3 v)
    (h : DataW.Trod enc Try.prog W 0 (fun _ => true) true 3 v d p) : ∃ n : Int, v = .int .i64 n ∧ -9223372036854775808 ≤ n ∧ n ≤ 9223372036854775807 := by
  obtain ⟨n, rfl, rfl, rfl, wf⟩ := open_int Try.underlying3 hv h
  have h1 : IntKind.i64.min = -9223372036854775808 := rfl
  have h2 : IntKind.i64.max = 9223372036854775807 := rfl
  simp only [Lit.wf, Bool.and_eq_true, decide_eq_true_eq] at wf
  exact ⟨n, rfl, by omega, by omega⟩

theorem op_ints {H : Type} {enc : TypeId × Value → H} {W : World} {v : Value} {d : DataW H} {p : List MemPlace} {base : Nat} (hv : Value.okWide Try.prog W .any base 22 v)
    (h : DataW.Trod enc Try.prog W 0 (fun _ => true) true 22 v d p) : ∃ xs : List Int, xs.length ≤ 9223372036854775807 ∧ SlI 0 W.heap.size W v xs ∧ ∀ n ∈ xs, (Lit.int .i64 n).wf = true := by
  obtain ⟨a, n, c, rfl⟩ := okWide_slice Try.underlying22 hv
  obtain ⟨fuel, hf⟩ := h
  exact op_slI (x := (d, p)) (by simpa [Value.cells] using hf)

theorem op_sign {H : Type} {enc : TypeId × Value → H} {W : World} {v : Value} {d : DataW H} {p : List MemPlace} {base : Nat} (hv : Value.okWide Try.prog W .any base 24 v)
    (h : DataW.Trod enc Try.prog W 0 (fun _ => true) true 24 v d p) : ∃ u, v = .agg #[u] ∧ ∃ xs : List Int, xs.length ≤ 9223372036854775807 ∧ SlI 0 W.heap.size W u xs ∧ ∀ n ∈ xs, (Lit.int .i64 n).wf = true := by
  obtain ⟨cs, rfl, hsz⟩ := okWide_struct Try.underlying24 hv
  have hC : Try.prog.cellsOf 24 = 1 := by kernel_rfl
  obtain ⟨u, rfl⟩ : ∃ u, cs = #[u] := by
    rw [hC] at hsz
    match cs, hsz with
    | ⟨[u]⟩, _ => exact ⟨u, rfl⟩
  obtain ⟨fuel, hf⟩ := h
  obtain ⟨y0, n, hx, _, h0⟩ := trod_struct1 Try.underlying24 hf
  exact ⟨u, rfl, op_slI (x := y0) (by simpa [Value.cells, show Try.prog.cellsOf 22 = 1 from by kernel_rfl] using h0)⟩

theorem op_string {H : Type} {enc : TypeId × Value → H} {W : World} {v : Value} {d : DataW H} {p : List MemPlace} {base : Nat} (hv : Value.okWide Try.prog W .any base 9 v)
    (h : DataW.Trod enc Try.prog W 0 (fun _ => true) true 9 v d p) : ∃ s : ByteArray, v = .string s ∧ s.size ≤ 9223372036854775807 := by
  obtain ⟨s, rfl, rfl, rfl, hs⟩ := open_string Try.underlying9 hv h
  exact ⟨s, rfl, hs⟩

theorem op_lt {H : Type} {enc : TypeId × Value → H} {W : World} {t : TypeId} {v : Value} {d : DataW H} {p : List MemPlace}
    (h : DataW.Trod enc Try.prog W 0 (fun _ => true) true t v d p) : ∀ x ∈ p, x.block < W.heap.size := by
  obtain ⟨m, hm⟩ := h; exact DataW.trod_lt m _ _ _ hm

end Go.Proofs.Ytfhljkjcjnfjfaa
end
section
/- A literal that came in, and a slice of literals, opened. -/
namespace Go.Proofs.Ytfhljkjcjnfjfaa
open Go.ChangeShapes Go.WideShapes Go.ChangeAt Go.RowKit
set_option linter.unusedVariables false
set_option maxRecDepth 100000

theorem op_litcells {H : Type} {enc : TypeId × Value → H} {W : World} {fuel : Nat} {cs : List Value} {x : DataW H × List MemPlace}
    (h : DataW.trod enc Try.prog W 0 (fun _ => true) true fuel 92 cs = some x) :
    ∃ (p : Bool) (u1 u2 : Value) (l r : List Int), cs = [.bool p, u1, u2] ∧ SlI 0 W.heap.size W u1 l ∧ l.length ≤ 9223372036854775807 ∧ SlI 0 W.heap.size W u2 r ∧ r.length ≤ 9223372036854775807 := by
  have hC : Try.prog.cellsOf 92 = 3 := by kernel_rfl
  obtain ⟨y0, y1, y2, n, _, hl, h0, h1, h2⟩ := Go.Deep.trod_struct3 Try.underlying92 h
  rw [hC] at hl
  match cs, hl with
  | [v0, v1, v2], _ =>
    have c0 : Try.prog.cellsOf 4 = 1 := by kernel_rfl
    have c1 : Try.prog.cellsOf 22 = 1 := by kernel_rfl
    simp only [c0, c1] at h0 h1 h2
    obtain ⟨p, e0, _⟩ := DataW.trod_bool Try.underlying4 (by simpa using h0)
    obtain ⟨l, hl, s1, _⟩ := op_slI (v := v1) (by simpa using h1)
    obtain ⟨r, hr, s2, _⟩ := op_slI (v := v2) (by simpa using h2)
    refine ⟨p, v1, v2, l, r, ?_, s1, hl, s2, hr⟩
    simp at e0
    rw [e0]

theorem op_lit {H : Type} {enc : TypeId × Value → H} {W : World} {v : Value} {d : DataW H} {p : List MemPlace} {base : Nat} (hv : Value.okWide Try.prog W .any base 92 v)
    (h : DataW.Trod enc Try.prog W 0 (fun _ => true) true 92 v d p) : ∃ (p : Bool) (u1 u2 : Value) (l r : List Int), v = .agg #[.bool p, u1, u2] ∧ SlI 0 W.heap.size W u1 l ∧ l.length ≤ 9223372036854775807 ∧ SlI 0 W.heap.size W u2 r ∧ r.length ≤ 9223372036854775807 := by
  obtain ⟨cs, rfl, hsz⟩ := okWide_struct Try.underlying92 hv
  obtain ⟨fuel, hf⟩ := h
  obtain ⟨p, u1, u2, l, r, e, s1, hl, s2, hr⟩ := op_litcells (x := (d, p)) (cs := cs.toList) (by simpa [Value.cells] using hf)
  exact ⟨p, u1, u2, l, r, by rw [← e], s1, hl, s2, hr⟩

theorem op_lits {H : Type} {enc : TypeId × Value → H} {W : World} {v : Value} {d : DataW H} {p : List MemPlace} {base : Nat} (hv : Value.okWide Try.prog W .any base 25 v)
    (h : DataW.Trod enc Try.prog W 0 (fun _ => true) true 25 v d p) : ∃ c : List Lt, SlC 0 W.heap.size W v c := by
  obtain ⟨a, n, k, rfl⟩ := okWide_slice Try.underlying25 hv
  have hC : Try.prog.cellsOf 92 = 3 := by kernel_rfl
  obtain ⟨fuel, hf⟩ := h
  rcases Go.Deep.open_slice Try.underlying25 (by simpa [Value.cells] using hf) with ⟨hcs, _⟩ | ⟨ad, len, cap, m, n', D, Pl, hcs, _, hl, hm, hmm, _, hx⟩
  · simp at hcs
    obtain ⟨rfl, rfl, rfl⟩ := hcs
    exact ⟨[], SlC.nil _ _ _⟩
  · simp at hcs
    obtain ⟨rfl, rfl, rfl⟩ := hcs
    simp at hmm
    subst hmm
    have each : ∀ i, i < n → ∃ q : Bool × Value × Value × List Int × List Int, W.cell? (ad.add (i * 3)) = some (.bool q.1) ∧ W.cell? (ad.add (i * 3 + 1)) = some q.2.1 ∧ W.cell? (ad.add (i * 3 + 2)) = some q.2.2.1 ∧ SlI 0 W.heap.size W q.2.1 q.2.2.2.1 ∧ SlI 0 W.heap.size W q.2.2.1 q.2.2.2.2 := fun i hi => by
      obtain ⟨cs', h1, h2⟩ := hx i (by omega)
      rw [hC] at h1
      obtain ⟨_, hlen, hcell⟩ := World.cells?_some h1
      obtain ⟨p, u1, u2, l, r, rfl, s1, _, s2, _⟩ := op_litcells h2
      have e0 := hcell 0 (by omega)
      have e1 := hcell 1 (by omega)
      have e2 := hcell 2 (by omega)
      rw [Go.Deep.add_add] at e0 e1 e2
      exact ⟨(p, u1, u2, l, r), by simpa using e0, by simpa using e1, by simpa using e2, s1, s2⟩
    obtain ⟨Z, hZ⟩ := Go.Deep.choose_lt each
    have hlen : ((List.range n).map fun i => ((Z i).1, (Z i).2.2.2.1, (Z i).2.2.2.2)).length = n := by simp
    refine ⟨(List.range n).map fun i => ((Z i).1, (Z i).2.2.2.1, (Z i).2.2.2.2), some ad, _, by rw [hlen], by rw [hlen]; exact hl, ⟨hm, fun h => by simp at h⟩, fun hp => ?_⟩
    rw [hlen] at hp
    obtain ⟨b, off, spot⟩ := ad
    have h0 := (hZ 0 (by omega)).1
    have hspot : spot = none := by simpa [Addr.add] using World.cell?_spot h0
    subst hspot
    refine ⟨b, off, rfl, Nat.zero_le _, World.block_lt_of_cell? W ⟨b, off + 0 * 3, none⟩ (by rw [← add_plain]; exact h0), fun j hj => ?_⟩
    rw [hlen] at hj
    obtain ⟨z0, z1, z2, z3, z4⟩ := hZ j hj
    refine ⟨(Z j).2.1, (Z j).2.2.1, ?_, ?_, ?_, ?_, ?_⟩
    · rw [← add_plain]; simpa [List.getD, hj] using z0
    · rw [Nat.add_assoc, ← add_plain]; exact z1
    · rw [Nat.add_assoc, ← add_plain]; exact z2
    · simpa [List.getD, hj] using z3
    · simpa [List.getD, hj] using z4
end Go.Proofs.Ytfhljkjcjnfjfaa
end
