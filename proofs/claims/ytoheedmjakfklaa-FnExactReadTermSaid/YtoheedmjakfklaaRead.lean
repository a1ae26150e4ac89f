/- ReadTerm: both functions. -/
import Derived.Test.YtoheedmjakfklaaScan4
import Derived.Test.YtoheedmjakfklaaTerm2
namespace Go.Proofs.Ytoheedmjakfklaa
open Go.RowKit

/-- What has been read is a term. -/
def ReadOk (ar : List Int) (r : Scanned) : Prop := r.2.2 = true → endGo ar r.1 1 0 = some r.1.length ∧ 1 ≤ r.1.length
theorem args_read (ar : List Int) (g : Nat → Scanned) (T : List UInt8) (hg : ∀ q, ReadOk ar (g q)) : ∀ (m k : Nat) (acc : List Int) (p : Nat), 1 ≤ acc.length → (∀ rest, endGo ar (acc ++ rest) 1 0 = endGo ar rest m acc.length) → ReadOk ar (scanArgs g T m k acc p) := by
  intro m
  induction m with
  | zero =>
    intro k acc p h1 h2
    by_cases h : T[p]? = some 41
    · rw [args_done h]
      intro _
      have := h2 []
      rw [List.append_nil, endGo_zero] at this
      exact ⟨this, h1⟩
    · rw [args_noclose h]; intro h; simp at h
  | succ m ih =>
    intro k acc p h1 h2
    by_cases h : T[p]? = some (sepC k)
    · cases hb : (g (p + 1)).2.2 with
      | false => rw [args_bad h hb]; intro h; simp at h
      | true =>
        rw [args_next h hb]
        obtain ⟨h3, h4⟩ := hg (p + 1) hb
        refine ih _ _ _ (by simp; omega) (fun rest => ?_)
        rw [List.append_assoc, h2, show m + 1 = 1 + m from by omega, endGo_add]
        have h5 : endGo ar ((g (p + 1)).1 ++ rest) 1 acc.length = some ((g (p + 1)).1.length + acc.length) := by
          have := endGo_shift ar ((g (p + 1)).1 ++ rest) 1 0 acc.length
          rw [Nat.zero_add] at this
          rw [this, endGo_ext ar _ _ _ _ _ h3]; rfl
        rw [h5]
        simp only [Option.bind_some, Nat.add_sub_cancel, List.drop_left', List.length_append]
        rw [Nat.add_comm]
    · rw [args_nosep h]; intro h; simp at h
theorem scan_read (ar : List Int) (T : List UInt8) : ∀ (f p : Nat), ReadOk ar (scanF ar T f p) := by
  intro f
  induction f with
  | zero => intro p h; simp [scanF] at h
  | succ f ih =>
    intro p
    by_cases hl : p < T.length
    · obtain ⟨b, h⟩ : ∃ b, T[p]? = some b := ⟨T[p], List.getElem?_eq_getElem hl⟩
      cases hs : symAt ar b with
      | none => rw [scan_bad h hs]; intro h; simp at h
      | some n =>
        have hok : okSym ar n = true := by have := sym_bd hs; simp [okSym, inB]; omega
        by_cases h0 : arOf ar n = 0
        · rw [scan_leaf h hs h0]
          intro _
          refine ⟨?_, by simp⟩
          show endGo ar [n] 1 0 = some 1
          rw [endGo_cons, if_pos hok, h0, endGo_zero]
        · rw [scan_args h hs h0]
          refine args_read ar _ T ih _ _ _ _ (by simp) (fun rest => ?_)
          show endGo ar (n :: rest) 1 0 = endGo ar rest (arOf ar n) 1
          rw [endGo_cons, if_pos hok, Nat.zero_add]
    · rw [scan_end hl]; intro h; simp at h
theorem read_term {ar : List Int} {r : Scanned} (h : ReadOk ar r) (hb : r.2.2 = true) : okTerm ar r.1 = decide (r.1.length ≤ 40) := by
  obtain ⟨h1, h2⟩ := h hb
  rw [Bool.eq_iff_iff, okTerm_iff, decide_eq_true_eq]
  constructor
  · exact fun h => h.2.1
  · exact fun h3 => ⟨h2, h3, by unfold endOf; rw [List.drop_zero]; exact h1⟩

/-- What ReadTerm answers. -/
def readCore (ar : List Int) (n : Nat) (r : Scanned) : Scanned := if r.2.2 = false ∨ r.2.1 < n then ([], r.2.1, false) else if r.1.length ≤ 40 then r else ([], 0, false)
def readAns (ar : List Int) (s : ByteArray) : Scanned :=
  if goodSign ar = true ∧ s.size ≤ 200 then readCore ar s.size (scanF ar s.data.toList (s.data.toList.length + 1) 0) else ([], 0, false)
theorem readAns_len (ar : List Int) (s : ByteArray) : (readAns ar s).1.length ≤ 1048576 := by
  unfold readAns readCore
  split
  · split
    · exact Nat.zero_le _
    · split
      · rename_i h; exact Nat.le_trans h (by omega)
      · exact Nat.zero_le _
  · exact Nat.zero_le _
theorem read_no {ar : List Int} {s : ByteArray} (h : ¬ (goodSign ar = true ∧ s.size ≤ 200)) : readAns ar s = ([], 0, false) := if_neg h
theorem read_yes {ar : List Int} {s : ByteArray} (h1 : goodSign ar = true) (h2 : s.size ≤ 200) : readAns ar s = readCore ar s.size (scanF ar s.data.toList (s.data.toList.length + 1) 0) := if_pos ⟨h1, h2⟩

set_option maxRecDepth 100000 in
theorem sReadTerm_t {l h : Nat} {v : Value} {ar : List Int} {w : World} (ha : ar.length ≤ 1048576) (hv : SlI l h w v ar) {s : ByteArray} (hs : s.size ≤ 1048576) :
    Calls Try.prog 51 #[.agg #[v], .string s] w (RetScan w (readAns ar s)) := by
  have hsz : s.data.toList.length = s.size := by rw [Array.length_toList]; rfl
  cases hg : goodSign ar with
  | false =>
    have E := Lib.hid (read_no (ar := ar) (s := s) (by simp [hg]))
    have HG := Lib.hid hg; clear hg
    go_enter Try.func51, Try.ntmps51
    go_wp2_with fail
    refine (sGoodSign_v _ _ _ _ _ _ HG.out ha (hv.alloc _)).mono ?_; rintro e w1 ⟨rfl, hb1⟩
    go_wp2_with fail
    go_ret3
    exact ⟨_, _, _, by rw [E.out]; rfl, by rw [E.out]; exact OwnI.nil _ _ _, hb1.of_alloc⟩
  | true =>
    by_cases h200 : 200 < s.size
    · have E := Lib.hid (read_no (ar := ar) (s := s) (by omega))
      have HG := Lib.hid hg; clear hg
      go_enter Try.func51, Try.ntmps51
      go_wp2_with fail
      refine (sGoodSign_v _ _ _ _ _ _ HG.out ha (hv.alloc _)).mono ?_; rintro e w1 ⟨rfl, hb1⟩
      go_wp2_with fail
      go_ret3
      exact ⟨_, _, _, by rw [E.out]; rfl, by rw [E.out]; exact OwnI.nil _ _ _, hb1.of_alloc⟩
    · have E := read_yes hg (s := s) (by omega)
      have hok := scanF_ok ar s.data.toList (s.data.toList.length + 1) 0 (Nat.zero_le _)
      have hrd := scan_read ar s.data.toList (s.data.toList.length + 1) 0
      have hcall : ∀ w2, SlI l h w2 v ar → Calls Try.prog 79 #[.agg #[v], .string s, .int .i64 0] w2 (RetScan w2 (scanF ar s.data.toList (s.data.toList.length + 1) 0)) := fun w2 h2 => l1ReadTerm_c _ _ v ar s hg hs (s.data.toList.length + 1) 0 w2 (by omega) (by omega) h2
      generalize scanF ar s.data.toList (s.data.toList.length + 1) 0 = r at *
      obtain ⟨rt, re, rb⟩ := r
      rw [ScanOk, hsz] at hok
      obtain ⟨hre, hok1, -⟩ := hok
      simp only at hre
      have HCALL := Lib.hid hcall
      have HG := Lib.hid hg
      clear hcall hsz hg
      cases rb with
      | false =>
        have E2 := Lib.hid (show readAns ar s = ([], re, false) by rw [E]; simp [readCore])
        clear E hrd hok1
        go_enter Try.func51, Try.ntmps51
        go_wp2_with fail
        refine (sGoodSign_v _ _ _ _ _ _ HG.out ha (hv.alloc _)).mono ?_; rintro e w1 ⟨rfl, hb1⟩
        have hx1 := boxc hb1 0 _ rfl
        go_wp2_with fail
        refine (HCALL.out _ (hv.below hb1.of_alloc)).mono ?_; rintro e w2 ⟨a2, n2, c2, rfl, ho2, hb2⟩
        go_wp2_with fail
        go_ret3
        exact ⟨_, _, _, by rw [E2.out]; rfl, by rw [E2.out]; exact OwnI.nil _ _ _, hb1.of_alloc.step hb2⟩
      | true =>
        have hrl := (hok1 rfl).2
        simp only at hrl
        by_cases hend : re < s.size
        · have E2 := Lib.hid (show readAns ar s = ([], re, false) by rw [E]; simp [readCore, hend])
          have hend2 : (re : Int) < s.size := by omega
          clear E hrd hok1
          go_enter Try.func51, Try.ntmps51
          go_wp2_with fail
          refine (sGoodSign_v _ _ _ _ _ _ HG.out ha (hv.alloc _)).mono ?_; rintro e w1 ⟨rfl, hb1⟩
          have hx1 := boxc hb1 0 _ rfl
          go_wp2_with fail
          refine (HCALL.out _ (hv.below hb1.of_alloc)).mono ?_; rintro e w2 ⟨a2, n2, c2, rfl, ho2, hb2⟩
          go_wp2_with fail
          go_ret3
          exact ⟨_, _, _, by rw [E2.out]; rfl, by rw [E2.out]; exact OwnI.nil _ _ _, hb1.of_alloc.step hb2⟩
        · have E2 := Lib.hid (show readAns ar s = if rt.length ≤ 40 then (rt, re, true) else ([], 0, false) by rw [E]; simp only [readCore]; rw [if_neg (by simp; omega)])
          have hterm := read_term hrd rfl
          simp only at hterm
          have hrt : rt.length ≤ 1048576 := by omega
          have hend2 : (s.size : Int) ≤ re := by omega
          clear E hrd hok1
          cases hk : okTerm ar rt with
          | false =>
            rw [hk] at hterm
            have h40 : ¬ rt.length ≤ 40 := by simpa using hterm.symm
            have E3 := Lib.hid (show readAns ar s = ([], 0, false) by rw [E2.out, if_neg h40])
            have HK := Lib.hid hk
            clear hterm h40 hk
            go_enter Try.func51, Try.ntmps51
            go_wp2_with fail
            refine (sGoodSign_v _ _ _ _ _ _ HG.out ha (hv.alloc _)).mono ?_; rintro e w1 ⟨rfl, hb1⟩
            have hx1 := boxc hb1 0 _ rfl
            go_wp2_with fail
            refine (HCALL.out _ (hv.below hb1.of_alloc)).mono ?_; rintro e w2 ⟨a2, n2, c2, rfl, ho2, hb2⟩
            have hx2 := boxc (hb1.step hb2) 0 _ rfl
            go_wp2_with fail
            refine (l1Term_v _ _ _ _ _ _ ar rt _ _ HK.out HG.out hrt (hv.below (hb1.of_alloc.step hb2)) ho2.sl).mono ?_; rintro e w3 ⟨rfl, hb3⟩
            go_wp2_with fail
            go_ret3
            exact ⟨_, _, _, by rw [E3.out]; rfl, by rw [E3.out]; exact OwnI.nil _ _ _, (hb1.of_alloc.step hb2).step hb3⟩
          | true =>
            rw [hk] at hterm
            have h40 : rt.length ≤ 40 := by simpa using hterm.symm
            have E3 := Lib.hid (show readAns ar s = (rt, re, true) by rw [E2.out, if_pos h40])
            have HK := Lib.hid hk
            clear hterm h40 hk
            go_enter Try.func51, Try.ntmps51
            go_wp2_with fail
            refine (sGoodSign_v _ _ _ _ _ _ HG.out ha (hv.alloc _)).mono ?_; rintro e w1 ⟨rfl, hb1⟩
            have hx1 := boxc hb1 0 _ rfl
            go_wp2_with fail
            refine (HCALL.out _ (hv.below hb1.of_alloc)).mono ?_; rintro e w2 ⟨a2, n2, c2, rfl, ho2, hb2⟩
            have hx2 := boxc (hb1.step hb2) 0 _ rfl
            go_wp2_with fail
            refine (l1Term_v _ _ _ _ _ _ ar rt _ _ HK.out HG.out hrt (hv.below (hb1.of_alloc.step hb2)) ho2.sl).mono ?_; rintro e w3 ⟨rfl, hb3⟩
            go_wp2_with fail
            go_ret3
            exact ⟨_, _, _, by rw [E3.out]; rfl, by rw [E3.out]; exact (ho2.mono (by have := hb1.size; simp at this; omega) hb3.size).below hb3, (hb1.of_alloc.step hb2).step hb3⟩

set_option maxRecDepth 100000 in
theorem iReadTerm_t {l h : Nat} {v : Value} {ar : List Int} {w : World} (ha : ar.length ≤ 1048576) (hv : SlI l h w v ar) {s : ByteArray} (hs : s.size ≤ 1048576) :
    Calls Try.prog 52 #[.agg #[v], .string s] w (RetScan w (readAns ar s)) := by
  have hsz : s.data.toList.length = s.size := by rw [Array.length_toList]; rfl
  cases hg : goodSign ar with
  | false =>
    have E := Lib.hid (read_no (ar := ar) (s := s) (by simp [hg]))
    have HG := Lib.hid hg; clear hg
    go_enter Try.func52, Try.ntmps52
    go_wp2_with fail
    refine (iGoodSign_v _ _ _ _ _ _ HG.out ha (hv.alloc _)).mono ?_; rintro e w1 ⟨rfl, hb1⟩
    go_wp2_with fail
    go_ret3
    exact ⟨_, _, _, by rw [E.out]; rfl, by rw [E.out]; exact OwnI.nil _ _ _, hb1.of_alloc⟩
  | true =>
    by_cases h200 : 200 < s.size
    · have E := Lib.hid (read_no (ar := ar) (s := s) (by omega))
      have HG := Lib.hid hg; clear hg
      go_enter Try.func52, Try.ntmps52
      go_wp2_with fail
      refine (iGoodSign_v _ _ _ _ _ _ HG.out ha (hv.alloc _)).mono ?_; rintro e w1 ⟨rfl, hb1⟩
      go_wp2_with fail
      go_ret3
      exact ⟨_, _, _, by rw [E.out]; rfl, by rw [E.out]; exact OwnI.nil _ _ _, hb1.of_alloc⟩
    · have E := read_yes hg (s := s) (by omega)
      have hok := scanF_ok ar s.data.toList (s.data.toList.length + 1) 0 (Nat.zero_le _)
      have hcall : ∀ w2, SlI l h w2 v ar → Calls Try.prog 80 #[.agg #[v], .string s, .int .i64 0] w2 (RetScan w2 (scanF ar s.data.toList (s.data.toList.length + 1) 0)) := fun w2 h2 => scanTerm_c _ _ v ar s hg hs (s.data.toList.length + 1) 0 w2 (by omega) (by omega) h2
      generalize scanF ar s.data.toList (s.data.toList.length + 1) 0 = r at *
      obtain ⟨rt, re, rb⟩ := r
      rw [ScanOk, hsz] at hok
      obtain ⟨hre, hok1, -⟩ := hok
      simp only at hre
      have HCALL := Lib.hid hcall
      have HG := Lib.hid hg
      clear hcall hsz hg
      cases rb with
      | false =>
        have E2 := Lib.hid (show readAns ar s = ([], re, false) by rw [E]; simp [readCore])
        clear E hok1
        go_enter Try.func52, Try.ntmps52
        go_wp2_with fail
        refine (iGoodSign_v _ _ _ _ _ _ HG.out ha (hv.alloc _)).mono ?_; rintro e w1 ⟨rfl, hb1⟩
        have hx1 := boxc hb1 0 _ rfl
        go_wp2_with fail
        refine (HCALL.out _ (hv.below hb1.of_alloc)).mono ?_; rintro e w2 ⟨a2, n2, c2, rfl, ho2, hb2⟩
        go_wp2_with fail
        go_ret3
        exact ⟨_, _, _, by rw [E2.out]; rfl, by rw [E2.out]; exact OwnI.nil _ _ _, hb1.of_alloc.step hb2⟩
      | true =>
        have hrl := (hok1 rfl).2
        simp only at hrl
        by_cases hend : re < s.size
        · have E2 := Lib.hid (show readAns ar s = ([], re, false) by rw [E]; simp [readCore, hend])
          have hend2 : (re : Int) < s.size := by omega
          clear E hok1
          go_enter Try.func52, Try.ntmps52
          go_wp2_with fail
          refine (iGoodSign_v _ _ _ _ _ _ HG.out ha (hv.alloc _)).mono ?_; rintro e w1 ⟨rfl, hb1⟩
          have hx1 := boxc hb1 0 _ rfl
          go_wp2_with fail
          refine (HCALL.out _ (hv.below hb1.of_alloc)).mono ?_; rintro e w2 ⟨a2, n2, c2, rfl, ho2, hb2⟩
          go_wp2_with fail
          go_ret3
          exact ⟨_, _, _, by rw [E2.out]; rfl, by rw [E2.out]; exact OwnI.nil _ _ _, hb1.of_alloc.step hb2⟩
        · have E2 := Lib.hid (show readAns ar s = if rt.length ≤ 40 then (rt, re, true) else ([], 0, false) by rw [E]; simp only [readCore]; rw [if_neg (by simp; omega)])
          have hend2 : (s.size : Int) ≤ re := by omega
          clear E hok1
          by_cases h40 : rt.length ≤ 40
          · have E3 := Lib.hid (show readAns ar s = (rt, re, true) by rw [E2.out, if_pos h40])
            go_enter Try.func52, Try.ntmps52
            go_wp2_with fail
            refine (iGoodSign_v _ _ _ _ _ _ HG.out ha (hv.alloc _)).mono ?_; rintro e w1 ⟨rfl, hb1⟩
            have hx1 := boxc hb1 0 _ rfl
            go_wp2_with fail
            refine (HCALL.out _ (hv.below hb1.of_alloc)).mono ?_; rintro e w2 ⟨a2, n2, c2, rfl, ho2, hb2⟩
            simp only at ho2
            obtain rfl : n2 = rt.length := by obtain ⟨_, _, e, _⟩ := ho2.1; simp at e; exact e.2.1
            go_wp2_with fail
            go_ret3
            exact ⟨_, _, _, by rw [E3.out]; rfl, by rw [E3.out]; exact ho2.mono (by have := hb1.size; simp at this; omega) (Nat.le_refl _), hb1.of_alloc.step hb2⟩
          · have E3 := Lib.hid (show readAns ar s = ([], 0, false) by rw [E2.out, if_neg h40])
            go_enter Try.func52, Try.ntmps52
            go_wp2_with fail
            refine (iGoodSign_v _ _ _ _ _ _ HG.out ha (hv.alloc _)).mono ?_; rintro e w1 ⟨rfl, hb1⟩
            have hx1 := boxc hb1 0 _ rfl
            go_wp2_with fail
            refine (HCALL.out _ (hv.below hb1.of_alloc)).mono ?_; rintro e w2 ⟨a2, n2, c2, rfl, ho2, hb2⟩
            simp only at ho2
            obtain rfl : n2 = rt.length := by obtain ⟨_, _, e, _⟩ := ho2.1; simp at e; exact e.2.1
            go_wp2_with fail
            go_ret3
            exact ⟨_, _, _, by rw [E3.out]; rfl, by rw [E3.out]; exact OwnI.nil _ _ _, hb1.of_alloc.step hb2⟩
end Go.Proofs.Ytoheedmjakfklaa
