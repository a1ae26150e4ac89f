/- Texts merged, part 11. -/
import Derived.Test.YtcgjdgpdbehikaaProg
import Derived.Ground.NamesProg
import Derived.Shelf.Lay
import Derived.Room.Shelf.Join48
import Derived.KernelRfl
import Derived.Deep.AppendLies
import Derived.Maps.AppendAt
import Derived.Deep.RegionHeldLaw
import Derived.Test.YtcgjdgpdbehikaaMgClauseText10
section
/- Clauses: reading is the reverse of printing. No program but the letters'. -/
namespace Go.Proofs.Ytcgjdgpdbehikaa
open Go.RowKit

abbrev ReadL := List Lt × Nat × Bool
def rdT (ar : List Int) (T : List UInt8) (p : Nat) : Scanned := scanF ar T (T.length + 1) p
/-- What is read from p on, behind the literals acc. -/
def readLits (ar : List Int) (T : List UInt8) : Nat → Nat → List Lt → ReadL
  | 0, p, _ => ([], p, false)
  | f + 1, p, acc =>
    if (rdT ar T p).2.2 = true then
      match T[(rdT ar T p).2.1]? with
      | none => ([], (rdT ar T p).2.1, false)
      | some b =>
        if b = 61 ∨ b = 35 then
          if (rdT ar T ((rdT ar T p).2.1 + 1)).2.2 = true then
            match T[(rdT ar T ((rdT ar T p).2.1 + 1)).2.1]? with
            | none => (acc ++ [(decide (b = 61), (rdT ar T p).1, (rdT ar T ((rdT ar T p).2.1 + 1)).1)], (rdT ar T ((rdT ar T p).2.1 + 1)).2.1, true)
            | some c =>
              if c = 124 then readLits ar T f ((rdT ar T ((rdT ar T p).2.1 + 1)).2.1 + 1) (acc ++ [(decide (b = 61), (rdT ar T p).1, (rdT ar T ((rdT ar T p).2.1 + 1)).1)])
              else ([], (rdT ar T ((rdT ar T p).2.1 + 1)).2.1, false)
          else ([], (rdT ar T ((rdT ar T p).2.1 + 1)).2.1, false)
        else ([], (rdT ar T p).2.1, false)
    else ([], (rdT ar T p).2.1, false)
section
variable {ar : List Int} {T : List UInt8} {f p : Nat} {acc : List Lt}
theorem lits_bad1 (h : (rdT ar T p).2.2 = false) : readLits ar T (f+1) p acc = ([], (rdT ar T p).2.1, false) := by
  unfold readLits; rw [if_neg (by rw [h]; simp)]
theorem lits_end1 (h : (rdT ar T p).2.2 = true) (h1 : T[(rdT ar T p).2.1]? = none) : readLits ar T (f+1) p acc = ([], (rdT ar T p).2.1, false) := by
  unfold readLits; rw [if_pos h]; simp [h1]
theorem lits_sign {b : UInt8} (h : (rdT ar T p).2.2 = true) (h1 : T[(rdT ar T p).2.1]? = some b) (h2 : ¬ (b = 61 ∨ b = 35)) : readLits ar T (f+1) p acc = ([], (rdT ar T p).2.1, false) := by
  unfold readLits; rw [if_pos h]; simp only [h1]; rw [if_neg h2]
theorem lits_bad2 {b : UInt8} (h : (rdT ar T p).2.2 = true) (h1 : T[(rdT ar T p).2.1]? = some b) (h2 : b = 61 ∨ b = 35) (h3 : (rdT ar T ((rdT ar T p).2.1 + 1)).2.2 = false) :
    readLits ar T (f+1) p acc = ([], (rdT ar T ((rdT ar T p).2.1 + 1)).2.1, false) := by
  unfold readLits; rw [if_pos h]; simp only [h1]; rw [if_pos h2, if_neg (by rw [h3]; simp)]
theorem lits_last {b : UInt8} (h : (rdT ar T p).2.2 = true) (h1 : T[(rdT ar T p).2.1]? = some b) (h2 : b = 61 ∨ b = 35) (h3 : (rdT ar T ((rdT ar T p).2.1 + 1)).2.2 = true) (h4 : T[(rdT ar T ((rdT ar T p).2.1 + 1)).2.1]? = none) :
    readLits ar T (f+1) p acc = (acc ++ [(decide (b = 61), (rdT ar T p).1, (rdT ar T ((rdT ar T p).2.1 + 1)).1)], (rdT ar T ((rdT ar T p).2.1 + 1)).2.1, true) := by
  unfold readLits; rw [if_pos h]; simp only [h1]; rw [if_pos h2, if_pos h3]; simp only [h4]
theorem lits_bar {b c : UInt8} (h : (rdT ar T p).2.2 = true) (h1 : T[(rdT ar T p).2.1]? = some b) (h2 : b = 61 ∨ b = 35) (h3 : (rdT ar T ((rdT ar T p).2.1 + 1)).2.2 = true) (h4 : T[(rdT ar T ((rdT ar T p).2.1 + 1)).2.1]? = some c) (h5 : c ≠ 124) :
    readLits ar T (f+1) p acc = ([], (rdT ar T ((rdT ar T p).2.1 + 1)).2.1, false) := by
  unfold readLits; rw [if_pos h]; simp only [h1]; rw [if_pos h2, if_pos h3]; simp only [h4]; rw [if_neg h5]
theorem lits_more {b : UInt8} (h : (rdT ar T p).2.2 = true) (h1 : T[(rdT ar T p).2.1]? = some b) (h2 : b = 61 ∨ b = 35) (h3 : (rdT ar T ((rdT ar T p).2.1 + 1)).2.2 = true) (h4 : T[(rdT ar T ((rdT ar T p).2.1 + 1)).2.1]? = some 124) :
    readLits ar T (f+1) p acc = readLits ar T f ((rdT ar T ((rdT ar T p).2.1 + 1)).2.1 + 1) (acc ++ [(decide (b = 61), (rdT ar T p).1, (rdT ar T ((rdT ar T p).2.1 + 1)).1)]) := by
  conv => lhs; unfold readLits
  rw [if_pos h]; simp only [h1]; rw [if_pos h2, if_pos h3]; simp only [h4]; rw [if_pos trivial]
end

/-- The text of a literal; of literals, a bar ahead of each but the first. -/
def signB (p : Bool) : UInt8 := if p then 61 else 35
def textL (ar : List Int) (x : Lt) : List UInt8 := textAt ar x.2.1 0 ++ signB x.1 :: textAt ar x.2.2 0
def barsL (ar : List Int) (c : List Lt) : List UInt8 := c.flatMap fun x => 124 :: textL ar x
def textC (ar : List Int) : List Lt → List UInt8
  | [] => [45]
  | x :: c => textL ar x ++ barsL ar c
theorem sign_dec (p : Bool) : decide (signB p = 61) = p := by cases p <;> rfl
theorem sign_or (p : Bool) : signB p = 61 ∨ signB p = 35 := by cases p <;> simp [signB]

theorem rd_term {ar : List Int} (hl : ar.length ≤ 10) {T : List UInt8} {p : Nat} {t : List Int} {rest : List UInt8} (ht : okTerm ar t = true) (hd : T.drop p = textAt ar t 0 ++ rest) :
    rdT ar T p = (t, p + (textAt ar t 0).length, true) := by
  have h := Pr.scan hl (T := T) (text_whole ht) (T.length + 1) p rest hd (by
    have := congrArg List.length hd
    rw [List.length_drop, List.length_append] at this
    omega)
  exact h
theorem drop_none {T : List UInt8} {p : Nat} (h : T.drop p = []) : T[p]? = none := by
  rw [List.getElem?_eq_none_iff]
  have := List.drop_eq_nil_iff.1 h
  exact this
/-- Printed literals are read back. -/
theorem lits_text {ar : List Int} (hl : ar.length ≤ 10) {T : List UInt8} : ∀ (c : List Lt) (x : Lt) (f p : Nat) (acc : List Lt), okLit ar x = true → (∀ y ∈ c, okLit ar y = true) → T.drop p = textL ar x ++ barsL ar c → c.length < f → p ≤ T.length →
    readLits ar T f p acc = (acc ++ x :: c, T.length, true) := by
  intro c
  induction c with
  | nil =>
    intro x f p acc hx _ hd hf hp
    obtain ⟨f, rfl⟩ : ∃ f', f = f' + 1 := ⟨f - 1, by simp at hf; omega⟩
    obtain ⟨o1, o2⟩ := okLit_iff.1 hx
    have hd' : T.drop p = textAt ar x.2.1 0 ++ (signB x.1 :: (textAt ar x.2.2 0 ++ [])) := by rw [hd]; simp [textL, barsL]
    have r1 := rd_term hl o1 hd'
    obtain ⟨g1, g2⟩ := drop_at (drop_to hd')
    have r2 := rd_term hl o2 g2
    have g3 := drop_to g2
    have h1 : (rdT ar T p).2.1 = p + (textAt ar x.2.1 0).length := by rw [r1]
    have hlen := congrArg List.length hd'
    rw [List.length_drop] at hlen
    simp at hlen
    rw [lits_last (b := signB x.1) (by rw [r1]) (by rw [h1]; exact g1) (sign_or _) (by rw [h1, r2]) (by rw [h1, r2]; exact drop_none g3), h1, r2, r1, sign_dec]
    simp only [Prod.mk.injEq, and_true, true_and]
    omega
  | cons y c ih =>
    intro x f p acc hx hc hd hf hp
    obtain ⟨f, rfl⟩ : ∃ f', f = f' + 1 := ⟨f - 1, by simp at hf; omega⟩
    obtain ⟨o1, o2⟩ := okLit_iff.1 hx
    have hd' : T.drop p = textAt ar x.2.1 0 ++ (signB x.1 :: (textAt ar x.2.2 0 ++ (124 :: (textL ar y ++ barsL ar c)))) := by rw [hd]; simp [textL, barsL]
    have r1 := rd_term hl o1 hd'
    obtain ⟨g1, g2⟩ := drop_at (drop_to hd')
    have r2 := rd_term hl o2 g2
    obtain ⟨g3, g4⟩ := drop_at (drop_to g2)
    have h1 : (rdT ar T p).2.1 = p + (textAt ar x.2.1 0).length := by rw [r1]
    have hlt := (List.getElem?_eq_some_iff.1 g3).1
    rw [lits_more (b := signB x.1) (by rw [r1]) (by rw [h1]; exact g1) (sign_or _) (by rw [h1, r2]) (by rw [h1, r2]; exact g3), h1, r2, r1, sign_dec]
    rw [ih y f _ _ (hc y List.mem_cons_self) (fun z hz => hc z (List.mem_cons_of_mem _ hz)) g4 (by simp at hf; omega) (by omega)]
    simp

/-- Literals that were read: what was read is their text, if they are valid. -/
theorem lits_back {ar : List Int} (hl : ar.length ≤ 10) {T : List UInt8} : ∀ (f p q : Nat) (acc c : List Lt), p ≤ T.length → readLits ar T f p acc = (c, q, true) →
    ∃ x d, c = acc ++ x :: d ∧ q = T.length ∧ (okLit ar x = true → (∀ y ∈ d, okLit ar y = true) → T.drop p = textL ar x ++ barsL ar d) := by
  intro f
  induction f with
  | zero => intro p q acc c _ h; simp [readLits] at h
  | succ f ih =>
    intro p q acc c hp h
    cases e1 : (rdT ar T p).2.2 with
    | false => rw [lits_bad1 e1] at h; simp at h
    | true =>
      obtain ⟨l1, p1, d1, q1⟩ := scan_back hl _ _ _ _ (show scanF ar T (T.length + 1) p = ((rdT ar T p).1, (rdT ar T p).2.1, true) by rw [← e1]; rfl)
      cases e2 : T[(rdT ar T p).2.1]? with
      | none => rw [lits_end1 e1 e2] at h; simp at h
      | some b =>
        by_cases hb : b = 61 ∨ b = 35
        · have hlt1 := (List.getElem?_eq_some_iff.1 e2).1
          cases e3 : (rdT ar T ((rdT ar T p).2.1 + 1)).2.2 with
          | false => rw [lits_bad2 e1 e2 hb e3] at h; simp at h
          | true =>
            obtain ⟨l2, p2, d2, q2⟩ := scan_back hl _ _ _ _ (show scanF ar T (T.length + 1) ((rdT ar T p).2.1 + 1) = ((rdT ar T ((rdT ar T p).2.1 + 1)).1, (rdT ar T ((rdT ar T p).2.1 + 1)).2.1, true) by rw [← e3]; rfl)
            have hok := (scanF_ok ar T (T.length + 1) ((rdT ar T p).2.1 + 1) (by omega)).1
            have hle : (rdT ar T ((rdT ar T p).2.1 + 1)).2.1 ≤ T.length := hok
            have hsig : signB (decide (b = 61)) = b := by
              rcases hb with rfl | rfl
              · rfl
              · rfl
            have hd : T.drop p = l1 ++ (b :: (l2 ++ T.drop (rdT ar T ((rdT ar T p).2.1 + 1)).2.1)) := by
              rw [d1, List.drop_eq_getElem_cons hlt1, ← d2]
              obtain ⟨_, hv⟩ := List.getElem?_eq_some_iff.1 e2
              rw [hv]
            cases e4 : T[(rdT ar T ((rdT ar T p).2.1 + 1)).2.1]? with
            | none =>
              rw [lits_last e1 e2 hb e3 e4] at h
              simp only [Prod.mk.injEq, and_true] at h
              obtain ⟨rfl, rfl⟩ := h
              have hq : (rdT ar T ((rdT ar T p).2.1 + 1)).2.1 = T.length := by
                have := List.getElem?_eq_none_iff.1 e4
                omega
              refine ⟨_, [], rfl, hq, fun hx _ => ?_⟩
              obtain ⟨o1, o2⟩ := okLit_iff.1 hx
              rw [hd, hq, List.drop_length]
              show _ = (textAt ar _ 0 ++ signB _ :: textAt ar _ 0) ++ []
              rw [(text_whole o1).det p1 rfl, (text_whole o2).det p2 rfl, hsig]
              simp
            | some e =>
              by_cases he : e = 124
              · subst he
                have hlt2 := (List.getElem?_eq_some_iff.1 e4).1
                rw [lits_more e1 e2 hb e3 e4] at h
                obtain ⟨y, d, rfl, hq, hback⟩ := ih _ _ _ _ (by omega) h
                refine ⟨(decide (b = 61), (rdT ar T p).1, (rdT ar T ((rdT ar T p).2.1 + 1)).1), y :: d, by simp, hq, fun hx hc => ?_⟩
                obtain ⟨o1, o2⟩ := okLit_iff.1 hx
                have h3 := hback (hc y List.mem_cons_self) (fun z hz => hc z (List.mem_cons_of_mem _ hz))
                obtain ⟨_, hv⟩ := List.getElem?_eq_some_iff.1 e4
                rw [hd, List.drop_eq_getElem_cons hlt2, hv, h3]
                show _ = (textAt ar _ 0 ++ signB _ :: textAt ar _ 0) ++ ((124 :: textL ar y) ++ barsL ar d)
                rw [(text_whole o1).det p1 rfl, (text_whole o2).det p2 rfl, hsig]
                simp
              · rw [lits_bar e1 e2 hb e3 e4 he] at h; simp at h
        · rw [lits_sign e1 e2 hb] at h; simp at h

/-- A text begins with a letter, not with '-'. -/
theorem pr_head {ar : List Int} (hl : ar.length ≤ 10) {y : List Int} {l : List UInt8} (h : Pr ar none y l) : ∃ n r, l = letter n :: r ∧ okSym ar n = true := by
  cases h with
  | leaf n h1 _ => exact ⟨n, [], rfl, h1⟩
  | node n ys ls h1 _ _ => exact ⟨n, ls ++ [41], rfl, h1⟩
theorem letter_dash {ar : List Int} (hl : ar.length ≤ 10) {n : Int} (h : okSym ar n = true) : letter n ≠ 45 := by
  intro e
  unfold okSym inB at h
  simp at h
  have e2 := congrArg UInt8.toNat e
  by_cases hn : n < 0
  · obtain ⟨k, rfl⟩ : ∃ k : Nat, n = -1 - (k : Int) := ⟨(-1 - n).toNat, by omega⟩
    rw [let_neg k (by omega)] at e2
    have : (45 : UInt8).toNat = 45 := rfl
    omega
  · obtain ⟨k, rfl⟩ : ∃ k : Nat, n = (k : Int) := ⟨n.toNat, by omega⟩
    rw [let_pos k (by omega)] at e2
    have : (45 : UInt8).toNat = 45 := rfl
    omega

/-- What is read of a whole text; what ReadClause answers; what ClauseText does. -/
def readT (ar : List Int) (T : List UInt8) : ReadL := if T = [45] then ([], 1, true) else if T[0]? = some 45 then ([], 1, false) else readLits ar T (T.length + 1) 0 []
def readClAns (ar : List Int) (s : ByteArray) : ReadL :=
  if goodSign ar = true ∧ s.size ≤ 1000 then
    if (readT ar s.data.toList).2.2 = true then (if okLits ar (readT ar s.data.toList).1 = true then readT ar s.data.toList else ([], 0, false)) else ([], (readT ar s.data.toList).2.1, false)
  else ([], 0, false)
def textClA (ar : List Int) (c : List Lt) : ByteArray := if goodClause ar c then ⟨(textC ar c).toArray⟩ else ⟨#[]⟩
theorem textClA_yes {ar : List Int} {c : List Lt} (h : goodClause ar c = true) : textClA ar c = ⟨(textC ar c).toArray⟩ := by simp [textClA, h]
theorem textL_len (ar : List Int) (x : Lt) : 0 < (textL ar x).length := by simp [textL]; omega
theorem barsL_len (ar : List Int) (c : List Lt) : c.length ≤ (barsL ar c).length := by
  induction c with
  | nil => simp
  | cons x c ih => show c.length + 1 ≤ ((124 :: textL ar x) ++ barsL ar c).length; simp; omega
theorem readCl_text {ar : List Int} {c : List Lt} (h : goodClause ar c = true) (hl : (textClA ar c).size ≤ 1000) : readClAns ar (textClA ar c) = (c, (textClA ar c).size, true) := by
  obtain ⟨hg, h8, hc⟩ := goodClause_iff.1 h
  have hlen := (sign_len ar hg).2
  have hd : (textClA ar c).data.toList = textC ar c := by rw [textClA_yes h]
  have hsz : (textClA ar c).size = (textC ar c).length := by rw [ba_size, hd]
  have hok : okLits ar c = true := okLits_iff.2 ⟨h8, hc⟩
  have hr : readT ar (textC ar c) = (c, (textC ar c).length, true) := by
    cases c with
    | nil => rfl
    | cons x c =>
      have hx := hc x List.mem_cons_self
      obtain ⟨n, r, e, hn⟩ := pr_head hlen (text_whole (okLit_iff.1 hx).1)
      have hne := letter_dash hlen hn
      have h0 : (textC ar (x :: c))[0]? = some (letter n) := by show ((textAt ar x.2.1 0 ++ _) ++ _)[0]? = _; rw [e]; rfl
      unfold readT
      rw [if_neg (by intro e2; rw [e2] at h0; simp at h0; exact hne h0.symm), if_neg (by rw [h0]; simpa using hne)]
      have hbl := barsL_len ar c
      have := lits_text hlen (T := textC ar (x :: c)) c x ((textC ar (x :: c)).length + 1) 0 [] hx (fun y hy => hc y (List.mem_cons_of_mem _ hy)) rfl (by show _ < (textL ar x ++ barsL ar c).length + 1; simp; omega) (Nat.zero_le _)
      rw [this]
      simp
  unfold readClAns
  rw [if_pos ⟨hg, hl⟩, hd, hr, hsz]
  simp [hok]
theorem text_readCl {ar : List Int} {s : ByteArray} (h : (readClAns ar s).2.2 = true) : goodClause ar (readClAns ar s).1 = true ∧ textClA ar (readClAns ar s).1 = s := by
  by_cases hc : goodSign ar = true ∧ s.size ≤ 1000
  · obtain ⟨hg, hl⟩ := hc
    have hlen := (sign_len ar hg).2
    unfold readClAns at h ⊢
    rw [if_pos ⟨hg, hl⟩] at h ⊢
    generalize hT : s.data.toList = T at *
    by_cases e1 : (readT ar T).2.2 = true
    · rw [if_pos e1] at h ⊢
      by_cases e2 : okLits ar (readT ar T).1 = true
      · rw [if_pos e2]
        have hgc : goodClause ar (readT ar T).1 = true := by unfold goodClause; rw [hg, e2]; rfl
        refine ⟨hgc, ?_⟩
        have hs : s = ⟨T.toArray⟩ := by rw [← hT]
        rw [textClA_yes hgc, hs]
        congr 2
        unfold readT at e1 e2 ⊢
        by_cases c1 : T = [45]
        · rw [if_pos c1]; exact c1.symm
        · rw [if_neg c1] at e1 e2 ⊢
          by_cases c2 : T[0]? = some 45
          · rw [if_pos c2] at e1; simp at e1
          · rw [if_neg c2] at e1 e2 ⊢
            obtain ⟨x, d, hcd, _, hb⟩ := lits_back hlen (T := T) (T.length + 1) 0 _ [] _ (Nat.zero_le _) (show readLits ar T (T.length + 1) 0 [] = ((readLits ar T (T.length + 1) 0 []).1, (readLits ar T (T.length + 1) 0 []).2.1, true) by rw [← e1])
            rw [hcd] at e2 ⊢
            simp only [List.nil_append] at e2 ⊢
            have hall := (okLits_iff.1 e2).2
            have := hb (hall x List.mem_cons_self) (fun y hy => hall y (List.mem_cons_of_mem _ hy))
            rw [List.drop_zero] at this
            exact this.symm
      · rw [if_neg e2] at h; simp at h
    · rw [if_neg e1] at h; simp at h
  · unfold readClAns at h
    rw [if_neg hc] at h; simp at h
end Go.Proofs.Ytcgjdgpdbehikaa
end
section
/- Chapter 4, the reference: ClauseText. -/
namespace Go.Proofs.Ytcgjdgpdbehikaa
open Go.RowKit

theorem barsL_app (ar : List Int) (c d : List Lt) : barsL ar (c ++ d) = barsL ar c ++ barsL ar d := by simp [barsL]
theorem textC_snoc (ar : List Int) {c : List Lt} (h : c ≠ []) (x : Lt) : textC ar (c ++ [x]) = textC ar c ++ 124 :: textL ar x := by
  cases c with
  | nil => exact absurd rfl h
  | cons y r => simp only [List.cons_append, textC, barsL_app, List.append_assoc]; simp [barsL]
/-- What is written behind k literals. -/
def accL (ar : List Int) (c : List Lt) (k : Nat) : List UInt8 := if k = 0 then [] else textC ar (c.take k)
theorem accL_succ (ar : List Int) (c : List Lt) (k : Nat) (h : k < c.length) : accL ar c (k+1) = (if k = 0 then [] else accL ar c k ++ [124]) ++ textL ar (c.getD k lt0) := by
  unfold accL
  rw [if_neg (by omega), List.take_succ_eq_append_getElem h]
  have e : c.getD k lt0 = c[k] := by simp [List.getD, h]
  rw [e]
  by_cases hk : k = 0
  · subst hk; simp [textC, barsL]
  · rw [if_neg hk, if_neg hk, textC_snoc ar (by intro h2; have := congrArg List.length h2; rw [List.length_take, List.length_nil] at this; omega)]
    simp
theorem textL_le {ar : List Int} {x : Lt} (h : okLit ar x = true) : (textAt ar x.2.1 0).length ≤ 120 ∧ (textAt ar x.2.2 0).length ≤ 120 := by
  obtain ⟨h1, h2⟩ := okLit_iff.1 h
  exact ⟨textAt_le ar _ h1 0 (by have := (okTerm_len h1).1; omega), textAt_le ar _ h2 0 (by have := (okTerm_len h2).1; omega)⟩
theorem accL_le {ar : List Int} {c : List Lt} (hok : ∀ x ∈ c, okLit ar x = true) : ∀ k, k ≤ c.length → (accL ar c k).length ≤ 250 * k := by
  intro k
  induction k with
  | zero => intro _; simp [accL]
  | succ k ih =>
    intro hk
    have := ih (by omega)
    obtain ⟨l1, l2⟩ := textL_le (hok _ (mem_getD c lt0 k (by omega)))
    rw [accL_succ ar c k (by omega), List.length_append]
    have : (textL ar (c.getD k lt0)).length ≤ 241 := by unfold textL; simp only [List.length_append, List.length_cons]; omega
    split
    · simp only [List.length_nil]; omega
    · simp only [List.length_append, List.length_cons, List.length_nil]; omega
theorem accL_all (ar : List Int) (c : List Lt) (h : c.length ≠ 0) : accL ar c c.length = textC ar c := by unfold accL; rw [if_neg h, List.take_length]

set_option maxRecDepth 100000 in
set_option maxHeartbeats 4000000 in
theorem l4Text_c (l h l' h' : Nat) (v u : Value) (ar : List Int) (c : List Lt) (w : World) (hg : goodSign ar = true) (h8 : c.length ≤ 8) (hok : ∀ x ∈ c, okLit ar x = true) (hv : SlI l h w v ar) (hu : SlC l' h' w u c) :
    Calls Try.prog 15 #[.agg #[v], u] w (RetT w (textC ar c)) := by
  obtain ⟨ad, cap, rfl⟩ := hu.form
  by_cases h0 : c.length = 0
  · have hc : c = [] := List.length_eq_zero_iff.1 h0
    subst hc
    clear h0
    go_enter Try.func15, Try.ntmps15
    go_wp2_with fail
    go_ret
    exact ⟨_, rfl, rfl, Bel.alloc0 _ _⟩
  · have hne : ((c.length : Int) == 0) = false := beq_eq_false_iff_ne.2 (by omega)
    have E8 := Lib.hid (accL_all ar c h0)
    go_enter Try.func15, Try.ntmps15
    go_wp2_with fail
    go_loopw [5, 13] (fun o i wr => ∃ (k : Nat) (A : ByteArray), k ≤ c.length ∧ i = .int .i64 k ∧ o = .string A ∧ A.data.toList = accL ar c k ∧ Bel (w.alloc (.cells #[v] 30)) wr) (fun _ i _ => c.length - (intOf i).toNat)
    case atStart => exact ⟨0, ⟨#[]⟩, Nat.zero_le _, rfl, rfl, rfl, Bel.rfl' _⟩
    case round =>
      obtain ⟨k, A, hk, rfl, rfl, hA, hb⟩ := hrel
      have hAs : A.size ≤ 250 * k := by rw [ba_size, hA]; exact accL_le hok k hk
      by_cases hlt : k < c.length
      · obtain ⟨b, off, u1, u2, rfl, hbs, c1, c2, c3, s1, s2⟩ := hu.at hb.of_alloc k hlt
        have hbox := boxc hb 0 _ rfl
        obtain ⟨o1, o2⟩ := okLit_iff.1 (hok _ (mem_getD c lt0 k hlt))
        obtain ⟨hL1, hL2⟩ := textL_le (hok _ (mem_getD c lt0 k hlt))
        have ES := Lib.hid (accL_succ ar c k hlt)
        have hin1 : (k : Int) < c.length := by omega
        obtain ⟨p1, p2⟩ := okTerm_len o1
        obtain ⟨p3, p4⟩ := okTerm_len o2
        generalize c.getD k lt0 = x at *
        obtain ⟨p, xl, xr⟩ := x
        simp only at *
        obtain ⟨a1, d1, rfl⟩ := s1.form
        obtain ⟨a2, d2, rfl⟩ := s2.form
        have hboxA := boxc (hb.alloc (.cells #[.bool p, .slice a1 xl.length d1, .slice a2 xr.length d2] 44)) 0 _ rfl
        have HL := Lib.hid (fun (w' : World) (hq : Bel (w.alloc (.cells #[v] 30)) w') (hq2 : Bel wr w') => l1TermText_c l h _ _ v _ ar xl hg o1 xl.length 0 w' (by omega) (by omega) (hv.below hq.of_alloc) (s1.below hq2))
        have HR := Lib.hid (fun (w' : World) (hq : Bel (w.alloc (.cells #[v] 30)) w') (hq2 : Bel wr w') => l1TermText_c l h _ _ v _ ar xr hg o2 xr.length 0 w' (by omega) (by omega) (hv.below hq.of_alloc) (s2.below hq2))
        have HK : Hid (∀ w', Bel (wr.alloc (.cells #[.bool p, .slice a1 xl.length d1, .slice a2 xr.length d2] 44)) w' → w'.cell? ⟨wr.heap.size, 0, none⟩ = some (.bool p) ∧ w'.cell? ⟨wr.heap.size, 1, none⟩ = some (.slice a1 xl.length d1) ∧ w'.cell? ⟨wr.heap.size, 2, none⟩ = some (.slice a2 xr.length d2)) := fun w' hb => ⟨boxc hb 0 _ rfl, boxc hb 1 _ rfl, boxc hb 2 _ rfl⟩
        have HAA := Lib.hid hA
        clear s1 s2 hA hu hok hv
        by_cases hk0 : k = 0
        · have hkp : ¬ (0 : Int) < k := by omega
          have ES : Hid (accL ar c (k+1) = textL ar (p, xl, xr)) := by show _ = _; rw [ES.out, if_pos hk0]; rfl
          have HK0 := Lib.hid hk0
          clear hk0
          cases p with
          | true =>
            go_wp2_with fail
            refine (HL.out _ (hb.alloc _) (Bel.alloc0 _ _)).mono ?_; rintro e w2 ⟨B, rfl, hB, hb2⟩
            have hBs : B.size ≤ 120 := by rw [ba_size, hB]; exact hL1
            have HB := Lib.hid hB; clear hB
            obtain ⟨x0, x1, x2⟩ := HK.out _ hb2
            have hbox2 := hb2.at (World.block_lt_of_cell? _ ⟨_, _, none⟩ hboxA) hboxA
            go_wp2_with fail
            refine (HR.out _ ((hb.alloc _).step hb2) ((Bel.alloc0 _ _).step hb2)).mono ?_; rintro e w3 ⟨C, rfl, hC, hb3⟩
            have hCs : C.size ≤ 120 := by rw [ba_size, hC]; exact hL2
            have HC := Lib.hid hC; clear hC
            go_wp2_with fail
            go_roundw
            case rel => exact ⟨k + 1, _, by omega, by go_num, rfl, by rw [ES.out]; simp only [ba_app, HAA.out, HB.out, HC.out, textL, signB, HK0.out]; simp [accL], ((hb.alloc _).step hb2).step hb3⟩
            case measure => simp [intOf]; omega
          | false =>
            go_wp2_with fail
            refine (HL.out _ (hb.alloc _) (Bel.alloc0 _ _)).mono ?_; rintro e w2 ⟨B, rfl, hB, hb2⟩
            have hBs : B.size ≤ 120 := by rw [ba_size, hB]; exact hL1
            have HB := Lib.hid hB; clear hB
            obtain ⟨x0, x1, x2⟩ := HK.out _ hb2
            have hbox2 := hb2.at (World.block_lt_of_cell? _ ⟨_, _, none⟩ hboxA) hboxA
            go_wp2_with fail
            refine (HR.out _ ((hb.alloc _).step hb2) ((Bel.alloc0 _ _).step hb2)).mono ?_; rintro e w3 ⟨C, rfl, hC, hb3⟩
            have hCs : C.size ≤ 120 := by rw [ba_size, hC]; exact hL2
            have HC := Lib.hid hC; clear hC
            go_wp2_with fail
            go_roundw
            case rel => exact ⟨k + 1, _, by omega, by go_num, rfl, by rw [ES.out]; simp only [ba_app, HAA.out, HB.out, HC.out, textL, signB, HK0.out]; simp [accL], ((hb.alloc _).step hb2).step hb3⟩
            case measure => simp [intOf]; omega
        · have hkp : (0 : Int) < k := by omega
          have ES : Hid (accL ar c (k+1) = accL ar c k ++ [124] ++ textL ar (p, xl, xr)) := by show _ = _; rw [ES.out, if_neg hk0]
          clear hk0
          cases p with
          | true =>
            go_wp2_with fail
            refine (HL.out _ (hb.alloc _) (Bel.alloc0 _ _)).mono ?_; rintro e w2 ⟨B, rfl, hB, hb2⟩
            have hBs : B.size ≤ 120 := by rw [ba_size, hB]; exact hL1
            have HB := Lib.hid hB; clear hB
            obtain ⟨x0, x1, x2⟩ := HK.out _ hb2
            have hbox2 := hb2.at (World.block_lt_of_cell? _ ⟨_, _, none⟩ hboxA) hboxA
            go_wp2_with fail
            refine (HR.out _ ((hb.alloc _).step hb2) ((Bel.alloc0 _ _).step hb2)).mono ?_; rintro e w3 ⟨C, rfl, hC, hb3⟩
            have hCs : C.size ≤ 120 := by rw [ba_size, hC]; exact hL2
            have HC := Lib.hid hC; clear hC
            go_wp2_with fail
            go_roundw
            case rel => exact ⟨k + 1, _, by omega, by go_num, rfl, by rw [ES.out]; simp only [ba_app, HAA.out, HB.out, HC.out, textL, signB]; simp, ((hb.alloc _).step hb2).step hb3⟩
            case measure => simp [intOf]; omega
          | false =>
            go_wp2_with fail
            refine (HL.out _ (hb.alloc _) (Bel.alloc0 _ _)).mono ?_; rintro e w2 ⟨B, rfl, hB, hb2⟩
            have hBs : B.size ≤ 120 := by rw [ba_size, hB]; exact hL1
            have HB := Lib.hid hB; clear hB
            obtain ⟨x0, x1, x2⟩ := HK.out _ hb2
            have hbox2 := hb2.at (World.block_lt_of_cell? _ ⟨_, _, none⟩ hboxA) hboxA
            go_wp2_with fail
            refine (HR.out _ ((hb.alloc _).step hb2) ((Bel.alloc0 _ _).step hb2)).mono ?_; rintro e w3 ⟨C, rfl, hC, hb3⟩
            have hCs : C.size ≤ 120 := by rw [ba_size, hC]; exact hL2
            have HC := Lib.hid hC; clear hC
            go_wp2_with fail
            go_roundw
            case rel => exact ⟨k + 1, _, by omega, by go_num, rfl, by rw [ES.out]; simp only [ba_app, HAA.out, HB.out, HC.out, textL, signB]; simp, ((hb.alloc _).step hb2).step hb3⟩
            case measure => simp [intOf]; omega
      · have hkc : k = c.length := by omega
        have E : Hid (A.data.toList = textC ar c) := by show _ = _; rw [hA, hkc]; exact E8.out
        clear hA hu hv hok
        go_wp2_with fail
        go_ret
        exact ⟨A, rfl, E.out, hb.of_alloc⟩

theorem ba_mk {A : ByteArray} {l : List UInt8} (h : A.data.toList = l) : A = ⟨l.toArray⟩ := by subst h; cases A; simp
set_option maxRecDepth 100000 in
set_option maxHeartbeats 400000 in
theorem sClauseText_t {l h l' h' : Nat} {v u : Value} {ar : List Int} {c : List Lt} {w : World} (ha : ar.length ≤ 1048576) (hv : SlI l h w v ar) (hc : sumC c ≤ 1048576) (hu : SlC l' h' w u c) :
    Calls Try.prog 6 #[.agg #[v], u] w (RetV w (.tuple #[.string (textClA ar c), .bool (goodClause ar c)])) := by
  unfold textClA
  cases hg : goodClause ar c with
  | false =>
    rw [if_neg (by simp)]
    have HG := Lib.hid hg; clear hg
    go_enter Try.func6, Try.ntmps6
    go_wp2_with fail
    refine (sGoodClause_v HG.out ha (hv.alloc _) hc (hu.alloc _)).mono ?_; rintro e w1 ⟨rfl, hb1⟩
    go_wp2_with fail
    go_ret2
    exact ⟨rfl, hb1.of_alloc⟩
  | true =>
    rw [if_pos rfl]
    obtain ⟨g1, g2, g3⟩ := goodClause_iff.1 hg
    have HC := Lib.hid (fun (w' : World) (hb : Bel w w') => l4Text_c l h l' h' v u ar c w' g1 g2 g3 (hv.below hb) (hu.below hb))
    have HG := Lib.hid hg; clear hg g1 g2 g3
    generalize textC ar c = T at *
    go_enter Try.func6, Try.ntmps6
    go_wp2_with fail
    refine (sGoodClause_v HG.out ha (hv.alloc _) hc (hu.alloc _)).mono ?_; rintro e w1 ⟨rfl, hb1⟩
    have hbox := boxc hb1 0 _ rfl
    clear hc
    go_wp2_with fail
    refine (HC.out _ hb1.of_alloc).mono ?_; rintro e w2 ⟨A, rfl, hA, hb2⟩
    rw [← ba_mk hA]
    go_wp2_with fail
    go_ret2
    exact ⟨by rw [← ba_mk hA]; rfl, hb1.of_alloc.step hb2⟩
end Go.Proofs.Ytcgjdgpdbehikaa
end
section
/- strings.Join off the shelf: the library's contract laid at this program (which functions and types stand for which). -/
namespace Go.Proofs.Ytcgjdgpdbehikaa
open Go.Shelf Go.RowKit

def laysJoin_ren : Go.Shelf.Ren := ⟨fun | 156 => 28 | 165 => 38 | 166 => 39 | 169 => 40 | 240 => 44 | 241 => 45 | 276 => 46 | 277 => 47 | n => n, fun | 31 => 53 | 9 => 9 | 3 => 3 | 4 => 4 | 0 => 0 | 20 => 20 | 72 => 64 | 76 => 68 | 70 => 62 | 37 => 58 | 75 => 67 | 127 => 74 | 164 => 75 | 5 => 5 | 80 => 70 | n => n, fun n => n⟩
set_option maxRecDepth 100000 in
theorem laysJoin : Lays.n156 Try.prog laysJoin_ren := {
  mixed := by kernel_rfl
  f156 := Try.func28.trans (congrArg some (by kernel_rfl))
  f165 := Try.func38.trans (congrArg some (by kernel_rfl))
  f166 := Try.func39.trans (congrArg some (by kernel_rfl))
  f169 := Try.func40.trans (congrArg some (by kernel_rfl))
  f240 := Try.func44.trans (congrArg some (by kernel_rfl))
  f241 := Try.func45.trans (congrArg some (by kernel_rfl))
  f276 := Try.func46.trans (congrArg some (by kernel_rfl))
  f277 := Try.func47.trans (congrArg some (by kernel_rfl))
  t0 := Try.underlying0
  a0 := fun w => by kernel_rfl
  z0 := fun w => by kernel_rfl
  v0 := fun w => by kernel_rfl
  t3 := Try.underlying3
  a3 := fun w => by kernel_rfl
  z3 := fun w => by kernel_rfl
  v3 := fun w => by kernel_rfl
  t4 := Try.underlying4
  a4 := fun w => by kernel_rfl
  z4 := fun w => by kernel_rfl
  v4 := fun w => by kernel_rfl
  t9 := Try.underlying9
  a9 := fun w => by kernel_rfl
  z9 := fun w => by kernel_rfl
  v9 := fun w => by kernel_rfl
  t20 := Try.underlying20
  a20 := fun w => by kernel_rfl
  z20 := fun w => by kernel_rfl
  v20 := fun w => by kernel_rfl
  t31 := Try.underlying53
  a31 := fun w => by kernel_rfl
  z31 := fun w => by kernel_rfl
  v31 := fun w => by kernel_rfl
  t37 := Try.underlying58
  a37 := fun w => by kernel_rfl
  z37 := fun w => by kernel_rfl
  v37 := fun w => by kernel_rfl
  t70 := Try.underlying62
  a70 := fun w => by kernel_rfl
  z70 := fun w => by kernel_rfl
  v70 := fun w => by kernel_rfl
  t72 := Try.underlying64
  a72 := fun w => by kernel_rfl
  z72 := fun w => by kernel_rfl
  v72 := fun w => by kernel_rfl
  t75 := Try.underlying67
  a75 := fun w => by kernel_rfl
  z75 := fun w => by kernel_rfl
  v75 := fun w => by kernel_rfl
  t76 := Try.underlying68
  a76 := fun w => by kernel_rfl
  z76 := fun w => by kernel_rfl
  v76 := fun w => by kernel_rfl
  t127 := Try.underlying74
  a127 := fun w => by kernel_rfl
  z127 := fun w => by kernel_rfl
  v127 := fun w => by kernel_rfl
  t164 := Try.underlying75
  a164 := fun w => by kernel_rfl
  z164 := fun w => by kernel_rfl
  v164 := fun w => by kernel_rfl
}
theorem extraJ : Builder.Extra Try.prog laysJoin_ren where
  sizeBuilder := by kernel_rfl
  liesBuilder := by kernel_rfl
  t5 := by kernel_rfl
  a5 := by intro w; first | kernel_rfl | rfl | (simp [go_sem]; done)
  z5 := by intro w; first | kernel_rfl | rfl | (simp [go_sem]; done)
  v5 := by intro w; first | kernel_rfl | rfl | (simp [go_sem]; done)
  infoByte := by kernel_rfl
  cellsByte := by kernel_rfl
  sizeByte := by kernel_rfl
  neB5 := by decide
end Go.Proofs.Ytcgjdgpdbehikaa
end
section
/- The laws' helpers over literals, by contracts: copies, comparisons. -/
namespace Go.Proofs.Ytcgjdgpdbehikaa
open Go.RowKit

/-- A literal of the call's own: its two terms in two ranges. -/
def RetL (w : World) (x : Lt) (e : Ending) (w' : World) : Prop :=
  ∃ a1 n1 c1 a2 n2 c2 m, e = .returned (.agg #[.bool x.1, .slice a1 n1 c1, .slice a2 n2 c2]) ∧ w.heap.size ≤ m ∧ m ≤ w'.heap.size ∧ OwnI w.heap.size m w' (.slice a1 n1 c1) x.2.1 ∧ OwnI m w'.heap.size w' (.slice a2 n2 c2) x.2.2 ∧ Bel w w'

set_option maxRecDepth 100000 in
set_option maxHeartbeats 400000 in
theorem eqLit_same (l h l' h' : Nat) (p : Bool) (u1 u2 q1 q2 : Value) (xl xr : List Int) (w : World) (hl : xl.length ≤ 1048576) (hr : xr.length ≤ 1048576) (a1 : SlI l h w u1 xl) (a2 : SlI l h w u2 xr) (b1 : SlI l' h' w q1 xl) (b2 : SlI l' h' w q2 xr) :
    Calls Try.prog 21 #[.agg #[.bool p, u1, u2], .agg #[.bool p, q1, q2]] w (RetV w (.bool true)) := by
  have HB : Bel w ((w.alloc (.cells #[.bool p, u1, u2] 44)).alloc (.cells #[.bool p, q1, q2] 44)) := Bel.alloc2 _ _ _
  have HC := Lib.hid (fun (w' : World) (hb : Bel w w') => eqIntS_same l h l' h' u1 q1 xl w' hl (a1.below hb) (b1.below hb))
  have HD := Lib.hid (fun (w' : World) (hb : Bel w w') => eqIntS_same l h l' h' u2 q2 xr w' hr (a2.below hb) (b2.below hb))
  clear a1 a2 b1 b2
  go_enter Try.func21, Try.ntmps21
  go_wp2_with fail
  refine (HC.out _ HB).mono ?_; rintro e w1 ⟨rfl, hb1⟩
  have ka := hb1.at (b := w.heap.size) (off := 2) (by simp; omega) (show World.cell? _ _ = some u2 by simp [go_sem])
  have kb := hb1.at (b := w.heap.size + 1) (off := 2) (by simp) (show World.cell? _ _ = some q2 by simp [go_sem])
  have HB1 := HB.step hb1
  go_wp2_with fail
  refine (HD.out _ HB1).mono ?_; rintro e w2 ⟨rfl, hb2⟩
  go_wp2_with fail
  go_ret
  exact ⟨rfl, HB1.step hb2⟩

set_option maxRecDepth 100000 in
set_option maxHeartbeats 400000 in
theorem toLit_c (l h : Nat) (p : Bool) (u1 u2 : Value) (xl xr : List Int) (w : World) (hl : xl.length ≤ 1048576) (hr : xr.length ≤ 1048576) (h1 : SlI l h w u1 xl) (h2 : SlI l h w u2 xr) :
    Calls Try.prog 17 #[.agg #[.bool p, u1, u2]] w (RetL w (p, xl, xr)) := by
  have HC := Lib.hid (fun (w' : World) (hb : Bel w w') => toIntS_c l h u1 xl w' hl (h1.below hb))
  have HD := Lib.hid (fun (w' : World) (hb : Bel w w') => toIntS_c l h u2 xr w' hr (h2.below hb))
  clear h1 h2
  go_enter Try.func17, Try.ntmps17
  go_wp2_with fail
  have HB : Bel w (((w.alloc (.cells #[.bool p, u1, u2] 40)).alloc (.cells #[.bool false, .slice none 0 0, .slice none 0 0] 44)).alloc (.cells #[.bool p, .slice none 0 0, .slice none 0 0] 44)) := Bel.alloc3 _ _ _ _
  refine (HC.out _ HB).mono ?_; rintro e w1 ⟨a1, n1, c1, rfl, o1, hb1⟩
  have hz1 := hb1.size
  simp only [World.size_alloc] at hz1 o1
  have e0 := hb1.at (b := w.heap.size) (off := 2) (by simp; omega) (show World.cell? _ _ = some u2 by simp [go_sem])
  have e1 := hb1.at (b := w.heap.size + 1) (off := 0) (by simp) (show World.cell? _ _ = some (.bool false) by simp [go_sem])
  have e2 := hb1.at (b := w.heap.size + 1) (off := 1) (by simp) (show World.cell? _ _ = some (.slice none 0 0) by simp [go_sem])
  have e3 := hb1.at (b := w.heap.size + 1) (off := 2) (by simp) (show World.cell? _ _ = some (.slice none 0 0) by simp [go_sem])
  have f0 := hb1.at (b := w.heap.size + 1 + 1) (off := 0) (by simp) (show World.cell? _ _ = some (.bool p) by simp [go_sem])
  have f1 := hb1.at (b := w.heap.size + 1 + 1) (off := 1) (by simp) (show World.cell? _ _ = some (.slice none 0 0) by simp [go_sem])
  have f2 := hb1.at (b := w.heap.size + 1 + 1) (off := 2) (by simp) (show World.cell? _ _ = some (.slice none 0 0) by simp [go_sem])
  have g1 : ∀ i, w1.frozen? ⟨w.heap.size + 1, i, none⟩ = false := fun i => (hb1.frozen (p := ⟨w.heap.size + 1, i, none⟩) (by simp)).trans (by simp [go_sem])
  have g2 : ∀ i, w1.frozen? ⟨w.heap.size + 1 + 1, i, none⟩ = false := fun i => (hb1.frozen (p := ⟨w.heap.size + 1 + 1, i, none⟩) (by simp)).trans (by simp [go_sem])
  have HB1 := HB.step hb1
  go_wp2_with fail
  have HS : Bel w (w1.setCell ⟨w.heap.size + 1 + 1, 1, none⟩ (.slice a1 n1 c1)) := HB1.set (by simp; omega) _
  refine (HD.out _ HS).mono ?_; rintro e w2 ⟨a2, n2, c2, rfl, o2, hb2⟩
  have hz2 := hb2.size
  simp only [World.size_setCell] at hz2 o2
  have far : ∀ {b o : Nat} {x : Value}, (b ≠ w.heap.size + 1 + 1 ∨ o ≠ 1) → w1.cell? ⟨b, o, none⟩ = some x → b < w1.heap.size → w2.cell? ⟨b, o, none⟩ = some x := fun hne hc hlt =>
    hb2.at (by simpa using hlt) (by rw [World.cell?_setCell_other (h := by intro h; simp at h; omega)]; exact hc)
  have e1' := far (.inl (by omega)) e1 (by omega)
  have e2' := far (.inl (by omega)) e2 (by omega)
  have e3' := far (.inl (by omega)) e3 (by omega)
  have f0' := far (.inr (by omega)) f0 (by omega)
  have f1' := hb2.at (b := w.heap.size + 1 + 1) (off := 1) (by simp; omega) (World.cell?_setCell_same w1 _ _ f1)
  have f2' := far (.inr (by omega)) f2 (by omega)
  have g1' : ∀ i, w2.frozen? ⟨w.heap.size + 1, i, none⟩ = false := fun i => (hb2.frozen (p := ⟨w.heap.size + 1, i, none⟩) (by simp; omega)).trans (by rw [World.frozen?_setCell]; exact g1 i)
  have g2' : ∀ i, w2.frozen? ⟨w.heap.size + 1 + 1, i, none⟩ = false := fun i => (hb2.frozen (p := ⟨w.heap.size + 1 + 1, i, none⟩) (by simp; omega)).trans (by rw [World.frozen?_setCell]; exact g2 i)
  have HB2 := HS.step hb2
  clear far
  go_wp2_with fail
  have o1' := ((((((o1.set (p := ⟨w.heap.size + 1 + 1, 1, none⟩) (.inl (by simp)) (.slice a1 n1 c1)).below hb2).set (p := ⟨w.heap.size + 1 + 1, 2, none⟩) (.inl (by simp)) (.slice a2 n2 c2)).set (p := ⟨w.heap.size + 1, 0, none⟩) (.inl (by simp)) (.bool p)).set (p := ⟨w.heap.size + 1, 1, none⟩) (.inl (by simp)) (.slice a1 n1 c1)).set (p := ⟨w.heap.size + 1, 2, none⟩) (.inl (by simp)) (.slice a2 n2 c2))
  have o2' := ((((o2.set (p := ⟨w.heap.size + 1 + 1, 2, none⟩) (.inl (by simp; omega)) (.slice a2 n2 c2)).set (p := ⟨w.heap.size + 1, 0, none⟩) (.inl (by simp; omega)) (.bool p)).set (p := ⟨w.heap.size + 1, 1, none⟩) (.inl (by simp; omega)) (.slice a1 n1 c1)).set (p := ⟨w.heap.size + 1, 2, none⟩) (.inl (by simp; omega)) (.slice a2 n2 c2))
  have HB3 := ((((HB2.set (p := ⟨w.heap.size + 1 + 1, 2, none⟩) (by simp; omega) (.slice a2 n2 c2)).set (p := ⟨w.heap.size + 1, 0, none⟩) (by simp) (.bool p)).set (p := ⟨w.heap.size + 1, 1, none⟩) (by simp) (.slice a1 n1 c1)).set (p := ⟨w.heap.size + 1, 2, none⟩) (by simp) (.slice a2 n2 c2))
  refine bodyPost_ret (v := .agg #[.bool p, .slice a1 n1 c1, .slice a2 n2 c2]) (by simp [results, Try.results17, go_sem, e1', e2', e3', f0', f1', f2']) rfl ⟨_, _, _, _, _, _, w1.heap.size, rfl, by omega, by simp; omega, o1'.mono (by omega) (Nat.le_refl _), o2'.mono (Nat.le_refl _) (by simp), HB3⟩
end Go.Proofs.Ytcgjdgpdbehikaa
end
section
/- The laws' helpers over slices of literals: copies. -/
namespace Go.Proofs.Ytcgjdgpdbehikaa
open Go.RowKit

theorem Try.info44 : (Try.prog.info? 44).map (fun i => (i.zero, i.size, i.bytes)) = some (some (.agg #[.bool false, .slice none 0 0, .slice none 0 0]), 3, 56) := by kernel_rfl
theorem flatC_take' (c : List Lt) (k : Nat) (h : k < c.length) : flatC (c.take (k+1)) = flatC (c.take k) ++ [(c.getD k lt0).2.1] ++ [(c.getD k lt0).2.2] := by
  rw [List.take_succ_eq_append_getElem h, flatC_app]
  simp [flatC, List.getD, h]
def z0C : LV := (false, .slice none 0 0, .slice none 0 0)
theorem made3 (n : Nat) : (madeCells #[.bool false, .slice none 0 0, .slice none 0 0] (n * 3)).toList = cellsC (List.replicate n z0C) := by
  have e : ∀ m, (madeCells #[.bool false, .slice none 0 0, .slice none 0 0] m).toList = (List.range m).map (fun i => (#[Value.bool false, .slice none 0 0, .slice none 0 0] : Array Value)[i % 3]!) := by
    intro m; simp [madeCells, Array.toList_range]
  rw [e]
  induction n with
  | zero => rfl
  | succ n ih =>
    rw [List.replicate_succ', cellsC_app, ← ih, show (n + 1) * 3 = n * 3 + 1 + 1 + 1 from by omega, List.range_succ, List.range_succ, List.range_succ]
    simp only [List.map_append, List.map_cons, List.map_nil, List.append_assoc]
    congr 1
    have h0 : (n * 3) % 3 = 0 := by omega
    have h1 : (n * 3 + 1) % 3 = 1 := by omega
    have h2 : (n * 3 + 1 + 1) % 3 = 2 := by omega
    rw [h0, h1, h2]
    rfl
theorem cellsC_set (zs rest : List LV) (y : LV) (p : Bool) (a b : Value) :
    (((cellsC (zs ++ y :: rest)).set (zs.length * 3) (.bool p)).set (zs.length * 3 + 1) a).set (zs.length * 3 + 2) b = cellsC (zs ++ (p, a, b) :: rest) := by
  have hl := cellsC_len zs
  rw [cellsC_app, cellsC_app]
  rw [List.set_append_right _ _ (by omega), hl, Nat.sub_self, List.set_append_right _ _ (by omega), hl, Nat.add_sub_cancel_left, List.set_append_right _ _ (by omega), hl, Nat.add_sub_cancel_left]
  rfl

set_option maxRecDepth 100000 in
set_option maxHeartbeats 400000 in
theorem toLitS_c (l h : Nat) (v : Value) (c : List Lt) (w : World) (hx : sumC c ≤ 1048576) (hv : SlC l h w v c) :
    Calls Try.prog 8 #[v] w (RetC w c) := by
  obtain ⟨ad, cap, rfl⟩ := hv.form
  obtain ⟨hxl, hmax⟩ := shortC_of_sum hx
  obtain ⟨i0, hi, hz0, hz1, hz2⟩ := info_parts Try.info44
  go_enter Try.func8, Try.ntmps8
  go_wp2_with (at_make; refine wpList_make_full _ rfl _ _ 32 rfl w.heap.size 44 i0 (.agg #[.bool false, .slice none 0 0, .slice none 0 0]) 3 Try.underlying32 hi hz0 hz1 _ _ _ _ c.length rfl rfl rfl rfl (by rw [hz2]; omega) (by unfold maxLen; omega) (Nat.le_refl _) ?_; intro w1 hown hg)
  have hz3 : (madeCells (Value.agg #[.bool false, .slice none 0 0, .slice none 0 0]).cells (c.length * 3)).toList = cellsC ([] ++ List.replicate (c.length - 0) z0C) := by
    rw [show (Value.agg #[.bool false, .slice none 0 0, .slice none 0 0]).cells = #[.bool false, .slice none 0 0, .slice none 0 0] from rfl, made3]; simp
  rw [hz3] at hown
  have hb0 : Bel w w1 := (Bel.rfl' w).grown hg (by simp)
  have hs1 : w.heap.size + 1 ≤ w1.heap.size := by
    rcases hown.2 with ⟨e, _⟩ | ⟨g, c, cur, e, _, hh, _⟩
    · simp at e
    · simp at e; have := (Array.getElem?_eq_some_iff.1 hh).1; omega
  clear hg hz3
  go_loopw [4] (fun i wr => ∃ (k : Nat) (zs : List LV) (bs : Nat → Nat), k ≤ c.length ∧ i = .int .i64 k ∧ wr.ownsRow w.heap.size 44 3 (.slice (some ⟨w.heap.size, 0, none⟩) c.length c.length) c.length (cellsC (zs ++ List.replicate (c.length - k) z0C)) ∧
    zs.map (·.1) = (c.take k).map (·.1) ∧ Ins (w.heap.size + 1) wr.heap.size w.heap.size wr (rowsC zs) (flatC (c.take k)) bs ∧ w.heap.size + 1 ≤ wr.heap.size ∧ Bel w wr) (fun i _ => c.length - (intOf i).toNat)
  case atStart => exact ⟨0, [], _, Nat.zero_le _, rfl, hown, rfl, (Ins.none _ _ _ _), hs1, hb0⟩
  case round =>
    obtain ⟨k, zs, bs, hk, rfl, ho, hzp, hin, hs, hb⟩ := hrel
    have hzl : zs.length = k := by have := congrArg List.length hzp; simp at this; omega
    by_cases hlt : k < c.length
    · obtain ⟨b, off, u1, u2, rfl, hbs, c1, c2, c3, s1, s2⟩ := hv.at hb k hlt
      obtain ⟨hm1, hm2⟩ := hmax k hlt
      have HFT := Lib.hid (flatC_take' c k hlt)
      have HTK : Hid ((c.take (k+1)).map (·.1) = (c.take k).map (·.1) ++ [(c.getD k lt0).1]) := by show _ = _; rw [List.take_succ_eq_append_getElem hlt, List.map_append]; simp [List.getD, hlt]
      have hin1 : (k : Int) < c.length := by omega
      have hrep : List.replicate (c.length - k) z0C = z0C :: List.replicate (c.length - (k+1)) z0C := by rw [show c.length - k = (c.length - (k+1)) + 1 from by omega, List.replicate_succ]
      rw [hrep] at ho
      generalize c.getD k lt0 = x at *
      obtain ⟨p, xl, xr⟩ := x
      simp only at *
      obtain ⟨a1, d1, rfl⟩ := s1.form
      obtain ⟨a2, d2, rfl⟩ := s2.form
      have HG : Hid ((zs ++ z0C :: List.replicate (c.length - (k+1)) z0C)[k]? = some z0C) := by show _ = _; rw [List.getElem?_append_right (by omega), hzl, Nat.sub_self]; rfl
      have HC := Lib.hid (toLit_c l h p _ _ xl xr wr hm1 hm2 s1 s2)
      have HI := Lib.hid hin
      have HO := Lib.hid ho
      have HP := Lib.hid hzp
      clear hv s1 s2 hmax hown hin ho hzp
      go_wp2_with (go_at_call 17; refine HC.out.mono ?_; rintro e w' ⟨b1, m1, q1, b2, m2, q2, M, rfl, hM1, hM2, o1, o2, hb2⟩; have ho3 := ownsRow_bel HO.out hb2; obtain ⟨t0, t1, t2⟩ := cellsC_get _ k z0C (HG.out); have y0 := (ho3.cellAt (k * 3) (by omega)).trans t0; have y1 := (ho3.cellAt (k * 3 + 1) (by omega)).trans t1; have y2 := (ho3.cellAt (k * 3 + 2) (by omega)).trans t2; have x0 := ho3.frozenAt (k * 3); have x1 := ho3.frozenAt (k * 3 + 1); have x2 := ho3.frozenAt (k * 3 + 2))
      go_roundw
      case rel =>
        have hst := ((((ho3.stored (k * 3) (.bool p)).1).stored (k * 3 + 1) (.slice b1 m1 q1)).1.stored (k * 3 + 2) (.slice b2 m2 q2)).1
        have hst2 := cellsC_set zs (List.replicate (c.length - (k+1)) z0C) z0C p (.slice b1 m1 q1) (.slice b2 m2 q2)
        rw [hzl] at hst2
        rw [hst2] at hst
        obtain ⟨bs1, hin1⟩ := (HI.out.below hb2).snoc o1 (Nat.le_refl _) hs (.inl (by omega)) (hi2 := M) (Nat.le_refl _) hM1
        obtain ⟨bs2, hin2⟩ := hin1.snoc o2 (Nat.le_refl _) (by omega) (.inl (by omega)) (hi2 := w'.heap.size) (Nat.le_refl _) hM2
        rw [← HFT.out] at hin2
        have hin3 := hin2.same (w' := ((w'.setCell ⟨w.heap.size, k * 3, none⟩ (.bool p)).setCell ⟨w.heap.size, k * 3 + 1, none⟩ (.slice b1 m1 q1)).setCell ⟨w.heap.size, k * 3 + 2, none⟩ (.slice b2 m2 q2)) (fun b h1 h2 _ => by
          rw [Below.heap_setCell _ _ _ b (by simp; omega), Below.heap_setCell _ _ _ b (by simp; omega), Below.heap_setCell _ _ _ b (by simp; omega)])
        have hB := (((hb.step hb2).set (p := ⟨w.heap.size, k * 3, none⟩) (Nat.le_refl _) (.bool p)).set (p := ⟨w.heap.size, k * 3 + 1, none⟩) (Nat.le_refl _) (.slice b1 m1 q1)).set (p := ⟨w.heap.size, k * 3 + 2, none⟩) (Nat.le_refl _) (.slice b2 m2 q2)
        have hsz := hb2.size
        refine ⟨k+1, zs ++ [(p, .slice b1 m1 q1, .slice b2 m2 q2)], bs2, by omega, by go_num, by rw [List.append_assoc]; exact hst, by rw [List.map_append, HP.out, HTK.out]; rfl, ?_, by simp; omega, hB⟩
        rw [rowsC_app]
        simpa [rowsC] using hin3
      case measure => simp [intOf]; omega
    · rw [show c.length - k = 0 from by omega, List.replicate_zero, List.append_nil] at ho
      rw [List.take_of_length_le (by omega)] at hin hzp
      have HI := Lib.hid hin
      have HO := Lib.hid ho
      have HP := Lib.hid hzp
      clear hin ho hv hmax hown hzp
      go_wp2_with fail
      go_ret
      exact ⟨_, _, _, rfl, OwnC.of_row HO.out (Nat.le_refl _) HP.out (fun g hg => by simp [Value.ownBlock] at hg; subst hg; exact HI.out.mono (by omega) (Nat.le_refl _)), hb⟩
end Go.Proofs.Ytcgjdgpdbehikaa
end
section
/- append of one literal to a row of literals of the call's own: at a plain region, and at a step of a region that draws. -/
namespace Go.Proofs.Ytcgjdgpdbehikaa
open Go.RowKit

/-- A row of literals of the call's own. -/
abbrev RowC (lo : Nat) (w : World) (v : Value) (zs : List LV) : Prop := w.ownsRow lo 44 3 v zs.length (cellsC zs)
theorem RowC.nil (lo : Nat) (w : World) : RowC lo w (.slice none 0 0) [] := World.ownsRow_nil _ _ _ _
theorem news_lit (w : World) (x y z : Value) (t : TypeId) (g : Nat) (hg : g = w.heap.size) : ∀ j u, [x, y, z][j]? = some u → (w.alloc (.cells #[x, y, z] t)).cell? ((⟨g, 0, none⟩ : Addr).add j) = some u := by
  subst hg
  intro j u hj
  match j, hj with
  | 0, hj => simp at hj; subst hj; rw [show (⟨w.heap.size, 0, none⟩ : Addr).add 0 = ⟨w.heap.size, 0, none⟩ from rfl, World.cell?_alloc_new w]; rfl
  | 1, hj => simp at hj; subst hj; rw [addr_add, World.cell?_alloc_new w]; rfl
  | 2, hj => simp at hj; subst hj; rw [addr_add, World.cell?_alloc_new w]; rfl
theorem one_lit (p : Bool) (a b : Option Addr) (n m c d : Nat) : ∀ u ∈ [Value.bool p, Value.slice a n c, Value.slice b m d], u.oneCell' = true := by
  intro u hu; simp at hu; rcases hu with rfl | rfl | rfl <;> rfl

theorem step_append_lit {w : World} {ops : Array Oper} {o : Oper} {a : Act} {K : Act → World → Prop} {Q : Exit → Act → World → Prop} {E : Prop} (hgd : o.guard = none) (s x : Operand) (d : Nat) (hd : o.dst = some d)
    (ho : o.op = .call { callee := .builtin .append, args := #[s, x], argTypes := #[32, 32] })
    (base : Nat) (v : Value) (zs : List LV) (hs : a.eval s = v) (hown : RowC base w v zs) (g : Nat) (p : Bool) (z1 z2 : SV) (hx : a.eval x = .slice (some ⟨g, 0, none⟩) 1 1)
    (hnews : ∀ j u, [Value.bool p, encS z1, encS z2][j]? = some u → w.cell? ((⟨g, 0, none⟩ : Addr).add j) = some u)
    (hl : zs.length ≤ 1048576) (hbase : base ≤ w.heap.size)
    (h : ∀ ad n c w', RowC base w' (.slice ad n c) (zs ++ [(p, encS z1, encS z2)]) → w.grownBy w' v.ownBlock → K (a.put (some d) (.slice ad n c)) w') :
    if Region.wanted o (yielded ops a.tmps) = true then Oper.wp Try.prog o a w K Q else E := by
  obtain ⟨i0, hi0, hz0, hz1, hz2⟩ := info_parts Try.info44
  have hw : Region.wanted o (yielded ops a.tmps) = true := by simp [Region.wanted, hgd]
  rw [if_pos hw]
  rw [← hd] at h
  refine wp_append_own w s x 32 ho base 44 i0 (.agg #[.bool false, .slice none 0 0, .slice none 0 0]) 3 56 Try.underlying32 hi0 hz0 hz1 hz2 rfl (by decide) v zs.length (cellsC zs) hs hown
    ⟨g, 0, none⟩ 1 1 [.bool p, encS z1, encS z2] hx (by simp) hnews (one_lit _ _ _ _ _ _ _) (by unfold maxLen; omega) (by omega) hbase (fun v' w' h1 h2 _ => ?_)
  obtain ⟨ad, n, c, rfl⟩ := own_form h1
  refine h ad n c w' ?_ h2
  have e : cellsC (zs ++ [(p, encS z1, encS z2)]) = cellsC zs ++ [.bool p, encS z1, encS z2] := by rw [cellsC_app]; rfl
  show World.ownsRow _ _ _ _ _ _ _
  rw [e]
  simpa using h1
end Go.Proofs.Ytcgjdgpdbehikaa
end
section
/- Chapter 4, the program: ClauseText. -/
namespace Go.Proofs.Ytcgjdgpdbehikaa
open Go.RowKit

theorem Try.info9 : (Try.prog.info? 9).map (fun i => (i.zero, i.size, i.bytes)) = some (some (.string ⟨#[]⟩), 1, 16) := by kernel_rfl
abbrev RowT (lo : Nat) (w : World) (v : Value) (ss : List ByteArray) : Prop := w.ownsRow lo 9 1 v ss.length (ss.map Value.string)
theorem step_append_str {w : World} {ops : Array Oper} {o : Oper} {a : Act} {K : Act → World → Prop} {Q : Exit → Act → World → Prop} {E : Prop} (hgd : o.guard = none) (s x : Operand) (d : Nat) (hd : o.dst = some d)
    (ho : o.op = .call { callee := .builtin .append, args := #[s, x], argTypes := #[53, 53] })
    (base : Nat) (v : Value) (ss : List ByteArray) (hs : a.eval s = v) (hown : RowT base w v ss) (g : Nat) (A : ByteArray) (hx : a.eval x = .slice (some ⟨g, 0, none⟩) 1 1)
    (hnews : ∀ j u, [Value.string A][j]? = some u → w.cell? ((⟨g, 0, none⟩ : Addr).add j) = some u)
    (hl : ss.length ≤ 1048576) (hbase : base ≤ w.heap.size)
    (h : ∀ b k w', RowT base w' (.slice (some ⟨b, 0, none⟩) (ss.length + 1) k) (ss ++ [A]) → w.grownBy w' v.ownBlock → K (a.put (some d) (.slice (some ⟨b, 0, none⟩) (ss.length + 1) k)) w') :
    if Region.wanted o (yielded ops a.tmps) = true then Oper.wp Try.prog o a w K Q else E := by
  obtain ⟨i0, hi0, hz0, hz1, hz2⟩ := info_parts Try.info9
  rw [← hd] at h
  refine step_append_lies w hgd s x 53 ho base 9 i0 (.string ⟨#[]⟩) 1 16 Try.underlying53 hi0 hz0 hz1 hz2 rfl (by decide) v ss.length (ss.map Value.string) hs hown
    ⟨g, 0, none⟩ 1 1 [.string A] hx (by simp) hnews (fun u hu => by simp at hu; subst hu; rfl) (by decide) (by unfold maxLen; omega) (by omega) hbase w.heap.size rfl (fun b k w' h1 h2 _ _ => ?_)
  refine h b k w' ?_ h2
  show World.ownsRow _ _ _ _ _ _ _
  rw [List.map_append, List.length_append]
  exact h1
theorem inter_text (ar : List Int) : ∀ (r : List Lt) (x : Lt), Lib.join ((x :: r).map (textL ar)) [124] = textC ar (x :: r) := by
  intro r
  induction r with
  | nil => intro x; simp [Lib.join, List.intercalate, textC, barsL]
  | cons y r ih =>
    intro x
    have := ih y
    simp only [Lib.join, List.map_cons, textC] at this ⊢
    rw [List.intercalate_cons_cons, this]
    simp [barsL]

set_option maxRecDepth 100000 in
set_option maxHeartbeats 1000000 in
theorem clauseText_c (l h l' h' : Nat) (v u : Value) (ar : List Int) (c : List Lt) (w : World) (hg : goodSign ar = true) (h8 : c.length ≤ 8) (hok : ∀ x ∈ c, okLit ar x = true) (hv : SlI l h w v ar) (hu : SlC l' h' w u c) :
    Calls Try.prog 19 #[.agg #[v], u] w (RetT w (textC ar c)) := by
  obtain ⟨ad, cap, rfl⟩ := hu.form
  by_cases h0 : c.length = 0
  · have hc : c = [] := List.length_eq_zero_iff.1 h0
    subst hc
    clear h0
    go_enter Try.func19, Try.ntmps19
    go_wp2_with fail
    go_ret
    exact ⟨_, rfl, rfl, Bel.alloc0 _ _⟩
  · have hne : ((c.length : Int) == 0) = false := beq_eq_false_iff_ne.2 (by omega)
    go_enter Try.func19, Try.ntmps19
    go_wp2_with fail
    go_loopw [5, 14] (fun o i wr => ∃ (k : Nat) (ss : List ByteArray), k ≤ c.length ∧ i = .int .i64 k ∧ RowT (w.heap.size + 1) wr o ss ∧ ss.map (·.data.toList) = (c.take k).map (textL ar) ∧ Bel (w.alloc (.cells #[v] 30)) wr) (fun _ i _ => c.length - (intOf i).toNat)
    case atStart => exact ⟨0, [], Nat.zero_le _, rfl, World.ownsRow_nil _ _ _ _, rfl, Bel.rfl' _⟩
    case round =>
      obtain ⟨k, ss, hk, rfl, hrow, hss, hb⟩ := hrel
      have hsl : ss.length = k := by have := congrArg List.length hss; simp at this; omega
      by_cases hlt : k < c.length
      · obtain ⟨b, off, u1, u2, rfl, hbs, c1, c2, c3, s1, s2⟩ := hu.at hb.of_alloc k hlt
        have hbox := boxc hb 0 _ rfl
        obtain ⟨o1, o2⟩ := okLit_iff.1 (hok _ (mem_getD c lt0 k hlt))
        obtain ⟨hL1, hL2⟩ := textL_le (hok _ (mem_getD c lt0 k hlt))
        have HTK : Hid ((c.take (k+1)).map (textL ar) = (c.take k).map (textL ar) ++ [textL ar (c.getD k lt0)]) := by show _ = _; rw [List.take_succ_eq_append_getElem hlt, List.map_append]; simp [List.getD, hlt]
        have hin1 : (k : Int) < c.length := by omega
        obtain ⟨p1, p2⟩ := okTerm_len o1
        obtain ⟨p3, p4⟩ := okTerm_len o2
        generalize c.getD k lt0 = x at *
        obtain ⟨p, xl, xr⟩ := x
        simp only at *
        obtain ⟨a1, d1, rfl⟩ := s1.form
        obtain ⟨a2, d2, rfl⟩ := s2.form
        have hbz := hb.size
        simp only [World.size_alloc] at hbz
        have HBK := hrow.lt
        have HROW := Lib.hid hrow
        have HSS := Lib.hid hss
        have HB0 : Bel wr (wr.alloc (.cells #[.bool p, .slice a1 xl.length d1, .slice a2 xr.length d2] 44)).drew := (Bel.alloc0 _ _).drew
        have HL : Hid (∀ w', Bel wr w' → Calls Try.prog 27 #[.agg #[v], .slice a1 xl.length d1, .int .i64 0] w' (RetT w' (textAt ar xl 0))) := fun (w' : World) (hq : Bel wr w') => textAt_c l h _ _ v _ ar xl hg o1 xl.length 0 w' (by omega) (by omega) (hv.below (hb.of_alloc.step hq)) (s1.below hq)
        have HR : Hid (∀ w', Bel wr w' → Calls Try.prog 27 #[.agg #[v], .slice a2 xr.length d2, .int .i64 0] w' (RetT w' (textAt ar xr 0))) := fun (w' : World) (hq : Bel wr w') => textAt_c l h _ _ v _ ar xr hg o2 xr.length 0 w' (by omega) (by omega) (hv.below (hb.of_alloc.step hq)) (s2.below hq)
        have HTX : Hid (textL ar (p, xl, xr) = textAt ar xl 0 ++ signB p :: textAt ar xr 0) := rfl
        have hboxA := hb.alloc (.cells #[.bool p, .slice a1 xl.length d1, .slice a2 xr.length d2] 44)
        have K : Hid (∀ w', Bel (wr.alloc (.cells #[.bool p, .slice a1 xl.length d1, .slice a2 xr.length d2] 44)) w' → w'.cell? ⟨w.heap.size, 0, none⟩ = some v ∧ w'.cell? ⟨wr.heap.size, 1, none⟩ = some (.slice a1 xl.length d1) ∧ w'.cell? ⟨wr.heap.size, 2, none⟩ = some (.slice a2 xr.length d2)) := fun w' hq => ⟨boxc (hboxA.step hq) 0 _ rfl, boxc hq 1 _ rfl, boxc hq 2 _ rfl⟩
        generalize textAt ar xl 0 = TL at *
        generalize textAt ar xr 0 = TR at *
        generalize textL ar (p, xl, xr) = TX at *
        generalize xl.length = nl at *
        generalize xr.length = nr at *
        clear o1 o2 s1 s2 hu hok hv hrow hss hboxA
        cases p with
        | true =>
          go_wp2_with fail
          have hmk : ((⟨#[61]⟩ : ByteArray)).size = 1 := rfl
          have D0 : Bel (wr.alloc (.cells #[.bool true, .slice a1 nl d1, .slice a2 nr d2] 44)) (wr.alloc (.cells #[.bool true, .slice a1 nl d1, .slice a2 nr d2] 44)).drew := Bel.drew0 _
          go_region_held_law (fun w' => w'.cell? ⟨w.heap.size, 0, none⟩ = some v ∧ w'.cell? ⟨wr.heap.size, 1, none⟩ = some (.slice a1 nl d1) ∧ w'.cell? ⟨wr.heap.size, 2, none⟩ = some (.slice a2 nr d2))
            (first | exact ⟨t1, t2, t3⟩ | exact ⟨m1, m2, m3⟩ | exact K.out _ G4 | exact K.out _ (D0.step g3) | exact K.out _ D0 | fail)
            (first
              | (refine step_append_str rfl (.tmp 20) (.tmp 32) 33 rfl rfl (w.heap.size + 1) _ ss rfl R4 w4.heap.size ((B ++ ⟨#[61]⟩) ++ C) rfl HN (by omega) HZ4 ?_; intro b5 k5 w5 R5 hg5; have t1 := hg5.cell m1 (fun e => Nat.not_succ_le_self _ (HBK _ e.symm).1); have t2 := hg5.cell m2 (fun e => Nat.lt_irrefl _ (HBK _ e.symm).2); have t3 := hg5.cell m3 (fun e => Nat.lt_irrefl _ (HBK _ e.symm).2))
              | (go_at_call 27; refine (HR.out _ HB3).mono ?_; rintro e w4 ⟨C, rfl, hC, g4⟩; have HB4 := HB3.step g4; have G4 := (D0.step g3).step g4; have hBs : B.size ≤ 120 := (by rw [ba_size, hB]; exact hL1); have hCs : C.size ≤ 120 := (by rw [ba_size, hC]; exact hL2); have hr1 := fun (W : World) => run_string_add_sum (P := Try.prog) (w := W) B ⟨#[61]⟩ (by omega); have hr2 := fun (W : World) => run_string_add_sum (P := Try.prog) (w := W) (B ++ ⟨#[61]⟩) C (by rw [ByteArray.size_append]; omega); have R4 : RowT (w.heap.size + 1) (w4.alloc (.cells #[.string ((B ++ ⟨#[61]⟩) ++ C)] 9)) _ ss := ownsRow_bel HROW.out (HB4.step (Bel.alloc0 _ _)); have HN := news_one w4 (.string ((B ++ ⟨#[61]⟩) ++ C)) 9; have HZ4 : w.heap.size + 1 ≤ (w4.alloc (.cells #[.string ((B ++ ⟨#[61]⟩) ++ C)] 9)).heap.size := Nat.le_trans hbz (HB4.step (Bel.alloc0 _ _)).size; obtain ⟨m1, m2, m3⟩ := K.out _ (G4.step (Bel.alloc0 w4 (.cells #[.string ((B ++ ⟨#[61]⟩) ++ C)] 9))))
              | (go_at_call 27; refine (HL.out _ HB3).mono ?_; rintro e w4 ⟨B, rfl, hB, g4⟩; have HB4 := HB3.step g4; have G4 := (D0.step g3).step g4; have hBs : B.size ≤ 120 := (by rw [ba_size, hB]; exact hL1); have hCs : C.size ≤ 120 := (by rw [ba_size, hC]; exact hL2); have hr1 := fun (W : World) => run_string_add_sum (P := Try.prog) (w := W) B ⟨#[61]⟩ (by omega); have hr2 := fun (W : World) => run_string_add_sum (P := Try.prog) (w := W) (B ++ ⟨#[61]⟩) C (by rw [ByteArray.size_append]; omega); have R4 : RowT (w.heap.size + 1) (w4.alloc (.cells #[.string ((B ++ ⟨#[61]⟩) ++ C)] 9)) _ ss := ownsRow_bel HROW.out (HB4.step (Bel.alloc0 _ _)); have HN := news_one w4 (.string ((B ++ ⟨#[61]⟩) ++ C)) 9; have HZ4 : w.heap.size + 1 ≤ (w4.alloc (.cells #[.string ((B ++ ⟨#[61]⟩) ++ C)] 9)).heap.size := Nat.le_trans hbz (HB4.step (Bel.alloc0 _ _)).size; obtain ⟨m1, m2, m3⟩ := K.out _ (G4.step (Bel.alloc0 w4 (.cells #[.string ((B ++ ⟨#[61]⟩) ++ C)] 9))))
              | (go_at_call 27; refine (HL.out _ HB0).mono ?_; rintro e w3 ⟨B, rfl, hB, g3⟩; have HB3 := HB0.step g3; have hr1 := fun (W : World) => run_string_add_sum (P := Try.prog) (w := W) B ⟨#[61]⟩ (by have hBs : B.size ≤ 120 := (by rw [ba_size, hB]; exact hL1); omega))
              | (go_at_call 27; refine (HR.out _ HB0).mono ?_; rintro e w3 ⟨C, rfl, hC, g3⟩; have HB3 := HB0.step g3)
              | fail)
          all_goals
            have hB6 := ((hb.step HB4).alloc (.cells #[.string ((B ++ ⟨#[61]⟩) ++ C)] 9)).grown hg5 (fun q hq => by have := (HBK q hq).1; simp; omega)
            have HBl := Lib.hid hB
            have HCl := Lib.hid hC
            clear hB hC
            go_wp2_with fail
            go_roundw
            case rel => exact ⟨k + 1, _, by omega, by go_num, by first | exact R5 | (rw [hsl] at R5; exact R5), by rw [List.map_append, HSS.out, HTK.out]; simp only [List.map_cons, List.map_nil, ba_app, HBl.out, HCl.out, HTX.out, signB]; simp, hB6⟩
            case measure => simp [intOf]; omega
        | false =>
          go_wp2_with fail
          have hmk : ((⟨#[35]⟩ : ByteArray)).size = 1 := rfl
          have D0 : Bel (wr.alloc (.cells #[.bool false, .slice a1 nl d1, .slice a2 nr d2] 44)) (wr.alloc (.cells #[.bool false, .slice a1 nl d1, .slice a2 nr d2] 44)).drew := Bel.drew0 _
          go_region_held_law (fun w' => w'.cell? ⟨w.heap.size, 0, none⟩ = some v ∧ w'.cell? ⟨wr.heap.size, 1, none⟩ = some (.slice a1 nl d1) ∧ w'.cell? ⟨wr.heap.size, 2, none⟩ = some (.slice a2 nr d2))
            (first | exact ⟨t1, t2, t3⟩ | exact ⟨m1, m2, m3⟩ | exact K.out _ G4 | exact K.out _ (D0.step g3) | exact K.out _ D0 | fail)
            (first
              | (refine step_append_str rfl (.tmp 20) (.tmp 32) 33 rfl rfl (w.heap.size + 1) _ ss rfl R4 w4.heap.size ((B ++ ⟨#[35]⟩) ++ C) rfl HN (by omega) HZ4 ?_; intro b5 k5 w5 R5 hg5; have t1 := hg5.cell m1 (fun e => Nat.not_succ_le_self _ (HBK _ e.symm).1); have t2 := hg5.cell m2 (fun e => Nat.lt_irrefl _ (HBK _ e.symm).2); have t3 := hg5.cell m3 (fun e => Nat.lt_irrefl _ (HBK _ e.symm).2))
              | (go_at_call 27; refine (HR.out _ HB3).mono ?_; rintro e w4 ⟨C, rfl, hC, g4⟩; have HB4 := HB3.step g4; have G4 := (D0.step g3).step g4; have hBs : B.size ≤ 120 := (by rw [ba_size, hB]; exact hL1); have hCs : C.size ≤ 120 := (by rw [ba_size, hC]; exact hL2); have hr1 := fun (W : World) => run_string_add_sum (P := Try.prog) (w := W) B ⟨#[35]⟩ (by omega); have hr2 := fun (W : World) => run_string_add_sum (P := Try.prog) (w := W) (B ++ ⟨#[35]⟩) C (by rw [ByteArray.size_append]; omega); have R4 : RowT (w.heap.size + 1) (w4.alloc (.cells #[.string ((B ++ ⟨#[35]⟩) ++ C)] 9)) _ ss := ownsRow_bel HROW.out (HB4.step (Bel.alloc0 _ _)); have HN := news_one w4 (.string ((B ++ ⟨#[35]⟩) ++ C)) 9; have HZ4 : w.heap.size + 1 ≤ (w4.alloc (.cells #[.string ((B ++ ⟨#[35]⟩) ++ C)] 9)).heap.size := Nat.le_trans hbz (HB4.step (Bel.alloc0 _ _)).size; obtain ⟨m1, m2, m3⟩ := K.out _ (G4.step (Bel.alloc0 w4 (.cells #[.string ((B ++ ⟨#[35]⟩) ++ C)] 9))))
              | (go_at_call 27; refine (HL.out _ HB3).mono ?_; rintro e w4 ⟨B, rfl, hB, g4⟩; have HB4 := HB3.step g4; have G4 := (D0.step g3).step g4; have hBs : B.size ≤ 120 := (by rw [ba_size, hB]; exact hL1); have hCs : C.size ≤ 120 := (by rw [ba_size, hC]; exact hL2); have hr1 := fun (W : World) => run_string_add_sum (P := Try.prog) (w := W) B ⟨#[35]⟩ (by omega); have hr2 := fun (W : World) => run_string_add_sum (P := Try.prog) (w := W) (B ++ ⟨#[35]⟩) C (by rw [ByteArray.size_append]; omega); have R4 : RowT (w.heap.size + 1) (w4.alloc (.cells #[.string ((B ++ ⟨#[35]⟩) ++ C)] 9)) _ ss := ownsRow_bel HROW.out (HB4.step (Bel.alloc0 _ _)); have HN := news_one w4 (.string ((B ++ ⟨#[35]⟩) ++ C)) 9; have HZ4 : w.heap.size + 1 ≤ (w4.alloc (.cells #[.string ((B ++ ⟨#[35]⟩) ++ C)] 9)).heap.size := Nat.le_trans hbz (HB4.step (Bel.alloc0 _ _)).size; obtain ⟨m1, m2, m3⟩ := K.out _ (G4.step (Bel.alloc0 w4 (.cells #[.string ((B ++ ⟨#[35]⟩) ++ C)] 9))))
              | (go_at_call 27; refine (HL.out _ HB0).mono ?_; rintro e w3 ⟨B, rfl, hB, g3⟩; have HB3 := HB0.step g3; have hr1 := fun (W : World) => run_string_add_sum (P := Try.prog) (w := W) B ⟨#[35]⟩ (by have hBs : B.size ≤ 120 := (by rw [ba_size, hB]; exact hL1); omega))
              | (go_at_call 27; refine (HR.out _ HB0).mono ?_; rintro e w3 ⟨C, rfl, hC, g3⟩; have HB3 := HB0.step g3)
              | fail)
          all_goals
            have hB6 := ((hb.step HB4).alloc (.cells #[.string ((B ++ ⟨#[35]⟩) ++ C)] 9)).grown hg5 (fun q hq => by have := (HBK q hq).1; simp; omega)
            have HBl := Lib.hid hB
            have HCl := Lib.hid hC
            clear hB hC
            go_wp2_with fail
            go_roundw
            case rel => exact ⟨k + 1, _, by omega, by go_num, by first | exact R5 | (rw [hsl] at R5; exact R5), by rw [List.map_append, HSS.out, HTK.out]; simp only [List.map_cons, List.map_nil, ba_app, HBl.out, HCl.out, HTX.out, signB]; simp, hB6⟩
            case measure => simp [intOf]; omega
      · have hkc : k = c.length := by omega
        have hkl : ss.length = c.length := by omega
        have hcn : c ≠ [] := by intro e; subst e; exact h0 rfl
        have HJ : Hid (Lib.join (ss.map (·.data.toList)) [124] = textC ar c) := by
          show _ = _
          rw [hss, List.take_of_length_le (by omega)]
          cases c with
          | nil => exact absurd rfl hcn
          | cons x r => exact inter_text ar r x
        have hlen : (textC ar c).length ≤ 2000 := by rw [← accL_all ar c h0]; have := accL_le hok c.length (Nat.le_refl _); omega
        have h0' := hrow
        rcases hrow.2 with ⟨e1, h2⟩ | ⟨g, cap2, cur, e1, hgb, hh, hn, hc2, hsz, ht⟩
        · omega
        · subst e1
          have hgs := (Array.getElem?_eq_some_iff.1 hh).1
          have hj := Any.strings_Join_48 laysJoin extraJ g 0 cap2 ss ⟨#[124]⟩ wr (fun j x hx => by
            have hjl : j < ss.length := (List.getElem?_eq_some_iff.1 hx).1
            rw [Nat.zero_add, h0'.cellAt j (by omega), List.getElem?_map, hx]; rfl) hgs (by omega) hn (by show (Lib.join _ [124]).length ≤ _; rw [HJ.out]; omega)
          have HJJ : Hid (Calls Try.prog 28 #[.slice (some ⟨g, 0, none⟩) ss.length cap2, .string ⟨#[124]⟩] wr fun e w' => e = .returned (.string ⟨(textC ar c).toArray⟩) ∧ Below wr.heap.size wr w') := by
            show Calls _ _ _ _ _
            have := hj
            rw [show (⟨#[124]⟩ : ByteArray).data.toList = [124] from rfl, HJ.out] at this
            exact this
          clear hj h0' hrow hss hu hv hok hh ht hsz hn hc2 hlen HJ
          have hkc2 : ¬ (k : Int) < c.length := by omega
          generalize textC ar c = T at *
          generalize ss.length = n at *
          clear hkl hsl
          go_wp2_with fail
          refine HJJ.out.mono ?_; rintro e w2 ⟨rfl, hb2⟩
          go_wp2_with fail
          go_ret
          exact ⟨_, rfl, by simp, hb.of_alloc.step hb2⟩

set_option maxRecDepth 100000 in
set_option maxHeartbeats 400000 in
theorem iClauseText_t {l h l' h' : Nat} {v u : Value} {ar : List Int} {c : List Lt} {w : World} (ha : ar.length ≤ 1048576) (hv : SlI l h w v ar) (hc : sumC c ≤ 1048576) (hu : SlC l' h' w u c) :
    Calls Try.prog 9 #[.agg #[v], u] w (RetV w (.tuple #[.string (textClA ar c), .bool (goodClause ar c)])) := by
  unfold textClA
  cases hg : goodClause ar c with
  | false =>
    rw [if_neg (by simp)]
    have HG := Lib.hid hg; clear hg
    go_enter Try.func9, Try.ntmps9
    go_wp2_with fail
    refine (iGoodClause_v HG.out ha (hv.alloc _) hc (hu.alloc _)).mono ?_; rintro e w1 ⟨rfl, hb1⟩
    go_wp2_with fail
    go_ret2
    exact ⟨rfl, hb1.of_alloc⟩
  | true =>
    rw [if_pos rfl]
    obtain ⟨g1, g2, g3⟩ := goodClause_iff.1 hg
    have HC := Lib.hid (fun (w' : World) (hb : Bel w w') => clauseText_c l h l' h' v u ar c w' g1 g2 g3 (hv.below hb) (hu.below hb))
    have HG := Lib.hid hg; clear hg g1 g2 g3
    generalize textC ar c = T at *
    go_enter Try.func9, Try.ntmps9
    go_wp2_with fail
    refine (iGoodClause_v HG.out ha (hv.alloc _) hc (hu.alloc _)).mono ?_; rintro e w1 ⟨rfl, hb1⟩
    have hbox := boxc hb1 0 _ rfl
    clear hc
    go_wp2_with fail
    refine (HC.out _ hb1.of_alloc).mono ?_; rintro e w2 ⟨A, rfl, hA, hb2⟩
    rw [← ba_mk hA]
    go_wp2_with fail
    go_ret2
    exact ⟨by rw [← ba_mk hA]; rfl, hb1.of_alloc.step hb2⟩
end Go.Proofs.Ytcgjdgpdbehikaa
end
section
/- The laws' helpers over slices of literals: comparisons, marks. -/
namespace Go.Proofs.Ytcgjdgpdbehikaa
open Go.RowKit

set_option maxRecDepth 100000 in
set_option maxHeartbeats 400000 in
theorem eqLitS_same (l h l' h' : Nat) (v u : Value) (c : List Lt) (w : World) (hx : sumC c ≤ 1048576) (hv : SlC l h w v c) (hu : SlC l' h' w u c) :
    Calls Try.prog 11 #[v, u] w (RetV w (.bool true)) := by
  obtain ⟨ad, cap, rfl⟩ := hv.form
  obtain ⟨ad', cap', rfl⟩ := hu.form
  obtain ⟨hxl, hmax⟩ := shortC_of_sum hx
  have hl' : ((c.length : Int) != c.length) = false := by simp
  go_enter Try.func11, Try.ntmps11
  go_wp2_with fail
  go_loopw [5] (fun i wr => ∃ k : Nat, k ≤ c.length ∧ i = .int .i64 k ∧ Bel w wr) (fun i _ => c.length - (intOf i).toNat)
  case atStart => exact ⟨0, Nat.zero_le _, rfl, Bel.rfl' _⟩
  case round =>
    obtain ⟨k, hk, rfl, hb⟩ := hrel
    by_cases hlt : k < c.length
    · obtain ⟨b, off, u1, u2, rfl, -, c1, c2, c3, s1, s2⟩ := hv.at hb k hlt
      obtain ⟨b', off', q1, q2, rfl, -, d1, d2, d3, t1, t2⟩ := hu.at hb k hlt
      obtain ⟨hm1, hm2⟩ := hmax k hlt
      have hin1 : (k : Int) < c.length := by omega
      clear hv hu hmax
      generalize c.getD k lt0 = x at *
      obtain ⟨p, xl, xr⟩ := x
      simp only at *
      have B1 := World.block_lt_of_cell? wr ⟨b, _, none⟩ c1
      have B2 := World.block_lt_of_cell? wr ⟨b', _, none⟩ d1
      have HC := Lib.hid (fun w' (h1 : Bel wr w') => eqLit_same _ _ _ _ p u1 u2 q1 q2 xl xr w' hm1 hm2 (s1.below h1) (s2.below h1) (t1.below h1) (t2.below h1))
      clear s1 s2 t1 t2
      go_wp2_with fail
      go_region_held3 (fun w' => Bel wr w' ∧ (w'.cell? ⟨b, off + k * 3, none⟩ = some (.bool p) ∧ w'.cell? ⟨b, off + k * 3 + 1, none⟩ = some u1 ∧ w'.cell? ⟨b, off + k * 3 + 2, none⟩ = some u2) ∧ (w'.cell? ⟨b', off' + k * 3, none⟩ = some (.bool p) ∧ w'.cell? ⟨b', off' + k * 3 + 1, none⟩ = some q1 ∧ w'.cell? ⟨b', off' + k * 3 + 2, none⟩ = some q2))
        (first | exact ⟨Bel.drew0 _, ⟨c1, c2, c3⟩, d1, d2, d3⟩ | exact ⟨hb2.of_drew, ⟨hb2.at B1 c1, hb2.at B1 c2, hb2.at B1 c3⟩, hb2.at B2 d1, hb2.at B2 d2, hb2.at B2 d3⟩ | fail)
        (first | (go_at_call 21; refine (HC.out _ (Bel.drew0 _)).mono ?_; rintro e w2 ⟨rfl, hb2⟩) | fail)
      go_wp2_with fail
      go_roundw
      case rel => exact ⟨k+1, by omega, by go_num, hb.step hb2.of_drew⟩
      case measure => simp [intOf]; omega
    · go_wp2_with fail
      go_ret
      exact ⟨rfl, hb⟩

theorem Ins.but {lo hi b w w' us xss bs} (h : Ins lo hi b w us xss bs) (hs : ∀ x, x ≠ b → lo ≤ x → x < hi → x < w.heap.size → w'.heap[x]? = w.heap[x]?) : Ins lo hi b w' us xss bs := by
  refine ⟨h.len, h.rng, h.inj, fun j u hj => ?_⟩
  have ho := h.own j u hj
  have hlt : j < xss.length := by rw [← h.len]; exact (List.getElem?_eq_some_iff.1 hj).1
  by_cases hp : 0 < (xss.getD j []).length
  · obtain ⟨a1, a2, a3⟩ := h.rng j hlt hp
    exact ho.same fun x h1 h2 h3 => hs x (by omega) (by omega) (by omega) h3
  · rw [len0 hp] at ho ⊢
    exact ho.empty
structure CRow (lo hi b off : Nat) (w : World) (zs : List LV) (c : List Lt) (bs : Nat → Nat) : Prop where
  hlo : lo ≤ b
  hhi : b < hi
  len : zs.length = c.length
  cell : ∀ j z, zs[j]? = some z → z.1 = (c.getD j lt0).1 ∧ w.cell? ⟨b, off + j * 3, none⟩ = some (.bool z.1) ∧ w.cell? ⟨b, off + j * 3 + 1, none⟩ = some z.2.1 ∧ w.cell? ⟨b, off + j * 3 + 2, none⟩ = some z.2.2
  free : ∀ i, w.frozen? ⟨b, i, none⟩ = false
  ins : Ins lo hi b w (rowsC zs) (flatC c) bs
theorem rowsC_set (zs : List LV) (j : Nat) (z : LV) (p : Bool) (h : zs[j]? = some z) : rowsC (zs.set j (p, z.2)) = rowsC zs := by
  induction zs generalizing j with
  | nil => simp
  | cons x r ih =>
    cases j with
    | zero => simp at h; subst h; rfl
    | succ j => simp only [List.set_cons_succ]; show _ :: _ :: rowsC _ = _ :: _ :: rowsC _; rw [ih j (by simpa using h)]
theorem flatC_set (c : List Lt) (j : Nat) (y : Lt) (h : j < c.length) : flatC (c.set j y) = ((flatC c).set (2 * j) y.2.1).set (2 * j + 1) y.2.2 := by
  induction c generalizing j with
  | nil => simp at h
  | cons x r ih =>
    cases j with
    | zero => rfl
    | succ j =>
      rw [List.set_cons_succ, flatC_cons, flatC_cons, ih j (by simpa using h), show 2 * (j + 1) = (2 * j) + 1 + 1 from by omega]
      simp
theorem CRow.sign {lo hi b off : Nat} {w : World} {zs : List LV} {c : List Lt} {bs : Nat → Nat} (h : CRow lo hi b off w zs c bs) (j : Nat) (z : LV) (hz : zs[j]? = some z) (p : Bool) :
    CRow lo hi b off (w.setCell ⟨b, off + j * 3, none⟩ (.bool p)) (zs.set j (p, z.2)) (c.set j (p, (c.getD j lt0).2)) bs := by
  have hj : j < zs.length := (List.getElem?_eq_some_iff.1 hz).1
  have hjc : j < c.length := by rw [← h.len]; exact hj
  have hflat : flatC (c.set j (p, (c.getD j lt0).2)) = flatC c := by
    rw [flatC_set c j _ hjc]
    have := flatC_get c j
    have hl := flatC_len c
    show ((flatC c).set (2 * j) (c.getD j lt0).2.1).set (2 * j + 1) (c.getD j lt0).2.2 = flatC c
    rw [← this.1, ← this.2]
    apply List.ext_getElem?
    intro i
    simp only [List.getElem?_set]
    split
    · rename_i e; subst e; simp [List.getD, show 2 * j + 1 < (flatC c).length by omega]
    · split
      · rename_i e; subst e; simp [List.getD, show 2 * j < (flatC c).length by omega]
      · rfl
  refine ⟨h.hlo, h.hhi, by simp [h.len], fun i y hy => ?_, fun i => by rw [World.frozen?_setCell]; exact h.free i, ?_⟩
  · rw [List.getElem?_set] at hy
    by_cases e : j = i
    · subst e
      rw [if_pos rfl, if_pos hj] at hy
      obtain rfl : (p, z.2) = y := by simpa using hy
      obtain ⟨_, c1, c2, c3⟩ := h.cell j z hz
      refine ⟨by simp [List.getD, hjc], World.cell?_setCell_same w _ _ c1, ?_, ?_⟩
      · rw [World.cell?_setCell_other (h := by intro h; simp at h <;> omega)]; exact c2
      · rw [World.cell?_setCell_other (h := by intro h; simp at h <;> omega)]; exact c3
    · rw [if_neg e] at hy
      obtain ⟨e1, c1, c2, c3⟩ := h.cell i y hy
      refine ⟨by rw [e1]; simp [List.getD, List.getElem?_set, e], ?_, ?_, ?_⟩
      · rw [World.cell?_setCell_other (h := by intro h; simp at h <;> omega)]; exact c1
      · rw [World.cell?_setCell_other (h := by intro h; simp at h <;> omega)]; exact c2
      · rw [World.cell?_setCell_other (h := by intro h; simp at h <;> omega)]; exact c3
  · rw [rowsC_set zs j z p hz, hflat]
    exact h.ins.but fun x hx _ _ _ => Below.heap_setCell w _ _ x (by simpa using hx)
theorem CRow.terms {lo hi b off : Nat} {w w' : World} {zs : List LV} {c c' : List Lt} {bs : Nat → Nat} (h : CRow lo hi b off w zs c bs) (hb : w'.heap[b]? = w.heap[b]?) (hl : c'.length = c.length) (hp : ∀ j, (c'.getD j lt0).1 = (c.getD j lt0).1) (hi' : Ins lo hi b w' (rowsC zs) (flatC c') bs) :
    CRow lo hi b off w' zs c' bs :=
  ⟨h.hlo, h.hhi, by rw [h.len, hl], fun j z hz => by
    obtain ⟨e1, c1, c2, c3⟩ := h.cell j z hz
    exact ⟨by rw [hp]; exact e1, cell_same (fun _ => hb) c1, cell_same (fun _ => hb) c2, cell_same (fun _ => hb) c3⟩,
   fun i => by rw [World.frozen?_of_block (w := w) (a := ⟨b, i, none⟩) hb]; exact h.free i, hi'⟩
end Go.Proofs.Ytcgjdgpdbehikaa
end
section
/- The laws' helpers over slices of literals: marks. -/
namespace Go.Proofs.Ytcgjdgpdbehikaa
open Go.RowKit

def qlo (bs : Nat → Nat) (i : Nat) (xs : List Int) : Nat := if 0 < xs.length then bs i else 0
def qhi (bs : Nat → Nat) (i : Nat) (xs : List Int) : Nat := if 0 < xs.length then bs i + 1 else 0
theorem Ins.feed {lo hi b w us xss bs} (h : Ins lo hi b w us xss bs) (i : Nat) (u : Value) (hu : us[i]? = some u) : OwnI (qlo bs i (xss.getD i [])) (qhi bs i (xss.getD i [])) w u (xss.getD i []) := by
  have ho := h.own i u hu
  unfold qlo qhi
  split
  · exact ho
  · rename_i h0; rw [len0 h0] at ho ⊢; exact ho.empty
theorem Ins.fed {lo hi b w w' us xss bs} (h : Ins lo hi b w us xss bs) (hb : b < w.heap.size) (i : Nat) (hi' : i < xss.length) (u : Value) (hu : us[i]? = some u) (ys : List Int) (hl : ys.length = (xss.getD i []).length)
    (hch : Chg (qlo bs i (xss.getD i [])) (qhi bs i (xss.getD i [])) w w') (ho : OwnI (qlo bs i (xss.getD i [])) (qhi bs i (xss.getD i [])) w' u ys) :
    Ins lo hi b w' us (xss.set i ys) bs ∧ Chg lo hi w w' ∧ w'.heap[b]? = w.heap[b]? := by
  by_cases hp : 0 < (xss.getD i []).length
  · obtain ⟨a1, a2, a3⟩ := h.rng i hi' hp
    unfold qlo qhi at hch ho
    rw [if_pos hp, if_pos hp] at hch ho
    exact ⟨h.stored i hi' u hu ys hl (fun _ => hch) (fun h0 => absurd (by omega) h0) ho, hch.mono a1 (by omega), hch.block b hb (by omega)⟩
  · unfold qlo qhi at hch ho
    rw [if_neg hp, if_neg hp] at hch ho
    have hy : ys = [] := List.length_eq_zero_iff.1 (by omega)
    subst hy
    exact ⟨h.stored i hi' u hu [] hl (fun h0 => absurd h0 (by simp)) (fun _ => hch) ho.empty, ⟨hch.os, hch.tape, hch.output, hch.size, fun x hx _ => hch.block x hx (by omega)⟩, hch.block b hb (by omega)⟩
theorem CRow.left {lo hi b off : Nat} {w w' : World} {zs : List LV} {c : List Lt} {bs : Nat → Nat} (h : CRow lo hi b off w zs c bs) (hb : b < w.heap.size) (j : Nat) (z : LV) (hz : zs[j]? = some z) (ys : List Int) (hl : ys.length = (c.getD j lt0).2.1.length)
    (hch : Chg (qlo bs (2*j) (c.getD j lt0).2.1) (qhi bs (2*j) (c.getD j lt0).2.1) w w') (ho : OwnI (qlo bs (2*j) (c.getD j lt0).2.1) (qhi bs (2*j) (c.getD j lt0).2.1) w' z.2.1 ys) :
    CRow lo hi b off w' zs (c.set j ((c.getD j lt0).1, ys, (c.getD j lt0).2.2)) bs ∧ Chg lo hi w w' := by
  have hj : j < zs.length := (List.getElem?_eq_some_iff.1 hz).1
  have hjc : j < c.length := by rw [← h.len]; exact hj
  have hfl := flatC_len c
  obtain ⟨g1, g2⟩ := flatC_get c j
  rw [← g1] at hch ho hl
  obtain ⟨k1, k2, k3⟩ := h.ins.fed hb (2*j) (by omega) z.2.1 (rowsC_get zs j z hz).1 ys hl hch ho
  refine ⟨h.terms k3 (by simp) (fun i => ?_) ?_, k2⟩
  · by_cases e : j = i
    · subst e; simp [List.getD, hjc]
    · simp [List.getD, List.getElem?_set, e]
  · have : flatC (c.set j ((c.getD j lt0).1, ys, (c.getD j lt0).2.2)) = (flatC c).set (2*j) ys := by
      rw [flatC_set c j _ hjc]
      show ((flatC c).set (2 * j) ys).set (2 * j + 1) (c.getD j lt0).2.2 = _
      rw [← g2]
      apply List.ext_getElem?
      intro i
      simp only [List.getElem?_set]
      by_cases e : 2 * j + 1 = i
      · subst e; simp [List.getD, show 2 * j + 1 < (flatC c).length by omega]
      · rw [if_neg e]
    rw [this]; exact k1
theorem CRow.right {lo hi b off : Nat} {w w' : World} {zs : List LV} {c : List Lt} {bs : Nat → Nat} (h : CRow lo hi b off w zs c bs) (hb : b < w.heap.size) (j : Nat) (z : LV) (hz : zs[j]? = some z) (ys : List Int) (hl : ys.length = (c.getD j lt0).2.2.length)
    (hch : Chg (qlo bs (2*j+1) (c.getD j lt0).2.2) (qhi bs (2*j+1) (c.getD j lt0).2.2) w w') (ho : OwnI (qlo bs (2*j+1) (c.getD j lt0).2.2) (qhi bs (2*j+1) (c.getD j lt0).2.2) w' z.2.2 ys) :
    CRow lo hi b off w' zs (c.set j ((c.getD j lt0).1, (c.getD j lt0).2.1, ys)) bs ∧ Chg lo hi w w' := by
  have hj : j < zs.length := (List.getElem?_eq_some_iff.1 hz).1
  have hjc : j < c.length := by rw [← h.len]; exact hj
  have hfl := flatC_len c
  obtain ⟨g1, g2⟩ := flatC_get c j
  rw [← g2] at hch ho hl
  obtain ⟨k1, k2, k3⟩ := h.ins.fed hb (2*j+1) (by omega) z.2.2 (rowsC_get zs j z hz).2 ys hl hch ho
  refine ⟨h.terms k3 (by simp) (fun i => ?_) ?_, k2⟩
  · by_cases e : j = i
    · subst e; simp [List.getD, hjc]
    · simp [List.getD, List.getElem?_set, e]
  · have : flatC (c.set j ((c.getD j lt0).1, (c.getD j lt0).2.1, ys)) = (flatC c).set (2*j+1) ys := by
      rw [flatC_set c j _ hjc]
      show ((flatC c).set (2 * j) (c.getD j lt0).2.1).set (2 * j + 1) ys = _
      rw [← g1]
      apply List.ext_getElem?
      intro i
      simp only [List.getElem?_set, List.length_set]
      by_cases e : 2 * j + 1 = i
      · subst e; simp
      · rw [if_neg e, if_neg e]
        by_cases e2 : 2 * j = i
        · subst e2; simp [List.getD, show 2 * j < (flatC c).length by omega]
        · rw [if_neg e2]
    rw [this]; exact k1

theorem set_twice {α : Type} (l : List α) (j : Nat) (a b : α) : (l.set j a).set j b = l.set j b := by simp

def RetMC (lo hi : Nat) (w : World) (v : Value) (c : List Lt) (k : Nat) (e : Ending) (w' : World) : Prop := e = .returned (.int .i64 ((k + sumC c : Nat) : Int)) ∧ Chg lo hi w w' ∧ OwnC lo hi w' v (marksC k c)
theorem OwnC.crow {lo hi : Nat} {w : World} {ad : Option Addr} {n k : Nat} {c : List Lt} (h : OwnC lo hi w (.slice ad n k) c) (hp : 0 < c.length) : ∃ b off zs bs, ad = some ⟨b, off, none⟩ ∧ n = c.length ∧ c.length ≤ k ∧ k ≤ maxLen ∧ CRow lo hi b off w zs c bs := by
  obtain ⟨ad', cap, e, hc, hm, hr⟩ := h
  simp only [Value.slice.injEq] at e
  obtain ⟨rfl, rfl, rfl⟩ := e
  obtain ⟨b, off, zs, bs, e, a1, a2, hl, a3, hf, hi⟩ := hr hp
  exact ⟨b, off, zs, bs, e, rfl, hc, hm.1, a1, a2, hl, a3, hf, hi⟩
theorem CRow.own {lo hi b off k : Nat} {w : World} {zs : List LV} {c : List Lt} {bs : Nat → Nat} (h : CRow lo hi b off w zs c bs) (hc : c.length ≤ k) (hm : k ≤ maxLen) : OwnC lo hi w (.slice (some ⟨b, off, none⟩) c.length k) c :=
  ⟨_, k, rfl, hc, ⟨hm, fun h => by simp at h⟩, fun _ => ⟨b, off, zs, bs, rfl, h.hlo, h.hhi, h.len, h.cell, h.free, h.ins⟩⟩

end Go.Proofs.Ytcgjdgpdbehikaa
end
