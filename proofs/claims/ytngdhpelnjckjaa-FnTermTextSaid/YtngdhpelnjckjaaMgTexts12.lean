/- Texts merged, part 12. -/
import Derived.Test.YtngdhpelnjckjaaMgTexts11
section
/- Reading is the reverse of printing. -/
namespace Go.Proofs.Ytngdhpelnjckjaa
open Go.RowKit

theorem let_neg : ∀ k : Nat, k < 12 → (letter (-1 - (k : Int))).toNat = 65 + k := by decide +kernel
theorem let_pos : ∀ k : Nat, k < 10 → (letter (k : Int)).toNat = 97 + k := by decide +kernel
theorem sym_let {ar : List Int} (hl : ar.length ≤ 10) {n : Int} (h : okSym ar n = true) : symAt ar (letter n) = some n := by
  unfold okSym inB at h
  simp at h
  unfold symAt
  by_cases hn : n < 0
  · obtain ⟨k, rfl⟩ : ∃ k : Nat, n = -1 - (k : Int) := ⟨(-1 - n).toNat, by omega⟩
    have := let_neg k (by omega)
    rw [if_pos (by unfold inB; simp; omega), this]
    congr 1; omega
  · obtain ⟨k, rfl⟩ : ∃ k : Nat, n = (k : Int) := ⟨n.toNat, by omega⟩
    have := let_pos k (by omega)
    rw [if_neg (by unfold inB; simp; omega), if_pos (by unfold inB; simp; omega), this]
    congr 1; omega
theorem let_sym {ar : List Int} (hl : ar.length ≤ 10) {b : UInt8} {n : Int} (h : symAt ar b = some n) : letter n = b ∧ okSym ar n = true := by
  unfold symAt at h
  by_cases h1 : inB b.toNat 65 76 = true
  · rw [if_pos h1] at h
    simp at h
    unfold inB at h1
    simp at h1
    obtain ⟨k, hk⟩ : ∃ k : Nat, b.toNat = 65 + k := ⟨b.toNat - 65, by omega⟩
    obtain rfl : n = -1 - (k : Int) := by omega
    refine ⟨UInt8.toNat_inj.1 (by rw [let_neg k (by omega), hk]), by unfold okSym inB; simp; omega⟩
  · rw [if_neg h1] at h
    by_cases h2 : inB b.toNat 97 (97 + (ar.length : Int) - 1) = true
    · rw [if_pos h2] at h
      simp at h
      unfold inB at h2
      simp at h2
      obtain ⟨k, hk⟩ : ∃ k : Nat, b.toNat = 97 + k := ⟨b.toNat - 97, by omega⟩
      obtain rfl : n = (k : Int) := by omega
      refine ⟨UInt8.toNat_inj.1 (by rw [let_pos k (by omega), hk]), by unfold okSym inB; simp; omega⟩
    · rw [if_neg h2] at h; simp at h

/-- l is the text of the term y; of m arguments from the k-th on. -/
inductive Pr (ar : List Int) : Option (Nat × Nat) → List Int → List UInt8 → Prop
  | leaf (n : Int) : okSym ar n = true → arOf ar n = 0 → Pr ar none [n] [letter n]
  | node (n : Int) (ys : List Int) (ls : List UInt8) : okSym ar n = true → arOf ar n ≠ 0 → Pr ar (some (arOf ar n, 0)) ys ls → Pr ar none (n :: ys) (letter n :: (ls ++ [41]))
  | nil (k : Nat) : Pr ar (some (0, k)) [] []
  | cons (m k : Nat) (y ys : List Int) (l ls : List UInt8) : Pr ar none y l → Pr ar (some (m, k + 1)) ys ls → Pr ar (some (m + 1, k)) (y ++ ys) (sepC k :: (l ++ ls))
theorem Pr.seq {ar : List Int} {s : Option (Nat × Nat)} {y : List Int} {l : List UInt8} (h : Pr ar s y l) : seqT ar (match s with | none => 1 | some (m, _) => m) y := by
  induction h with
  | leaf n h1 h2 => exact seqT_cons.2 ⟨h1, by rw [h2]; rfl⟩
  | node n ys ls h1 h2 _ ih => exact seqT_cons.2 ⟨h1, by rw [Nat.zero_add]; exact ih⟩
  | nil k => rfl
  | cons m k y ys l ls _ _ ih1 ih2 =>
    have := seqT_append ih1 ih2
    rwa [Nat.add_comm] at this
theorem Pr.det {ar : List Int} {s : Option (Nat × Nat)} {y : List Int} {l : List UInt8} (h : Pr ar s y l) : ∀ {z : List Int} {l' : List UInt8}, Pr ar s z l' → z = y → l = l' := by
  induction h with
  | leaf n h1 h2 =>
    intro z l' h' e
    cases h' with
    | leaf n' _ _ => simp at e; rw [e]
    | node n' ys' ls' _ h3 _ => simp at e; rw [e.1] at h3; exact absurd h2 h3
  | node n ys ls h1 h2 _ ih =>
    intro z l' h' e
    cases h' with
    | leaf n' _ h3 => simp at e; rw [e.1] at h3; exact absurd h3 h2
    | node n' ys' ls' _ _ h4 =>
      simp at e
      obtain ⟨rfl, rfl⟩ := e
      rw [ih h4 rfl]
  | nil k =>
    intro z l' h' e
    cases h' with
    | nil => rfl
  | cons m k y ys l ls hy hys ih1 ih2 =>
    intro z l' h' e
    cases h' with
    | cons _ _ y' ys' l2 ls2 h3 h4 =>
      have e1 : y' = y := seq_prefix (show seqT ar 1 y' from h3.seq) (show seqT ar 1 y from hy.seq) e
      subst e1
      have e2 := List.append_cancel_left e
      subst e2
      rw [ih1 h3 rfl, ih2 h4 rfl]
theorem drop_at {T r : List UInt8} {p : Nat} {b : UInt8} (h : T.drop p = b :: r) : T[p]? = some b ∧ T.drop (p+1) = r := by
  have h1 : (T.drop p)[0]? = some b := by rw [h]; rfl
  rw [List.getElem?_drop, Nat.add_zero] at h1
  refine ⟨h1, ?_⟩
  rw [← List.drop_drop, h]; rfl
theorem drop_to {T l r : List UInt8} {p : Nat} (h : T.drop p = l ++ r) : T.drop (p + l.length) = r := by
  rw [← List.drop_drop, h, List.drop_left']; rfl
theorem Pr.scan {ar : List Int} (hl : ar.length ≤ 10) {T : List UInt8} {s : Option (Nat × Nat)} {y : List Int} {l : List UInt8} (h : Pr ar s y l) :
    match s with
    | none => ∀ (f p : Nat) (rest : List UInt8), T.drop p = l ++ rest → l.length ≤ f → scanF ar T f p = (y, p + l.length, true)
    | some (m, k) => ∀ (f p : Nat) (rest : List UInt8) (acc : List Int), T.drop p = l ++ 41 :: rest → l.length ≤ f → scanArgs (scanF ar T f) T m k acc p = (acc ++ y, p + l.length + 1, true) := by
  induction h with
  | leaf n h1 h2 =>
    intro f p rest hd hf
    obtain ⟨f, rfl⟩ : ∃ f', f = f' + 1 := ⟨f - 1, by simp at hf; omega⟩
    exact scan_leaf (drop_at hd).1 (sym_let hl h1) h2
  | node n ys ls h1 h2 _ ih =>
    intro f p rest hd hf
    obtain ⟨f, rfl⟩ : ∃ f', f = f' + 1 := ⟨f - 1, by simp at hf; omega⟩
    have hd' : T.drop p = letter n :: (ls ++ 41 :: rest) := by rw [hd]; simp
    obtain ⟨d1, d2⟩ := drop_at hd'
    rw [scan_args d1 (sym_let hl h1) h2, ih f (p+1) rest [n] d2 (by simp at hf; omega)]
    simp; omega
  | nil k =>
    intro f p rest acc hd hf
    rw [args_done (drop_at (show T.drop p = 41 :: rest by simpa using hd)).1]
    simp
  | cons m k y ys l ls _ _ ih1 ih2 =>
    intro f p rest acc hd hf
    simp at hf
    have hd' : T.drop p = sepC k :: (l ++ (ls ++ 41 :: rest)) := by rw [hd]; simp
    obtain ⟨d1, d2⟩ := drop_at hd'
    have hg := ih1 f (p+1) _ d2 (by omega)
    rw [args_next d1 (by rw [hg]), hg, ih2 f _ rest (acc ++ y) (drop_to d2) (by omega)]
    simp; omega
theorem args_back {ar : List Int} {T : List UInt8} {g : Nat → Scanned} (hg : ∀ q y q', g q = (y, q', true) → ∃ l, Pr ar none y l ∧ T.drop q = l ++ T.drop q' ∧ q' = q + l.length) : ∀ (m k : Nat) (acc r : List Int) (p p' : Nat), scanArgs g T m k acc p = (r, p', true) → ∃ ys ls, r = acc ++ ys ∧ Pr ar (some (m, k)) ys ls ∧ T.drop p = ls ++ 41 :: T.drop p' ∧ p' = p + ls.length + 1 := by
  intro m
  induction m with
  | zero =>
    intro k acc r p p' h
    by_cases hc : T[p]? = some 41
    · rw [args_done hc] at h
      simp at h
      obtain ⟨rfl, rfl⟩ := h
      refine ⟨[], [], by simp, Pr.nil k, ?_, rfl⟩
      have hp := (List.getElem?_eq_some_iff.1 hc)
      obtain ⟨hlt, hv⟩ := hp
      rw [List.drop_eq_getElem_cons hlt, hv]; rfl
    · rw [args_noclose hc] at h; simp at h
  | succ m ih =>
    intro k acc r p p' h
    by_cases hc : T[p]? = some (sepC k)
    · cases hb : (g (p+1)).2.2 with
      | false => rw [args_bad hc hb] at h; simp at h
      | true =>
        rw [args_next hc hb] at h
        obtain ⟨l, h1, h2, h3⟩ := hg (p+1) (g (p+1)).1 (g (p+1)).2.1 (by rw [← hb])
        obtain ⟨ys, ls, rfl, h5, h6, h7⟩ := ih (k+1) _ r _ p' h
        refine ⟨(g (p+1)).1 ++ ys, sepC k :: (l ++ ls), by rw [List.append_assoc], Pr.cons m k _ ys l ls h1 h5, ?_, by simp; omega⟩
        obtain ⟨hlt, hv⟩ := List.getElem?_eq_some_iff.1 hc
        rw [List.drop_eq_getElem_cons hlt, hv, h2, h6]
        simp
    · rw [args_nosep hc] at h; simp at h
theorem scan_back {ar : List Int} (hl : ar.length ≤ 10) {T : List UInt8} : ∀ (f p p' : Nat) (y : List Int), scanF ar T f p = (y, p', true) → ∃ l, Pr ar none y l ∧ T.drop p = l ++ T.drop p' ∧ p' = p + l.length := by
  intro f
  induction f with
  | zero => intro p p' y h; simp [scanF] at h
  | succ f ih =>
    intro p p' y h
    by_cases hp : p < T.length
    · have hT : T[p]? = some T[p] := List.getElem?_eq_getElem hp
      cases hs : symAt ar T[p] with
      | none => rw [scan_bad hT hs] at h; simp at h
      | some n =>
        obtain ⟨e1, e2⟩ := let_sym hl hs
        by_cases h0 : arOf ar n = 0
        · rw [scan_leaf hT hs h0] at h
          simp at h
          obtain ⟨rfl, rfl⟩ := h
          refine ⟨[letter n], Pr.leaf n e2 h0, ?_, by simp⟩
          rw [List.drop_eq_getElem_cons hp, e1]; rfl
        · rw [scan_args hT hs h0] at h
          obtain ⟨ys, ls, rfl, h5, h6, h7⟩ := args_back (fun q y q' hq => ih q q' y hq) _ _ _ _ _ _ h
          refine ⟨letter n :: (ls ++ [41]), Pr.node n ys ls e2 h0 h5, ?_, by simp; omega⟩
          rw [List.drop_eq_getElem_cons hp, h6, e1]; simp
    · rw [scan_end hp] at h; simp at h

def accR (g : Nat → List UInt8) : List Nat → Nat → List UInt8
  | [], _ => []
  | a :: r, j => sepC j :: (g a ++ accR g r (j+1))
theorem accR_snoc (g : Nat → List UInt8) (a : Nat) : ∀ (l : List Nat) (j : Nat), accR g (l ++ [a]) j = accR g l j ++ (sepC (j + l.length) :: g a)
  | [], j => by simp [accR]
  | b :: l, j => by
    rw [List.cons_append, accR, accR_snoc g a l (j+1), accR]
    simp
    rw [show j + 1 + l.length = j + (l.length + 1) by omega]
theorem accT_R (g : Nat → List UInt8) (l : List Nat) : ∀ k, k ≤ l.length → accT g l k = accR g (l.take k) 0
  | 0, _ => by simp [accT, accR]
  | k+1, h => by
    rw [accT, accT_R g l k (by omega), List.take_succ_eq_append_getElem (by omega), accR_snoc]
    have : l.getD k 0 = l[k] := by simp [List.getD, show k < l.length by omega]
    rw [this, List.length_take, Nat.min_eq_left (by omega), Nat.zero_add]
    rfl
theorem part_split {t : List Int} {p q e : Nat} (h1 : p ≤ q) (h2 : q ≤ e) : partOf t p e = partOf t p q ++ partOf t q e := by
  unfold partOf
  rw [show e - p = (q - p) + (e - q) by omega, List.take_add, List.drop_drop, show p + (q - p) = q by omega]
theorem args_pr {ar t : List Int} : ∀ (k p e j : Nat), endGo ar (t.drop p) k p = some e → (∀ a ∈ argsGo ar t k p, ∀ q, endOf ar t a = some q → Pr ar none (partOf t a q) (textAt ar t a)) → Pr ar (some (k, j)) (partOf t p e) (accR (textAt ar t) (argsGo ar t k p) j) := by
  intro k
  induction k with
  | zero =>
    intro p e j h _
    rw [endGo_zero] at h
    simp at h
    subst h
    have : partOf t p p = [] := by simp [partOf]
    rw [this]
    exact Pr.nil j
  | succ k ih =>
    intro p e j h hp
    obtain ⟨q, hq, hr, h1, h2⟩ := ends_step ar t p k e h
    have hgo : argsGo ar t (k+1) p = p :: argsGo ar t k q := by rw [argsGo]; simp [hq]
    rw [hgo] at hp ⊢
    rw [part_split (Nat.le_of_lt h1) h2, accR]
    exact Pr.cons k j _ _ _ _ (hp p List.mem_cons_self q hq) (ih q e (j+1) hr (fun a ha => hp a (List.mem_cons_of_mem _ ha)))
theorem text_pr {ar t : List Int} (h : okTerm ar t = true) : ∀ (n i e : Nat), t.length - i ≤ n → i < t.length → endOf ar t i = some e → Pr ar none (partOf t i e) (textAt ar t i) := by
  intro n
  induction n with
  | zero => intro i e hn hi; omega
  | succ n ih =>
    intro i e hn hi he
    have hs := good_sym ar t h i hi
    have hend : endGo ar (t.drop (i+1)) (arOf ar (t.getD i 0)) (i+1) = some e := by
      have h1 := he
      unfold endOf at h1
      rw [drop_cons t i hi, endGo_cons, if_pos hs, Nat.zero_add] at h1
      exact h1
    have hge := endGo_ge _ _ _ _ _ hend
    have hpart : partOf t i e = t.getD i 0 :: partOf t (i+1) e := by
      unfold partOf
      rw [drop_cons t i hi, show e - i = (e - (i+1)) + 1 by omega, List.take_succ_cons]
    have hargs := args_pr (ar := ar) (t := t) _ (i+1) e 0 hend (fun a ha q hq => by
      have hb := argsOf_bd ar t h i hi a ha
      exact ih a q (by omega) hb.2 hq)
    rw [textAt_eq ar t h i hi, hpart, accT_R _ _ _ (Nat.le_refl _), List.take_length]
    have hlen : (argsOf ar t i).length = arOf ar (t.getD i 0) := argsGo_len ar t _ _
    by_cases h0 : arOf ar (t.getD i 0) = 0
    · rw [h0] at hend
      rw [endGo_zero] at hend
      simp at hend
      subst hend
      have hnil : argsOf ar t i = [] := List.length_eq_zero_iff.1 (by rw [hlen, h0])
      rw [hnil]
      have : partOf t (i+1) (i+1) = [] := by simp [partOf]
      rw [this]
      exact Pr.leaf _ hs h0
    · rw [if_neg (by rw [hlen]; exact h0)]
      exact Pr.node _ _ _ hs h0 hargs
theorem text_whole {ar t : List Int} (h : okTerm ar t = true) : Pr ar none t (textAt ar t 0) := by
  obtain ⟨h1, _, h3⟩ := (okTerm_iff ar t).1 h
  have := text_pr h t.length 0 t.length (by omega) (by omega) h3
  rwa [show partOf t 0 t.length = t from by simp [partOf]] at this
theorem read_text {ar t : List Int} (h : goodTerm ar t = true) (hl : (textBA ar t).size ≤ 200) : readAns ar (textBA ar t) = (t, (textBA ar t).size, true) := by
  obtain ⟨hg, hok⟩ := goodTerm_iff.1 h
  have hlen := (sign_len ar hg).2
  have h40 := ((okTerm_iff _ _).1 hok).2.1
  rw [read_yes hg hl]
  have hd : (textBA ar t).data.toList = textAt ar t 0 := by rw [text_yes h]
  have hsz : (textBA ar t).size = (textAt ar t 0).length := by rw [ba_size, hd]
  have hs := Pr.scan hlen (T := textAt ar t 0) (text_whole hok) ((textAt ar t 0).length + 1) 0 [] (by simp) (by omega)
  rw [hd, hs, hsz]
  unfold readCore
  rw [if_neg (by simp), if_pos h40, Nat.zero_add]
theorem text_read {ar : List Int} {s : ByteArray} (h : (readAns ar s).2.2 = true) : goodTerm ar (readAns ar s).1 = true ∧ textBA ar (readAns ar s).1 = s := by
  by_cases hc : goodSign ar = true ∧ s.size ≤ 200
  · obtain ⟨hg, hl⟩ := hc
    have hlen := (sign_len ar hg).2
    rw [read_yes hg hl] at h ⊢
    have hro := scan_read ar s.data.toList (s.data.toList.length + 1) 0
    have hok := scanF_ok ar s.data.toList (s.data.toList.length + 1) 0 (Nat.zero_le _)
    generalize hr : scanF ar s.data.toList (s.data.toList.length + 1) 0 = r at *
    unfold readCore at h ⊢
    by_cases h1 : r.2.2 = false ∨ r.2.1 < s.size
    · rw [if_pos h1] at h; simp at h
    · rw [if_neg h1] at h ⊢
      by_cases h2 : r.1.length ≤ 40
      · rw [if_pos h2] at h ⊢
        have hterm : okTerm ar r.1 = true := by rw [read_term hro h]; simpa using h2
        have hgt : goodTerm ar r.1 = true := by unfold goodTerm; rw [hg, hterm]; rfl
        obtain ⟨l, p1, p2, p3⟩ := scan_back hlen _ _ _ _ (show scanF ar s.data.toList (s.data.toList.length + 1) 0 = (r.1, r.2.1, true) by rw [hr, ← h])
        have hle := hok.1
        have hsz := ba_size s
        have hend : r.2.1 = s.data.toList.length := by omega
        rw [List.drop_zero, hend, List.drop_length, List.append_nil] at p2
        have hdet := (text_whole hterm).det p1 rfl
        refine ⟨hgt, ?_⟩
        rw [text_yes hgt, hdet, ← p2]
      · rw [if_neg h2] at h; simp at h
  · rw [read_no hc] at h; simp at h
end Go.Proofs.Ytngdhpelnjckjaa
end
section
/- Shifted variables: the same up to names. -/
namespace Go.Proofs.Ytngdhpelnjckjaa
open Go.RowKit

theorem shift_same {ar t : List Int} {d : Int} (h : shiftOk ar t d = true) : sameOk ar (shiftAns ar t d) t = true ∧ sameAns ar (shiftAns ar t d) t = true := by
  have h0 := h
  unfold shiftOk at h0
  simp only [Bool.and_eq_true] at h0
  obtain ⟨⟨hgt, hd⟩, hok⟩ := h0
  obtain ⟨hg, hot⟩ := goodTerm_iff.1 hgt
  unfold inB at hd
  simp at hd
  rw [shift_yes h]
  have hs : sameOk ar (shifted t d) t = true := by
    unfold sameOk
    rw [renameOk_one, renameOk_one, hgt]
    unfold goodTerm
    rw [hg, hok]; rfl
  refine ⟨hs, ?_⟩
  unfold sameAns
  rw [hs]
  have hI : Inj1 (fun n => if n < 0 then n - d else n) t := by
    refine ⟨fun n hn => by simp [hn], fun n _ hn => by simp [hn]; omega, fun m _ n _ e => ?_⟩
    split at e <;> split at e <;> omega
  have := (renT_inj hI (t := t) (met := []) (fun x hx => by simp at hx) (fun x hx _ => hx)).1
  rw [List.map_nil] at this
  have he : shifted t d = t.map (fun n => if n < 0 then n - d else n) := rfl
  rw [he, this]
  simp
end Go.Proofs.Ytngdhpelnjckjaa
end
section
/- Contracts of texts with the answers named. -/
namespace Go.Proofs.Ytngdhpelnjckjaa
open Go.RowKit

theorem iTermText_vv {l h l' h' : Nat} {v u : Value} {ar t : List Int} {w : World} (ha : ar.length ≤ 1048576) (hv : SlI l h w v ar) (ht : t.length ≤ 1048576) (hu : SlI l' h' w u t) {s : ByteArray} {k : Bool} (e1 : textBA ar t = s) (e2 : goodTerm ar t = k) :
    Calls Try.prog 40 #[.agg #[v], u] w (RetV w (.tuple #[.string s, .bool k])) := by subst e1 e2; exact iTermText_t ha hv ht hu
theorem iReadTerm_vv {l h : Nat} {v : Value} {ar : List Int} {w : World} (ha : ar.length ≤ 1048576) (hv : SlI l h w v ar) {s : ByteArray} (hs : s.size ≤ 1048576) {y : List Int} {p : Nat} {k : Bool} (e : readAns ar s = (y, p, k)) :
    Calls Try.prog 42 #[.agg #[v], .string s] w (RetScan w (y, p, k)) := by rw [← e]; exact iReadTerm_t ha hv hs
theorem iShiftVars_v {l h l' h' : Nat} {v u : Value} {ar t : List Int} {w : World} (ha : ar.length ≤ 1048576) (hv : SlI l h w v ar) (ht : t.length ≤ 1048576) (hu : SlI l' h' w u t) {i : Int} (h1 : -9223372036854775808 ≤ i) (h2 : i ≤ 9223372036854775807) {xs : List Int} {b : Bool} (e1 : shiftAns ar t i = xs) (e2 : shiftOk ar t i = b) :
    Calls Try.prog 46 #[.agg #[v], u, .int .i64 i] w (RetIB w xs b) := by subst e1 e2; exact iShiftVars_t ha hv ht hu h1 h2
theorem sTermText_vv {l h l' h' : Nat} {v u : Value} {ar t : List Int} {w : World} (ha : ar.length ≤ 1048576) (hv : SlI l h w v ar) (ht : t.length ≤ 1048576) (hu : SlI l' h' w u t) {s : ByteArray} {k : Bool} (e1 : textBA ar t = s) (e2 : goodTerm ar t = k) :
    Calls Try.prog 41 #[.agg #[v], u] w (RetV w (.tuple #[.string s, .bool k])) := by subst e1 e2; exact sTermText_t ha hv ht hu
theorem sReadTerm_vv {l h : Nat} {v : Value} {ar : List Int} {w : World} (ha : ar.length ≤ 1048576) (hv : SlI l h w v ar) {s : ByteArray} (hs : s.size ≤ 1048576) {y : List Int} {p : Nat} {k : Bool} (e : readAns ar s = (y, p, k)) :
    Calls Try.prog 44 #[.agg #[v], .string s] w (RetScan w (y, p, k)) := by rw [← e]; exact sReadTerm_t ha hv hs
theorem sShiftVars_v {l h l' h' : Nat} {v u : Value} {ar t : List Int} {w : World} (ha : ar.length ≤ 1048576) (hv : SlI l h w v ar) (ht : t.length ≤ 1048576) (hu : SlI l' h' w u t) {i : Int} (h1 : -9223372036854775808 ≤ i) (h2 : i ≤ 9223372036854775807) {xs : List Int} {b : Bool} (e1 : shiftAns ar t i = xs) (e2 : shiftOk ar t i = b) :
    Calls Try.prog 47 #[.agg #[v], u, .int .i64 i] w (RetIB w xs b) := by subst e1 e2; exact sShiftVars_t ha hv ht hu h1 h2
theorem text_read2 {ar : List Int} {s : ByteArray} {y : List Int} {p : Nat} (h : readAns ar s = (y, p, true)) : goodTerm ar y = true ∧ textBA ar y = s := by
  have := text_read (ar := ar) (s := s) (by rw [h])
  rwa [h] at this
theorem read_len {ar : List Int} {s : ByteArray} {y : List Int} {p : Nat} {k : Bool} (h : readAns ar s = (y, p, k)) : y.length ≤ 1048576 := by
  have := readAns_len ar s
  rwa [h] at this
end Go.Proofs.Ytngdhpelnjckjaa
end
