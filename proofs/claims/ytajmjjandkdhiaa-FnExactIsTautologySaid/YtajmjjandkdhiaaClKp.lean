/- Chapter 4: what the keys of literals tell. No program. -/
import Derived.Test.YtajmjjandkdhiaaClA
import Derived.Lib.MinMaxS
namespace Go.Proofs.Ytajmjjandkdhiaa
open Go.RowKit

theorem ba_inj (x y : ByteArray) : x.toList = y.toList ↔ x = y := by simp [Lib.toList_data, ByteArray.ext_iff, Array.ext_iff]
def bytesOf (ns : List Int) : ByteArray := ns.foldl (fun r n => r.push (UInt8.ofNat n.toNat)) ByteArray.empty
def keyT (t : List Int) : ByteArray := bytesOf (t.map (· + 12))
abbrev Ky := Bool × ByteArray × ByteArray
def keyL (x : Lt) : Ky := (x.1, Lib.minS (keyT x.2.1) (keyT x.2.2), Lib.maxS (keyT x.2.1) (keyT x.2.2))

theorem bytes_list (ns : List Int) : ∀ s : ByteArray, (ns.foldl (fun r n => r.push (UInt8.ofNat n.toNat)) s).data.toList = s.data.toList ++ ns.map (fun n => UInt8.ofNat n.toNat) := by
  induction ns with
  | nil => intro s; simp
  | cons n r ih => intro s; rw [List.foldl_cons, ih]; simp [ByteArray.push]
theorem keyT_list (t : List Int) : (keyT t).data.toList = t.map (fun n => UInt8.ofNat (n + 12).toNat) := by
  unfold keyT bytesOf
  rw [bytes_list]
  simp [ByteArray.empty, ByteArray.emptyWithCapacity, Function.comp_def]
  try rfl
def inKey (t : List Int) : Prop := ∀ n ∈ t, -12 ≤ n ∧ n ≤ 9
theorem byte_inj {a b : Int} (ha : -12 ≤ a ∧ a ≤ 9) (hb : -12 ≤ b ∧ b ≤ 9) (h : UInt8.ofNat (a + 12).toNat = UInt8.ofNat (b + 12).toNat) : a = b := by
  have := congrArg UInt8.toNat h
  simp at this
  omega
theorem map_inj {f : Int → UInt8} : ∀ {a b : List Int}, (∀ x ∈ a, ∀ y ∈ b, f x = f y → x = y) → a.map f = b.map f → a = b := by
  intro a
  induction a with
  | nil => intro b _ h; cases b with
    | nil => rfl
    | cons y s => simp at h
  | cons x r ih => intro b hi h; cases b with
    | nil => simp at h
    | cons y s =>
      simp only [List.map_cons, List.cons.injEq] at h
      rw [hi x (by simp) y (by simp) h.1, ih (fun p hp q hq => hi p (by simp [hp]) q (by simp [hq])) h.2]
theorem keyT_inj {a b : List Int} (ha : inKey a) (hb : inKey b) : keyT a = keyT b ↔ a = b := by
  constructor
  · intro h
    have := congrArg (fun x : ByteArray => x.data.toList) h
    simp only [keyT_list] at this
    exact map_inj (fun x hx y hy e => byte_inj (ha x hx) (hb y hy) e) this
  · rintro rfl; rfl
theorem lt_no (a : List UInt8) : ¬ a < a := List.lt_irrefl a
theorem lt_tri {x y : ByteArray} (h1 : ¬ x.data.toList < y.data.toList) (h2 : ¬ y.data.toList < x.data.toList) : x = y := by
  have : x.data.toList = y.data.toList := List.le_antisymm h2 h1
  rw [← ba_inj, Lib.toList_data, Lib.toList_data]; exact this
theorem minmax (x y : ByteArray) : (Lib.minS x y = x ∧ Lib.maxS x y = y) ∨ (Lib.minS x y = y ∧ Lib.maxS x y = x) := by
  unfold Lib.minS Lib.maxS
  by_cases h1 : x.data.toList < y.data.toList
  · exact .inl ⟨by rw [if_pos (.inl h1)], by rw [if_pos h1]⟩
  · by_cases h2 : x.data.toList = y.data.toList
    · have : x = y := by rw [← ba_inj, Lib.toList_data, Lib.toList_data]; exact h2
      subst this
      exact .inl ⟨by rw [if_pos (.inr rfl)], by rw [if_neg h1]⟩
    · exact .inr ⟨by rw [if_neg (by rintro (h | h); exact h1 h; exact h2 h)], by rw [if_neg h1]⟩
theorem min_comm (x y : ByteArray) : Lib.minS x y = Lib.minS y x ∧ Lib.maxS x y = Lib.maxS y x := by
  unfold Lib.minS Lib.maxS
  by_cases h1 : x.data.toList < y.data.toList
  · have h2 : ¬ y.data.toList < x.data.toList := fun h => lt_no _ (List.lt_trans h1 h)
    have h3 : ¬ y.data.toList = x.data.toList := fun h => by rw [h] at h1; exact lt_no _ h1
    rw [if_pos (.inl h1), if_pos h1, if_neg (by rintro (h | h); exact h2 h; exact h3 h), if_neg h2]
    exact ⟨rfl, rfl⟩
  · by_cases h2 : y.data.toList < x.data.toList
    · have h3 : ¬ x.data.toList = y.data.toList := fun h => by rw [h] at h2; exact lt_no _ h2
      rw [if_neg (by rintro (h | h); exact h1 h; exact h3 h), if_neg h1, if_pos (.inl h2), if_pos h2]
      exact ⟨rfl, rfl⟩
    · have := lt_tri h1 h2
      subst this
      exact ⟨rfl, rfl⟩
theorem pair_iff (x y u v : ByteArray) : (Lib.minS x y = Lib.minS u v ∧ Lib.maxS x y = Lib.maxS u v) ↔ ((x = u ∧ y = v) ∨ (x = v ∧ y = u)) := by
  constructor
  · rintro ⟨h1, h2⟩
    rcases minmax x y with ⟨a1, a2⟩ | ⟨a1, a2⟩ <;> rcases minmax u v with ⟨b1, b2⟩ | ⟨b1, b2⟩ <;> rw [a1, b1] at h1 <;> rw [a2, b2] at h2
    · exact .inl ⟨h1, h2⟩
    · exact .inr ⟨h1, h2⟩
    · exact .inr ⟨h2, h1⟩
    · exact .inl ⟨h2, h1⟩
  · rintro (⟨rfl, rfl⟩ | ⟨rfl, rfl⟩)
    · exact ⟨rfl, rfl⟩
    · exact min_comm _ _
theorem same_iff (x y : ByteArray) : Lib.minS x y = Lib.maxS x y ↔ x = y := by
  rcases minmax x y with ⟨a1, a2⟩ | ⟨a1, a2⟩ <;> rw [a1, a2]
  exact eq_comm
def inKeyL (x : Lt) : Prop := inKey x.2.1 ∧ inKey x.2.2
theorem ok_inKey {ar : List Int} (hl : ar.length ≤ 10) {t : List Int} (h : okTerm ar t = true) : inKey t := by
  intro n hn
  obtain ⟨k, hk, rfl⟩ := List.getElem_of_mem hn
  have := good_sym ar t h k hk
  simp [okSym, inB, hk] at this
  omega
theorem ok_inKeyL {ar : List Int} (hl : ar.length ≤ 10) {x : Lt} (h : okLit ar x = true) : inKeyL x := ⟨ok_inKey hl (okLit_iff.1 h).1, ok_inKey hl (okLit_iff.1 h).2⟩
theorem inKey_get {t : List Int} (h : inKey t) : ∀ k, k < t.length → -12 ≤ t.getD k 0 ∧ t.getD k 0 ≤ 9 := fun k hk => h _ (getD_mem t 0 k hk)
theorem keyL_same {x y : Lt} (hx : inKeyL x) (hy : inKeyL y) : decide ((keyL x).2 = (keyL y).2) = sameTs x y := by
  rw [Bool.eq_iff_iff, decide_eq_true_iff]
  unfold keyL sameTs
  simp only [Prod.mk.injEq, pair_iff, Bool.or_eq_true, Bool.and_eq_true, decide_eq_true_iff]
  rw [keyT_inj hx.1 hy.1, keyT_inj hx.2 hy.2, keyT_inj hx.1 hy.2, keyT_inj hx.2 hy.1]
theorem keyL_triv {x : Lt} (hx : inKeyL x) : decide ((keyL x).2.1 = (keyL x).2.2) = decide (x.2.1 = x.2.2) := by
  rw [decide_eq_decide]
  unfold keyL
  simp only [same_iff]
  exact keyT_inj hx.1 hx.2
theorem keyL_eq {x y : Lt} (hx : inKeyL x) (hy : inKeyL y) : decide (keyL x = keyL y) = eqvL x y := by
  have h := keyL_same hx hy
  unfold eqvL
  rw [← h, Bool.eq_iff_iff]
  simp only [decide_eq_true_iff, Bool.and_eq_true, beq_iff_eq]
  constructor
  · intro e; exact ⟨congrArg (fun k : Ky => k.1) e, by rw [e]⟩
  · rintro ⟨e1, e2⟩; exact Prod.ext e1 e2
end Go.Proofs.Ytajmjjandkdhiaa
