/- Texts merged, part 9. -/
import Derived.Test.YtkbgglejhdodoaaDoorMgLists8
section
/- CompareLists, IsFalling: the program's inner functions. -/
namespace Go.Proofs.YtkbgglejhdodoaaDoor
open Go.RowKit

theorem RowV.at2 {W wr : World} {ad : Option Addr} {n c : Nat} {xss : List (List Int)} (h : RowV W wr (.slice ad n c) xss) (k : Nat) (hk : k < xss.length) :
    ∃ g ap cp, ad = some ⟨g, 0, none⟩ ∧ W.heap.size ≤ g ∧ wr.cell? ⟨g, k, none⟩ = some (.slice ap (xss.getD k []).length cp) ∧ SlI 0 W.heap.size W (.slice ap (xss.getD k []).length cp) (xss.getD k []) := by
  obtain ⟨g, z, h1, h2, h3, h4⟩ := h.at k hk
  obtain ⟨x, y, hf⟩ := h4.form
  rw [hf] at h3 h4
  exact ⟨g, x, y, h1, h2, h3, h4⟩
theorem minus_short {a b : List (List Int)} (h : short a) : short (minus a b) := by
  refine ⟨Nat.le_trans (minus_len a b) h.1, fun j hj => ?_⟩
  have hm : (minus a b).getD j [] ∈ a := minus_sub (b := b) (by simp [List.getD, hj])
  obtain ⟨i, hi, e⟩ := List.getElem_of_mem hm
  have := h.2 i hi
  rwa [show a.getD i [] = a[i] from by simp [List.getD, hi], e] at this
/-- All elements low. -/
def lowL (l : List (List Int)) : Prop := ∀ j, j < l.length → lowT (l.getD j [])
theorem minus_low {a b : List (List Int)} (h : lowL a) : lowL (minus a b) := fun j hj => by
  have hm : (minus a b).getD j [] ∈ a := minus_sub (b := b) (by simp [List.getD, hj])
  obtain ⟨i, hi, e⟩ := List.getElem_of_mem hm
  have := h i hi
  rwa [show a.getD i [] = a[i] from by simp [List.getD, hi], e] at this

set_option maxRecDepth 100000 in
set_option maxHeartbeats 400000 in
theorem without_c (l h l' h' : Nat) (v u : Value) (a b : List (List Int)) (w : World) (ha : short a) (hb : short b) (hv : SlS l h w v a) (hu : SlS l' h' w u b) :
    Calls Tryd.prog 88 #[v, u] w (RetRow w (minus a b)) := by
  obtain ⟨ad', cap', rfl⟩ := hu.form
  obtain ⟨hbl, hbm⟩ := hb
  have HA := Lib.hid ha
  have hal := ha.1
  clear ha
  go_enter Tryd.func88, Tryd.ntmps88
  go_wp2_with fail
  refine (cloneS_c _ _ _ a w hal hv).mono ?_; rintro e w1 ⟨g, n, c, rfl, hR, hb1⟩
  go_wp2_with fail
  go_loopw [5, 14] (fun lv i wr => ∃ k : Nat, k ≤ b.length ∧ i = .int .i64 k ∧ RowV w wr lv (minus a (b.take k)) ∧ Bel w wr) (fun _ i _ => b.length - (intOf i).toNat)
  case atStart => exact ⟨0, Nat.zero_le _, rfl, hR, hb1⟩
  case round =>
    clear hR hb1
    obtain ⟨k, hk, rfl, hR, hb1⟩ := hrel
    by_cases hlt : k < b.length
    · obtain ⟨bb, off, p, rfl, -, hc, hp⟩ := hu.at hb1 k hlt
      have hpm := hbm k hlt
      have HM := Lib.hid (minus_take a b k hlt)
      have HS := Lib.hid (minus_short (b := b.take k) HA.out)
      have hxl : (minus a (b.take k)).length ≤ 1048576 := HS.out.1
      clear hu hv hbm
      generalize b.getD k [] = t at *
      generalize minus a (b.take k) = X at *
      obtain ⟨ax, cx, rfl⟩ := hR.form
      obtain ⟨ap, cp, rfl⟩ := hp.form
      obtain ⟨wo, rfl⟩ : ∃ wo, wo = wr := ⟨wr, rfl⟩
      go_wp2_with fail
      go_loopw [5, 20] (fun lv i wr => ∃ j : Nat, lv = .slice ax X.length cx ∧ j ≤ X.length ∧ i = .int .i64 j ∧ t ∉ X.take j ∧ Bel wo wr) (fun _ i _ => X.length - (intOf i).toNat)
      case atStart => exact ⟨0, rfl, Nat.zero_le _, rfl, by simp, Bel.rfl' _⟩
      case round =>
        obtain ⟨j, rfl, hj, rfl, hn, hb2⟩ := hrel
        by_cases hjl : j < X.length
        · have hR2 := hR.bel hb2
          obtain ⟨gx, az, cz, rfl, hgx, hcell, hz⟩ := hR2.at2 j hjl
          have hzl := HS.out.2 j hjl
          have hz2 := hz.below (hb1.step hb2)
          have HN := Lib.hid (And.intro (fun h => erase_at (t := t) hjl hn h) (fun h => not_take (t := t) hjl hn h))
          have HR := Lib.hid (And.intro hR2 (hb1.step hb2))
          have hp2 := hp.below hb2
          clear hn hR hR2 hz hp hc
          generalize X.getD j [] = y at *
          by_cases he : y = t
          · have HE := Lib.hid (fun (w' : World) (hq : Bel wr w') => slEqual_v _ _ _ _ _ _ t y true w' (by simpa using he.symm) hpm hzl (hp2.below hq) (hz2.below hq))
            have E := Lib.hid (HN.out.1 he)
            clear HN he
            go_wp2_with fail
            refine (HE.out _ (Bel.rfl' _)).mono ?_; rintro e w3 ⟨rfl, hb3⟩
            go_wp2_with fail
            refine (deleteS_c w w3 _ _ _ j X hjl hxl (HR.out.2.step hb3) (HR.out.1.bel hb3)).mono ?_; rintro e w4 ⟨g4, n4, c4, rfl, hR4, hb4⟩
            go_wp2_with fail
            go_roundw
            case rel => exact ⟨k+1, by omega, by go_num, by rw [HM.out, E.out]; exact hR4, hb4⟩
            case measure => simp [intOf]; omega
          · have HE := Lib.hid (fun (w' : World) (hq : Bel wr w') => slEqual_v _ _ _ _ _ _ t y false w' (by simpa using fun h => he h.symm) hpm hzl (hp2.below hq) (hz2.below hq))
            have E := Lib.hid (HN.out.2 he)
            clear HN he
            go_wp2_with fail
            refine (HE.out _ (Bel.rfl' _)).mono ?_; rintro e w3 ⟨rfl, hb3⟩
            go_wp2_with fail
            go_roundw
            case rel => exact ⟨j+1, rfl, by omega, by go_num, E.out, hb2.step hb3⟩
            case measure => simp [intOf]; omega
        · have E := Lib.hid (erase_none (t := t) hjl hn)
          have hR2 := hR.bel hb2
          clear hn hR
          go_wp2_with fail
          go_roundw
          case rel => exact ⟨k+1, by omega, by go_num, by rw [HM.out, E.out]; exact hR2, hb1.step hb2⟩
          case measure => simp [intOf]; omega
    · rw [List.take_of_length_le (by omega)] at hR
      obtain ⟨ax, cx, rfl⟩ := hR.form
      go_wp2_with fail
      go_ret
      exact ⟨_, _, _, rfl, hR, hb1⟩

theorem domFn_c (l h l' h' g : Nat) (x p : Value) (u t : List Int) (q : Bool) (w : World) (he : above u t = q) (hT : Tab w) (hul : u.length ≤ 1048576) (htl : t.length ≤ 1048576) (hlu : lowT u) (hlt : lowT t) (hc : w.cell? ⟨g, 0, none⟩ = some p) (hx : SlI l h w x u) (hp : SlI l' h' w p t) :
    Calls Tryd.prog 96 #[x, .pointer (some ⟨g, 0, none⟩)] w (RetV w (.bool q)) := by
  obtain ⟨ax, cx, rfl⟩ := hx.form
  obtain ⟨ap, cp, rfl⟩ := hp.form
  go_enter Tryd.func96, Tryd.ntmps96
  go_wp2_with fail
  refine (isAbove_v l h l' h' _ _ u t q w he hT hul htl hlu hlt hx hp).mono ?_; rintro e w1 ⟨rfl, hb1⟩
  go_wp2_with fail
  go_ret
  exact ⟨rfl, hb1⟩

def RetIx (w : World) (q : Bool) (e : Ending) (w' : World) : Prop := ∃ x : Int, e = .returned (.int .i64 x) ∧ decide (0 ≤ x) = q ∧ Bel w w'
set_option maxRecDepth 100000 in
set_option maxHeartbeats 400000 in
theorem indexFn_c (l h l' h' g : Nat) (v p : Value) (a : List (List Int)) (t : List Int) (w : World) (hT : Tab w) (ha : short a) (hla : lowL a) (htl : t.length ≤ 1048576) (hlt : lowT t) (hc : w.cell? ⟨g, 0, none⟩ = some p) (hp : SlI l' h' w p t) (hv : SlS l h w v a) :
    Calls Tryd.prog 98 #[v, .func (.func 96) #[] #[.pointer (some ⟨g, 0, none⟩)]] w (RetIx w (a.any fun u => above u t)) := by
  have eg : ∀ args w, (callFunc 96 args).run Tryd.prog w = .ok (.enter 96 args) w := enters_of Tryd.func96 (by kernel_rfl) rfl
  obtain ⟨ad, cap, rfl⟩ := hv.form
  obtain ⟨hal, ham⟩ := ha
  have hgl := World.block_lt_of_cell? w ⟨g, 0, none⟩ hc
  go_enter Tryd.func98, Tryd.ntmps98
  go_wp2_with fail
  go_loopw [8] (fun i wr => ∃ k : Nat, k ≤ a.length ∧ i = .int .i64 k ∧ ((a.take k).any fun u => above u t) = false ∧ Bel w wr) (fun i _ => a.length - (intOf i).toNat)
  case atStart => exact ⟨0, Nat.zero_le _, rfl, rfl, Bel.rfl' _⟩
  case round =>
    obtain ⟨k, hk, rfl, hn, hb⟩ := hrel
    by_cases hkl : k < a.length
    · obtain ⟨bb, off, z, rfl, -, hcell, hz⟩ := hv.at hb k hkl
      have hzl := ham k hkl
      have hzlow := hla k hkl
      have hc2 := hb.at hgl hc
      have HN := Lib.hid (And.intro (any_take (t := t) hkl hn) (fun h => any_yes (t := t) hkl h))
      clear hn hv ham hla
      generalize a.getD k [] = y at *
      obtain ⟨az, cz, rfl⟩ := hz.form
      cases hab : above y t with
      | true =>
        have HD := Lib.hid (domFn_c _ _ _ _ g _ p y t true wr hab (hT.bel hb) hzl htl hzlow hlt hc2 hz (hp.below hb))
        have E := Lib.hid (HN.out.2 hab)
        clear HN hab
        go_wp2_with (go_at_fn 96; refine HD.out.mono ?_; rintro e w2 ⟨rfl, hb2⟩)
        go_ret
        exact ⟨_, rfl, by rw [E.out]; simp, hb.step hb2⟩
      | false =>
        have HD := Lib.hid (domFn_c _ _ _ _ g _ p y t false wr hab (hT.bel hb) hzl htl hzlow hlt hc2 hz (hp.below hb))
        have E := Lib.hid (HN.out.1.trans hab)
        clear HN hab
        go_wp2_with (go_at_fn 96; refine HD.out.mono ?_; rintro e w2 ⟨rfl, hb2⟩)
        go_roundw
        case rel => exact ⟨k+1, by omega, by go_num, E.out, hb.step hb2⟩
        case measure => simp [intOf]; omega
    · have E := Lib.hid (any_end (t := t) hkl hn)
      clear hn
      go_wp2_with fail
      go_ret
      exact ⟨_, rfl, by rw [E.out]; rfl, hb⟩
theorem containsFn_c (l h l' h' g : Nat) (v p : Value) (a : List (List Int)) (t : List Int) (q : Bool) (w : World) (he : (a.any fun u => above u t) = q) (hT : Tab w) (ha : short a) (hla : lowL a) (htl : t.length ≤ 1048576) (hlt : lowT t) (hc : w.cell? ⟨g, 0, none⟩ = some p) (hp : SlI l' h' w p t) (hv : SlS l h w v a) :
    Calls Tryd.prog 97 #[v, .func (.func 96) #[] #[.pointer (some ⟨g, 0, none⟩)]] w (RetV w (.bool q)) := by
  have HI := Lib.hid (indexFn_c l h l' h' g v p a t w hT ha hla htl hlt hc hp hv)
  rw [he] at HI
  obtain ⟨ad, cap, rfl⟩ := hv.form
  clear he
  go_enter Tryd.func97, Tryd.ntmps97
  go_wp2_with fail
  refine HI.out.mono ?_; rintro e w1 ⟨x, rfl, hx, hb1⟩
  go_wp2_with fail
  go_ret
  subst hx
  exact ⟨rfl, hb1⟩

set_option maxRecDepth 100000 in
set_option maxHeartbeats 400000 in
theorem dominates_v (l h l' h' : Nat) (v u : Value) (a b : List (List Int)) (q : Bool) (w : World) (hd : dom a b = q) (hT : Tab w) (ha : short a) (hla : lowL a) (hb : short b) (hlb : lowL b) (hv : SlS l h w v a) (hu : SlS l' h' w u b) :
    Calls Tryd.prog 89 #[v, u] w (RetV w (.bool q)) := by
  have hmf : ∀ (fn : Fn) (first cap : Array Value) (w : World), (Instr.makeFunc fn first cap).run Tryd.prog w = .ok (.func fn first cap) w := fun _ _ _ _ => rfl
  obtain ⟨ad, cap, rfl⟩ := hv.form
  obtain ⟨ad', cap', rfl⟩ := hu.form
  obtain ⟨hbl, hbm⟩ := hb
  have HD := Lib.hid hd
  clear hd
  go_enter Tryd.func89, Tryd.ntmps89
  go_wp2_with fail
  go_loopw [10] (fun i wr => ∃ k : Nat, k ≤ b.length ∧ i = .int .i64 k ∧ dom a (b.take k) = true ∧ Bel w wr) (fun i _ => b.length - (intOf i).toNat)
  case atStart => exact ⟨0, Nat.zero_le _, rfl, rfl, Bel.rfl' _⟩
  case round =>
    obtain ⟨k, hk, rfl, hn, hb1⟩ := hrel
    by_cases hlt : k < b.length
    · obtain ⟨bb, off, p, rfl, -, hc, hp⟩ := hu.at hb1 k hlt
      have hpl := hbm k hlt
      have hplow := hlb k hlt
      have HN := Lib.hid (And.intro (fun h => dom_no (a := a) hlt h) (fun h => dom_take hlt hn h))
      have hv1 := hv.below hb1
      have hT1 := hT.bel hb1
      clear hn hu hbm hlb hv
      generalize b.getD k [] = t at *
      obtain ⟨ap, cp, rfl⟩ := hp.form
      have hs := Bel.alloc0 wr (.cells #[.slice ap t.length cp] 24)
      have hcc : (wr.alloc (.cells #[.slice ap t.length cp] 24)).cell? ⟨wr.heap.size, 0, none⟩ = some (.slice ap t.length cp) := by rw [World.cell?_alloc_new wr]; rfl
      generalize hq : (a.any fun u => above u t) = r
      have HC := Lib.hid (fun (w' : World) (hq2 : Bel wr w') (hc2 : w'.cell? ⟨wr.heap.size, 0, none⟩ = some (.slice ap t.length cp)) => containsFn_c _ _ _ _ wr.heap.size _ _ a t r w' hq (hT1.bel hq2) ha hla hpl hplow hc2 (hp.below hq2) (hv1.below hq2))
      have HB := Lib.hid hb1
      cases r with
      | false =>
        have E : Hid (q = false) := HD.out.symm.trans (HN.out.1 hq)
        clear hq HN hv1 hp
        go_wp2_with fail
        refine (HC.out _ hs hcc).mono ?_; rintro e w2 ⟨rfl, hb2⟩
        go_wp2_with fail
        go_ret
        exact ⟨by rw [E.out]; rfl, HB.out.step (hs.step hb2)⟩
      | true =>
        have E := Lib.hid (HN.out.2 hq)
        clear hq HN hv1 hp
        go_wp2_with fail
        refine (HC.out _ hs hcc).mono ?_; rintro e w2 ⟨rfl, hb2⟩
        go_wp2_with fail
        go_roundw
        case rel => exact ⟨k+1, by omega, by go_num, E.out, HB.out.step (hs.step hb2)⟩
        case measure => simp [intOf]; omega
    · have E : Hid (q = true) := HD.out.symm.trans (dom_all hlt hn)
      clear hn
      go_wp2_with fail
      go_ret
      exact ⟨by rw [E.out]; rfl, hb1⟩
end Go.Proofs.YtkbgglejhdodoaaDoor
end
section
/- CompareLists, IsFalling: the program's. -/
namespace Go.Proofs.YtkbgglejhdodoaaDoor
open Go.RowKit

theorem goodTerms_low {ar : List Int} {b : List (List Int)} {m : Nat} (h : goodTerms ar b m = true) : lowL b := fun j hj => okTerm_low (goodTerms_get h j hj)

set_option maxRecDepth 100000 in
set_option maxHeartbeats 800000 in
theorem comparedLists_c (l h l' h' : Nat) (v u : Value) (a b : List (List Int)) (w : World) (hT : Tab w) (ha : short a) (hla : lowL a) (hb : short b) (hlb : lowL b) (hv : SlS l h w v a) (hu : SlS l' h' w u b) :
    Calls Tryd.prog 66 #[v, u] w (RetV w (.int .i64 (cmpL a b))) := by
  obtain ⟨ad, cap, rfl⟩ := hv.form
  obtain ⟨ad', cap', rfl⟩ := hu.form
  have H1 := Lib.hid (without_c l h l' h' _ _ a b w ha hb hv hu)
  have H2 := Lib.hid (fun (w' : World) (hq : Bel w w') => without_c l' h' l h _ _ b a w' hb ha (hu.below hq) (hv.below hq))
  have hsx := minus_short (b := b) ha
  have hsy := minus_short (b := a) hb
  have hlx := minus_low (b := b) hla
  have hly := minus_low (b := a) hlb
  have E0 := Lib.hid (fun h1 h2 => cmpL_0 (a := a) (b := b) h1 h2)
  have E1 := Lib.hid (fun h0 h1 => cmpL_1 (a := a) (b := b) h0 h1)
  have Em := Lib.hid (fun h0 h1 h2 => cmpL_m (a := a) (b := b) h0 h1 h2)
  have E2 := Lib.hid (fun h0 h1 h2 => cmpL_2 (a := a) (b := b) h0 h1 h2)
  generalize cmpL a b = z at *
  generalize minus a b = X at *
  generalize minus b a = Y at *
  by_cases hx0 : X.length = 0
  · have d1 : ((X.length : Int) == 0) = true := by simpa using hx0
    by_cases hy0 : Y.length = 0
    · have d2 : ((Y.length : Int) == 0) = true := by simpa using hy0
      have E : Hid (z = 0) := E0.out (List.length_eq_zero_iff.1 hx0) (List.length_eq_zero_iff.1 hy0)
      clear hx0 hy0 E0 E1 Em E2
      go_enter Tryd.func66, Tryd.ntmps66
      go_wp2_with fail
      refine H1.out.mono ?_; rintro e w1 ⟨g1, n1, c1, rfl, hX, hb1⟩
      obtain ⟨_, _, ef⟩ := hX.form
      simp only [Value.slice.injEq] at ef
      obtain ⟨rfl, rfl, rfl⟩ := ef
      go_wp2_with fail
      refine (H2.out _ hb1).mono ?_; rintro e w2 ⟨g2, n2, c2, rfl, hY, hb2⟩
      obtain ⟨_, _, ef⟩ := hY.form
      simp only [Value.slice.injEq] at ef
      obtain ⟨rfl, rfl, rfl⟩ := ef
      have hX2 := (hX.sls hb1).below hb2
      have hY2 := hY.sls hb2
      have hb12 := hb1.step hb2
      go_wp2_with fail
      go_ret
      exact ⟨by rw [E.out]; rfl, hb12⟩
    · have d2 : ((Y.length : Int) == 0) = false := by simp; exact fun h => hy0 (by rw [h]; rfl)
      have h0 : ¬ (X = [] ∧ Y = []) := fun h => hy0 (by rw [h.2]; rfl)
      clear hx0 hy0
      have h0b : ¬ (Y = [] ∧ X = []) := fun h => h0 ⟨h.2, h.1⟩
      cases hd1 : dom X Y with
      | true =>
        have E : Hid (z = 1) := E1.out h0 hd1
        clear E0 E1 Em E2
        go_enter Tryd.func66, Tryd.ntmps66
        go_wp2_with fail
        refine H1.out.mono ?_; rintro e w1 ⟨g1, n1, c1, rfl, hX, hb1⟩
        obtain ⟨_, _, ef⟩ := hX.form
        simp only [Value.slice.injEq] at ef
        obtain ⟨rfl, rfl, rfl⟩ := ef
        go_wp2_with fail
        refine (H2.out _ hb1).mono ?_; rintro e w2 ⟨g2, n2, c2, rfl, hY, hb2⟩
        obtain ⟨_, _, ef⟩ := hY.form
        simp only [Value.slice.injEq] at ef
        obtain ⟨rfl, rfl, rfl⟩ := ef
        have hX2 := (hX.sls hb1).below hb2
        have hY2 := hY.sls hb2
        have hb12 := hb1.step hb2
        go_wp2_with fail
        refine (dominates_v _ _ _ _ _ _ X Y true _ hd1 (hT.bel hb12) hsx hlx hsy hly hX2 hY2).mono ?_; rintro e w3 ⟨rfl, hb3⟩
        have hbs3 := hb12.step hb3
        replace hX2 := hX2.below hb3
        replace hY2 := hY2.below hb3
        go_wp2_with fail
        go_ret
        exact ⟨by rw [E.out]; rfl, hbs3⟩
      | false =>
        cases hd2 : dom Y X with
        | true =>
          have E : Hid (z = -1) := Em.out h0 hd1 hd2
          clear E0 E1 Em E2
          go_enter Tryd.func66, Tryd.ntmps66
          go_wp2_with fail
          refine H1.out.mono ?_; rintro e w1 ⟨g1, n1, c1, rfl, hX, hb1⟩
          obtain ⟨_, _, ef⟩ := hX.form
          simp only [Value.slice.injEq] at ef
          obtain ⟨rfl, rfl, rfl⟩ := ef
          go_wp2_with fail
          refine (H2.out _ hb1).mono ?_; rintro e w2 ⟨g2, n2, c2, rfl, hY, hb2⟩
          obtain ⟨_, _, ef⟩ := hY.form
          simp only [Value.slice.injEq] at ef
          obtain ⟨rfl, rfl, rfl⟩ := ef
          have hX2 := (hX.sls hb1).below hb2
          have hY2 := hY.sls hb2
          have hb12 := hb1.step hb2
          go_wp2_with fail
          refine (dominates_v _ _ _ _ _ _ X Y false _ hd1 (hT.bel hb12) hsx hlx hsy hly hX2 hY2).mono ?_; rintro e w3 ⟨rfl, hb3⟩
          have hbs3 := hb12.step hb3
          replace hX2 := hX2.below hb3
          replace hY2 := hY2.below hb3
          go_wp2_with fail
          refine (dominates_v _ _ _ _ _ _ Y X true _ hd2 (hT.bel hbs3) hsy hly hsx hlx hY2 hX2).mono ?_; rintro e w4 ⟨rfl, hb4⟩
          have hbs4 := hbs3.step hb4
          replace hX2 := hX2.below hb4
          replace hY2 := hY2.below hb4
          go_wp2_with fail
          go_ret
          exact ⟨by rw [E.out]; rfl, hbs4⟩
        | false =>
          have E : Hid (z = 2) := E2.out h0 hd1 hd2
          clear E0 E1 Em E2
          go_enter Tryd.func66, Tryd.ntmps66
          go_wp2_with fail
          refine H1.out.mono ?_; rintro e w1 ⟨g1, n1, c1, rfl, hX, hb1⟩
          obtain ⟨_, _, ef⟩ := hX.form
          simp only [Value.slice.injEq] at ef
          obtain ⟨rfl, rfl, rfl⟩ := ef
          go_wp2_with fail
          refine (H2.out _ hb1).mono ?_; rintro e w2 ⟨g2, n2, c2, rfl, hY, hb2⟩
          obtain ⟨_, _, ef⟩ := hY.form
          simp only [Value.slice.injEq] at ef
          obtain ⟨rfl, rfl, rfl⟩ := ef
          have hX2 := (hX.sls hb1).below hb2
          have hY2 := hY.sls hb2
          have hb12 := hb1.step hb2
          go_wp2_with fail
          refine (dominates_v _ _ _ _ _ _ X Y false _ hd1 (hT.bel hb12) hsx hlx hsy hly hX2 hY2).mono ?_; rintro e w3 ⟨rfl, hb3⟩
          have hbs3 := hb12.step hb3
          replace hX2 := hX2.below hb3
          replace hY2 := hY2.below hb3
          go_wp2_with fail
          refine (dominates_v _ _ _ _ _ _ Y X false _ hd2 (hT.bel hbs3) hsy hly hsx hlx hY2 hX2).mono ?_; rintro e w4 ⟨rfl, hb4⟩
          have hbs4 := hbs3.step hb4
          replace hX2 := hX2.below hb4
          replace hY2 := hY2.below hb4
          go_wp2_with fail
          go_ret
          exact ⟨by rw [E.out]; rfl, hbs4⟩
  · have d1 : ((X.length : Int) == 0) = false := by simp; exact fun h => hx0 (by rw [h]; rfl)
    have h0 : ¬ (X = [] ∧ Y = []) := fun h => hx0 (by rw [h.1]; rfl)
    clear hx0
    have h0b : ¬ (Y = [] ∧ X = []) := fun h => h0 ⟨h.2, h.1⟩
    cases hd1 : dom X Y with
    | true =>
      have E : Hid (z = 1) := E1.out h0 hd1
      clear E0 E1 Em E2
      go_enter Tryd.func66, Tryd.ntmps66
      go_wp2_with fail
      refine H1.out.mono ?_; rintro e w1 ⟨g1, n1, c1, rfl, hX, hb1⟩
      obtain ⟨_, _, ef⟩ := hX.form
      simp only [Value.slice.injEq] at ef
      obtain ⟨rfl, rfl, rfl⟩ := ef
      go_wp2_with fail
      refine (H2.out _ hb1).mono ?_; rintro e w2 ⟨g2, n2, c2, rfl, hY, hb2⟩
      obtain ⟨_, _, ef⟩ := hY.form
      simp only [Value.slice.injEq] at ef
      obtain ⟨rfl, rfl, rfl⟩ := ef
      have hX2 := (hX.sls hb1).below hb2
      have hY2 := hY.sls hb2
      have hb12 := hb1.step hb2
      go_wp2_with fail
      refine (dominates_v _ _ _ _ _ _ X Y true _ hd1 (hT.bel hb12) hsx hlx hsy hly hX2 hY2).mono ?_; rintro e w3 ⟨rfl, hb3⟩
      have hbs3 := hb12.step hb3
      replace hX2 := hX2.below hb3
      replace hY2 := hY2.below hb3
      go_wp2_with fail
      go_ret
      exact ⟨by rw [E.out]; rfl, hbs3⟩
    | false =>
      cases hd2 : dom Y X with
      | true =>
        have E : Hid (z = -1) := Em.out h0 hd1 hd2
        clear E0 E1 Em E2
        go_enter Tryd.func66, Tryd.ntmps66
        go_wp2_with fail
        refine H1.out.mono ?_; rintro e w1 ⟨g1, n1, c1, rfl, hX, hb1⟩
        obtain ⟨_, _, ef⟩ := hX.form
        simp only [Value.slice.injEq] at ef
        obtain ⟨rfl, rfl, rfl⟩ := ef
        go_wp2_with fail
        refine (H2.out _ hb1).mono ?_; rintro e w2 ⟨g2, n2, c2, rfl, hY, hb2⟩
        obtain ⟨_, _, ef⟩ := hY.form
        simp only [Value.slice.injEq] at ef
        obtain ⟨rfl, rfl, rfl⟩ := ef
        have hX2 := (hX.sls hb1).below hb2
        have hY2 := hY.sls hb2
        have hb12 := hb1.step hb2
        go_wp2_with fail
        refine (dominates_v _ _ _ _ _ _ X Y false _ hd1 (hT.bel hb12) hsx hlx hsy hly hX2 hY2).mono ?_; rintro e w3 ⟨rfl, hb3⟩
        have hbs3 := hb12.step hb3
        replace hX2 := hX2.below hb3
        replace hY2 := hY2.below hb3
        go_wp2_with fail
        refine (dominates_v _ _ _ _ _ _ Y X true _ hd2 (hT.bel hbs3) hsy hly hsx hlx hY2 hX2).mono ?_; rintro e w4 ⟨rfl, hb4⟩
        have hbs4 := hbs3.step hb4
        replace hX2 := hX2.below hb4
        replace hY2 := hY2.below hb4
        go_wp2_with fail
        go_ret
        exact ⟨by rw [E.out]; rfl, hbs4⟩
      | false =>
        have E : Hid (z = 2) := E2.out h0 hd1 hd2
        clear E0 E1 Em E2
        go_enter Tryd.func66, Tryd.ntmps66
        go_wp2_with fail
        refine H1.out.mono ?_; rintro e w1 ⟨g1, n1, c1, rfl, hX, hb1⟩
        obtain ⟨_, _, ef⟩ := hX.form
        simp only [Value.slice.injEq] at ef
        obtain ⟨rfl, rfl, rfl⟩ := ef
        go_wp2_with fail
        refine (H2.out _ hb1).mono ?_; rintro e w2 ⟨g2, n2, c2, rfl, hY, hb2⟩
        obtain ⟨_, _, ef⟩ := hY.form
        simp only [Value.slice.injEq] at ef
        obtain ⟨rfl, rfl, rfl⟩ := ef
        have hX2 := (hX.sls hb1).below hb2
        have hY2 := hY.sls hb2
        have hb12 := hb1.step hb2
        go_wp2_with fail
        refine (dominates_v _ _ _ _ _ _ X Y false _ hd1 (hT.bel hb12) hsx hlx hsy hly hX2 hY2).mono ?_; rintro e w3 ⟨rfl, hb3⟩
        have hbs3 := hb12.step hb3
        replace hX2 := hX2.below hb3
        replace hY2 := hY2.below hb3
        go_wp2_with fail
        refine (dominates_v _ _ _ _ _ _ Y X false _ hd2 (hT.bel hbs3) hsy hly hsx hlx hY2 hX2).mono ?_; rintro e w4 ⟨rfl, hb4⟩
        have hbs4 := hbs3.step hb4
        replace hX2 := hX2.below hb4
        replace hY2 := hY2.below hb4
        go_wp2_with fail
        go_ret
        exact ⟨by rw [E.out]; rfl, hbs4⟩

set_option maxRecDepth 100000 in
set_option maxHeartbeats 400000 in
theorem iCompareLists_t {l h l' h' l2 h2 : Nat} {v x y : Value} {ar : List Int} {a b : List (List Int)} {w : World} (hT : Tab w) (ha : ar.length ≤ 1048576) (hv : SlI l h w v ar) (hsa : short a) (hx : SlS l' h' w x a) (hsb : short b) (hy : SlS l2 h2 w y b) :
    Calls Tryd.prog 25 #[.agg #[v], x, y] w (RetV w (.tuple #[.int .i64 (lisAns ar a b), .bool (lisOk ar a b)])) := by
  obtain ⟨xa, xc, rfl⟩ := hx.form
  obtain ⟨ya, yc, rfl⟩ := hy.form
  cases hg1 : goodTerms ar a 8 with
  | false =>
    have e0 : lisOk ar a b = false := by simp [lisOk, hg1]
    have E := Lib.hid (And.intro e0 (lis_no e0))
    have H1 := Lib.hid (fun (w' : World) (hq : Bel w w') => goodTerms_v l h l' h' v _ ar a 8 false w' hg1 (by decide) ha (hv.below hq) hsa (hx.below hq) )
    clear hg1 e0
    rw [E.out.1, E.out.2]
    go_enter Tryd.func25, Tryd.ntmps25
    go_wp2_with fail
    refine (H1.out _ (Bel.alloc0 _ _)).mono ?_; rintro e w1 ⟨rfl, hb1⟩
    go_wp2_with fail
    go_ret2
    exact ⟨rfl, hb1.of_alloc⟩
  | true =>
    have H1 := Lib.hid (fun (w' : World) (hq : Bel w w') => goodTerms_v l h l' h' v _ ar a 8 true w' hg1 (by decide) ha (hv.below hq) hsa (hx.below hq) )
    cases hg2 : goodTerms ar b 8 with
    | false =>
      have e0 : lisOk ar a b = false := by simp [lisOk, hg2]
      have E := Lib.hid (And.intro e0 (lis_no e0))
      have H2 := Lib.hid (fun (w' : World) (hq : Bel w w') => goodTerms_v l h l2 h2 v _ ar b 8 false w' hg2 (by decide) ha (hv.below hq) hsb (hy.below hq) )
      clear hg1 hg2 e0
      rw [E.out.1, E.out.2]
      go_enter Tryd.func25, Tryd.ntmps25
      go_wp2_with fail
      refine (H1.out _ (Bel.alloc0 _ _)).mono ?_; rintro e w1 ⟨rfl, hb1⟩
      have hx1 := boxc hb1 0 _ rfl
      go_wp2_with fail
      refine (H2.out _ hb1.of_alloc).mono ?_; rintro e w2 ⟨rfl, hb2⟩
      go_wp2_with fail
      go_ret2
      exact ⟨rfl, hb1.of_alloc.step hb2⟩
    | true =>
      have e0 : lisOk ar a b = true := by simp [lisOk, hg1, hg2]
      have hla := goodTerms_low hg1
      have hlb := goodTerms_low hg2
      have H2 := Lib.hid (fun (w' : World) (hq : Bel w w') => goodTerms_v l h l2 h2 v _ ar b 8 true w' hg2 (by decide) ha (hv.below hq) hsb (hy.below hq) )
      have E := Lib.hid (And.intro e0 (lis_yes e0))
      clear hg1 hg2 e0
      rw [E.out.1, E.out.2]
      have H3 := Lib.hid (fun (w' : World) (hq : Bel w w') => comparedLists_c l' h' l2 h2 _ _ a b w' (hT.bel hq) hsa hla hsb hlb (hx.below hq) (hy.below hq))
      go_enter Tryd.func25, Tryd.ntmps25
      go_wp2_with fail
      refine (H1.out _ (Bel.alloc0 _ _)).mono ?_; rintro e w1 ⟨rfl, hb1⟩
      have hx1 := boxc hb1 0 _ rfl
      go_wp2_with fail
      refine (H2.out _ hb1.of_alloc).mono ?_; rintro e w2 ⟨rfl, hb2⟩
      have hb12 := hb1.of_alloc.step hb2
      go_wp2_with fail
      refine (H3.out _ hb12).mono ?_; rintro e w3 ⟨rfl, hb3⟩
      go_wp2_with fail
      go_ret2
      exact ⟨rfl, hb12.step hb3⟩

set_option maxRecDepth 100000 in
set_option maxHeartbeats 400000 in
theorem iIsFalling_t {l h l' h' : Nat} {v x : Value} {ar : List Int} {b : List (List Int)} {w : World} (hT : Tab w) (ha : ar.length ≤ 1048576) (hv : SlI l h w v ar) (hsb : short b) (hx : SlS l' h' w x b) :
    Calls Tryd.prog 29 #[.agg #[v], x] w (RetV w (.tuple #[.bool (falAns ar b), .bool (goodTerms ar b 8)])) := by
  obtain ⟨xa, xc, rfl⟩ := hx.form
  cases hg1 : goodTerms ar b 8 with
  | false =>
    have E := Lib.hid (fal_no hg1)
    have H1 := Lib.hid (fun (w' : World) (hq : Bel w w') => goodTerms_v l h l' h' v _ ar b 8 false w' hg1 (by decide) ha (hv.below hq) hsb (hx.below hq))
    clear hg1
    rw [E.out]
    go_enter Tryd.func29, Tryd.ntmps29
    go_wp2_with fail
    refine (H1.out _ (Bel.alloc0 _ _)).mono ?_; rintro e w1 ⟨rfl, hb1⟩
    go_wp2_with fail
    go_ret2
    exact ⟨rfl, hb1.of_alloc⟩
  | true =>
    have E := Lib.hid (fal_yes hg1)
    have hlb := goodTerms_low hg1
    have hl8 : b.length ≤ 8 := (goodTerms_iff.1 hg1).2.1
    have H1 := Lib.hid (fun (w' : World) (hq : Bel w w') => goodTerms_v l h l' h' v _ ar b 8 true w' hg1 (by decide) ha (hv.below hq) hsb (hx.below hq))
    clear hg1
    rw [E.out]
    obtain ⟨hbl, hbm⟩ := hsb
    go_enter Tryd.func29, Tryd.ntmps29
    go_wp2_with fail
    refine (H1.out _ (Bel.alloc0 _ _)).mono ?_; rintro e w1 ⟨rfl, hb1⟩
    go_wp2_with fail
    go_loopw [13] (fun i wr => ∃ k : Nat, k ≤ b.length ∧ i = .int .i64 k ∧ fallTo b k ∧ Bel w wr) (fun i _ => b.length - (intOf i).toNat)
    case atStart => exact ⟨0, Nat.zero_le _, rfl, fun j h1 h2 => by omega, hb1.of_alloc⟩
    case round =>
      obtain ⟨k, hk, rfl, hf, hb⟩ := hrel
      by_cases hlt : k < b.length
      · by_cases hk0 : 0 < k
        · have hd0 : decide ((k : Int) > 0) = true := by simp; omega
          have hw9 := IntWalk.i64_in ((k : Int) - 1) (by omega)
          obtain ⟨k, rfl⟩ : ∃ k', k = k' + 1 := ⟨k - 1, by omega⟩
          obtain ⟨bb, off, p, rfl, hbb, hc, hp⟩ := hx.at hb k (by omega)
          obtain ⟨bb', off', p', e', -, hc', hp'⟩ := hx.at hb (k+1) hlt
          simp only [Option.some.injEq, Addr.mk.injEq, and_true] at e'
          obtain ⟨rfl, rfl⟩ := e'
          have hxl0 := hbm k (by omega)
          have hyl0 := hbm (k+1) hlt
          have hxl1 := hlb k (by omega)
          have hyl1 := hlb (k+1) hlt
          have HN := Lib.hid (And.intro (fun h => falls_no (i := k+1) (by omega) hlt h) (fun h => hf.step (i := k+1) (fun _ => h)))
          have hw8 := IntWalk.i64_in ((k : Int) + 1 - 1) (by omega)
          have hw7 := IntWalk.i64_in (k : Int) (by omega)
          have hi0 : (0 : Int) ≤ k := by omega
          have hi1 : (k : Int) < b.length := by omega
          have hi2 : (0 : Int) ≤ (k : Int) + 1 := by omega
          have hi3 : (k : Int) + 1 < b.length := by omega
          have HB := Lib.hid hb
          clear hf hx hbm hlb hb
          rw [show k + 1 - 1 = k from rfl] at HN
          generalize b.getD k [] = s at *
          generalize b.getD (k+1) [] = t at *
          obtain ⟨ap, cp, rfl⟩ := hp.form
          obtain ⟨ap', cp', rfl⟩ := hp'.form
          generalize hq : above s t = q
          have HA := Lib.hid (fun (w' : World) (hq2 : Bel wr w') => isAbove_v _ _ _ _ _ _ s t q w' hq (hT.bel (HB.out.step hq2)) hxl0 hyl0 hxl1 hyl1 (hp.below hq2) (hp'.below hq2))
          have hbk := World.block_lt_of_cell? wr ⟨_, _, none⟩ hc
          cases q with
          | true =>
            have F := Lib.hid (HN.out.2 hq)
            clear HN hq
            go_wp2_with fail
            go_region_held3 (fun w' => w'.cell? ⟨bb, off + k, none⟩ = some (.slice ap s.length cp) ∧ w'.cell? ⟨bb, off + (k+1), none⟩ = some (.slice ap' t.length cp'))
              (first | exact ⟨hc, hc'⟩ | exact ⟨hb2.of_drew.at hbk hc, hb2.of_drew.at hbk hc'⟩)
              (first | (go_at_call 72; refine (HA.out _ (Bel.drew0 _)).mono ?_; rintro e w2 ⟨rfl, hb2⟩) | fail)
            go_wp2_with fail
            go_roundw
            case rel => exact ⟨k+2, by omega, by go_num, F.out, HB.out.step hb2.of_drew⟩
            case measure => simp [intOf]; omega
          | false =>
            have F := Lib.hid (HN.out.1 hq)
            clear HN hq
            go_wp2_with fail
            go_region_held3 (fun w' => w'.cell? ⟨bb, off + k, none⟩ = some (.slice ap s.length cp) ∧ w'.cell? ⟨bb, off + (k+1), none⟩ = some (.slice ap' t.length cp'))
              (first | exact ⟨hc, hc'⟩ | exact ⟨hb2.of_drew.at hbk hc, hb2.of_drew.at hbk hc'⟩)
              (first | (go_at_call 72; refine (HA.out _ (Bel.drew0 _)).mono ?_; rintro e w2 ⟨rfl, hb2⟩) | fail)
            go_wp2_with fail
            go_ret2
            exact ⟨by rw [F.out]; rfl, HB.out.step hb2.of_drew⟩
        · obtain rfl : k = 0 := by omega
          have F := Lib.hid (hf.step (i := 0) (fun h => absurd h (by omega)))
          clear hf
          go_wp2_with fail
          go_quiet (fail)
          go_wp2
          go_roundw
          case rel => exact ⟨1, by omega, by go_num, F.out, hb.drewN _⟩
          case measure => simp [intOf]; omega
      · have F := Lib.hid (hf.done hlt)
        clear hf
        go_wp2_with fail
        go_ret2
        exact ⟨by rw [F.out]; rfl, hb⟩
end Go.Proofs.YtkbgglejhdodoaaDoor
end
section
/- CompareLists, IsFalling: the reference's. -/
namespace Go.Proofs.YtkbgglejhdodoaaDoor
open Go.RowKit

theorem goodTermsS_low {ar : List Int} {b : List (List Int)} {m : Nat} (h : goodTerms ar b m = true) : lowL b := fun j hj => okTerm_low (goodTerms_get h j hj)
theorem OwnT.rowV {W wr : World} {tag : Nat → Nat} {t : Nat} {v : Value} {zs : List SV} {xss : List (List Int)} (h : OwnT W.heap.size tag t 24 wr v (zs.map encS)) (he : Els W zs xss) : RowV W wr v xss :=
  ⟨zs, by simpa using h.1, he⟩
theorem short_erase {l : List (List Int)} {i : Nat} (h : short l) (hi : i < l.length) : short (l.eraseIdx i) := by
  refine ⟨by rw [List.length_eraseIdx_of_lt hi]; have := h.1; omega, fun j hj => ?_⟩
  rw [List.length_eraseIdx_of_lt hi] at hj
  by_cases e : j < i
  · rw [show (l.eraseIdx i).getD j [] = l.getD j [] from by simp [List.getD, List.getElem?_eraseIdx, e]]; exact h.2 j (by omega)
  · rw [show (l.eraseIdx i).getD j [] = l.getD (j+1) [] from by simp [List.getD, List.getElem?_eraseIdx, e]]; exact h.2 (j+1) (by omega)
theorem RowV.capn {W wr : World} {ad : Option Addr} {n c : Nat} {xss : List (List Int)} (h : RowV W wr (.slice ad n c) xss) (hb : Bel W wr) : n = xss.length ∧ n ≤ c ∧ c ≤ 9223372036854775807 := by
  obtain ⟨ad', c', e, h1, h2, -⟩ := h.sls hb
  simp only [Value.slice.injEq] at e
  obtain ⟨rfl, rfl, rfl⟩ := e
  exact ⟨rfl, h1, h2.1⟩
/-- The cells of a row, from the k-th on. -/
theorem row_cells {W wr : World} {g n c : Nat} {zs : List SV} (h : wr.ownsRow W.heap.size 24 1 (.slice (some ⟨g, 0, none⟩) n c) zs.length (zs.map encS)) (k : Nat) :
    ∀ j u, ((zs.drop k).map encS)[j]? = some u → wr.cell? ((⟨g, k, none⟩ : Addr).add j) = some u := by
  intro j u hj
  have hlt := (List.getElem?_eq_some_iff.1 hj).1
  simp at hlt
  obtain rfl := row_len h
  rw [addr_add, h.cellAt (k + j) (by omega)]
  rw [List.getElem?_map, List.getElem?_drop] at hj
  rw [List.getElem?_map]; exact hj
theorem row_cells0 {W wr : World} {g n c : Nat} {zs : List SV} (h : wr.ownsRow W.heap.size 24 1 (.slice (some ⟨g, 0, none⟩) n c) zs.length (zs.map encS)) (i : Nat) :
    ∀ j u, ((zs.take i).map encS)[j]? = some u → wr.cell? ((⟨g, 0, none⟩ : Addr).add j) = some u := by
  intro j u hj
  refine row_cells h 0 j u ?_
  rw [List.drop_zero]
  rw [List.getElem?_map, List.getElem?_take] at hj
  rw [List.getElem?_map]
  split at hj
  · exact hj
  · simp at hj
/-- The reference's search from the front: none, or the last found. -/
def lastAt (left : List (List Int)) (t : List Int) (j : Nat) (av : Value) : Prop := (av = .int .i64 (-1) ∧ t ∉ left.take j) ∨ ∃ i : Nat, i < j ∧ av = .int .i64 i ∧ left.getD i [] = t
theorem lastAt.no {left : List (List Int)} {t : List Int} {j : Nat} {av : Value} (h : lastAt left t j av) (hj : j < left.length) (he : left.getD j [] ≠ t) : lastAt left t (j+1) av := by
  rcases h with ⟨h1, h2⟩ | ⟨i, h1, h2, h3⟩
  · exact .inl ⟨h1, not_take hj h2 he⟩
  · exact .inr ⟨i, by omega, h2, h3⟩
theorem lastAt.yes {left : List (List Int)} {t : List Int} {j : Nat} (he : left.getD j [] = t) : lastAt left t (j+1) (.int .i64 (j : Int)) := .inr ⟨j, by omega, rfl, he⟩
theorem lastAt.done {left : List (List Int)} {t : List Int} {j : Nat} {av : Value} (h : lastAt left t j av) (hj : ¬ j < left.length) (hj2 : j ≤ left.length) : (av = .int .i64 (-1) ∧ t ∉ left) ∨ ∃ i : Nat, i < left.length ∧ av = .int .i64 i ∧ left.getD i [] = t := by
  obtain rfl : j = left.length := by omega
  rcases h with ⟨h1, h2⟩ | h
  · rw [List.take_length] at h2; exact .inl ⟨h1, h2⟩
  · exact .inr h

set_option maxRecDepth 100000 in
set_option maxHeartbeats 1000000 in
theorem l3Left_c (l h l' h' : Nat) (v u : Value) (a b : List (List Int)) (w : World) (ha : short a) (hb : short b) (hv : SlS l h w v a) (hu : SlS l' h' w u b) :
    Calls Tryd.prog 90 #[v, u] w (RetRow w (minus a b)) := by
  obtain ⟨i1, hi1, hy0, hy1, hy2⟩ := info_parts Tryd.info24
  obtain ⟨av, cv, rfl⟩ := hv.form
  obtain ⟨hal, ham⟩ := ha
  have hbl := hb.1
  have hown : (w.alloc (.cells #[] 24)).ownsRow w.heap.size 24 1 (.slice (some ⟨w.heap.size, 0, none⟩) 0 0) ([] : List SV).length (([] : List SV).map encS) :=
    World.ownsRow_lit w #[] 0 (Nat.le_refl _) (Nat.zero_le _) rfl
  obtain ⟨ub, uc, rfl⟩ := hu.form
  have hu0 := hu
  obtain ⟨zb, hEb, hcell⟩ := hu.vals
  cases ub with
  | none =>
    obtain ⟨ad', cap', e, -, hm, hr⟩ := hu0
    simp only [Value.slice.injEq] at e
    obtain ⟨rfl, -, rfl⟩ := e
    obtain rfl : b = [] := by
      rcases Nat.eq_zero_or_pos b.length with h0 | h0
      · exact List.length_eq_zero_iff.1 h0
      · obtain ⟨_, _, e, _⟩ := hr h0; simp at e
    obtain rfl : uc = 0 := hm.2 rfl
    obtain rfl : zb = [] := List.length_eq_zero_iff.1 hEb.1
    clear hr hm hcell hu
    go_enter Tryd.func90, Tryd.ntmps90
    go_wp2_with (at_builtin; refine wpList_append_own_none rfl _ _ 36 rfl w.heap.size 24 i1 1 Tryd.underlying36 hi1 _ _ _ rfl hown rfl ?_)
    go_wp2_with fail
    have hb1 := Bel.alloc0 w (.cells #[] 24)
    have hL : OwnT w.heap.size (fun _ => 0) 0 24 (w.alloc (.cells #[] 24)) (.slice (some ⟨w.heap.size, 0, none⟩) 0 0) (([] : List SV).map encS) := ⟨hown, fun _ _ => rfl⟩
    go_loopw [5, 6, 18] (fun lv ov i wr => ∃ (k : Nat) (tag : Nat → Nat) (zl zo : List SV) (left out : List (List Int)), k ≤ a.length ∧ i = .int .i64 k ∧ OwnT w.heap.size tag 0 24 wr lv (zl.map encS) ∧ Els w zl left ∧ OwnT w.heap.size tag 1 24 wr ov (zo.map encS) ∧ Els w zo out ∧ minus a [] = out ++ minus (a.drop k) left ∧ short left ∧ out.length ≤ k ∧ Bel w wr) (fun _ _ i _ => a.length - (intOf i).toNat)
    case atStart => exact ⟨0, _, [], [], [], [], Nat.zero_le _, rfl, hL, (Els.nil w), OwnT.nil _ _ _ _ _, Els.nil _, by simp, hb, Nat.zero_le _, hb1⟩
    case round =>
      clear hL hb1
      obtain ⟨k, tag, zl, zo, left, out, hk, rfl, hL, hEl, hO, hEo, hmin, hsl, hol, hb1⟩ := hrel
      by_cases hlt : k < a.length
      · obtain ⟨bb, off, p, rfl, hbb, hc0, hp⟩ := hv.at (Bel.rfl' w) k hlt
        have hc := hb1.at hbb hc0
        have htl := ham k hlt
        have HLO := Lib.hid (And.intro (fun i hi he => left_in (i := i) hmin hlt hi he) (fun hn => left_out hmin hlt hn))
        clear hv ham hmin hc0
        generalize a.getD k [] = t at *
        obtain ⟨ap, cp, rfl⟩ := hp.form
        have hpW := hp.in'
        clear hp
        obtain ⟨ag, an, ac, rfl⟩ := own_form hL.1
        obtain ⟨hn1, hn2, hn3⟩ := (hL.rowV hEl).capn hb1
        subst hn1
        have hln := hsl.1
        have HV := Lib.hid (hL.rowV hEl)
        have HSL := Lib.hid hsl
        clear hsl
        have HE := Lib.hid (fun (w' : World) (hq : Bel wr w') (y : List Int) (q : Bool) (l2 h2 : Nat) (yv : Value) (he : decide (t = y) = q) (hyl : y.length ≤ 1048576) (hy : SlI l2 h2 w' yv y) => l1Same_v _ _ _ _ _ _ t y q w' he htl hyl ((hpW.below hb1).below hq) hy)
        obtain ⟨wo, rfl⟩ : ∃ wo, wo = wr := ⟨wr, rfl⟩
        go_wp2_with fail
        go_loopw [9, 24] (fun av i wr => ∃ j : Nat, j ≤ left.length ∧ i = .int .i64 j ∧ lastAt left t j av ∧ Bel wo wr) (fun _ i _ => left.length - (intOf i).toNat)
        case atStart => exact ⟨0, Nat.zero_le _, rfl, .inl ⟨rfl, by simp⟩, Bel.rfl' _⟩
        case round =>
          obtain ⟨j, hj, rfl, hla, hb2⟩ := hrel
          by_cases hjl : j < left.length
          · obtain ⟨gx, az, cz, rfl, hgx, hcell, hz⟩ := (HV.out.bel hb2).at2 j hjl
            have hzl := HSL.out.2 j hjl
            have hz2 := hz.below (hb1.step hb2)
            have HN := Lib.hid (And.intro (fun h => hla.no hjl h) (fun h => lastAt.yes (j := j) (left := left) (t := t) h))
            clear hla hz
            generalize left.getD j [] = y at *
            by_cases he : y = t
            · have HF := Lib.hid (HE.out wr hb2 y true _ _ _ (by simpa using he.symm) hzl hz2)
              have E := Lib.hid (HN.out.2 he)
              clear HN he hz2
              go_wp2_with fail
              refine HF.out.mono ?_; rintro e w3 ⟨rfl, hb3⟩
              go_wp2_with fail
              go_roundw
              case rel => exact ⟨j+1, by omega, by go_num, E.out, hb2.step hb3⟩
              case measure => simp [intOf]; omega
            · have HF := Lib.hid (HE.out wr hb2 y false _ _ _ (by simpa using fun h => he h.symm) hzl hz2)
              have E := Lib.hid (HN.out.1 he)
              clear HN he hz2
              go_wp2_with fail
              refine HF.out.mono ?_; rintro e w3 ⟨rfl, hb3⟩
              go_wp2_with fail
              go_roundw
              case rel => exact ⟨j+1, by omega, by go_num, E.out, hb2.step hb3⟩
              case measure => simp [intOf]; omega
          · have hbn := hb1.step hb2
            replace hL := hL.bel hb2
            replace hO := hO.bel hb2
            rcases hla.done hjl hj with ⟨rfl, hnot⟩ | ⟨i, hi, rfl, hit⟩
            · have E := Lib.hid (HLO.out.2 hnot)
              have hzo := hEo.1
              clear hnot hla HE HV
              go_wp2_with (at_builtin; refine wpList_append_own_at _ rfl _ _ 36 rfl w.heap.size 24 i1 (.slice none 0 0) 1 24 Tryd.underlying36 hi1 hy0 hy1 hy2 rfl (by decide) _ _ _ rfl (hO.alloc _).1 _ _ _ [.slice ap t.length cp] rfl rfl (news_oneV _ _ _) (one_slice _ _ _) (by unfold maxLen; simp <;> omega) (by simp <;> omega) (by have := hbn.size; simp; omega) ?_; intro v' w4 hown' hgrow _ hat)
              obtain ⟨tag3, hO3, hT3⟩ := tag_snocV (hO.alloc _) hown' hgrow hat
              have hL3 := hT3 _ _ _ _ (by omega) (hL.alloc _)
              have hb3 := hbn.grownT hO (Nat.le_refl _) hgrow
              go_roundw
              case rel => exact ⟨k+1, tag3, zl, zo ++ [(ap, t.length, cp)], left, out ++ [t], by omega, by go_num, hL3, hEl, by simpa [encS] using hO3, hEo.snoc hpW, E.out, HSL.out, by simp; omega, hb3⟩
              case measure => simp [intOf]; omega
            · obtain ⟨gx, az, cz, rfl, hgx, hcell, hz⟩ := (HV.out.bel hb2).at2 i hi
              have E := Lib.hid (HLO.out.1 i hi hit)
              have hzl := hEl.1
              have hE2 := hEl.erase i hi
              have HS2 := Lib.hid (short_erase HSL.out hi)
              have hown0 : (wr.alloc (.cells #[] 24)).ownsRow wr.heap.size 24 1 (.slice (some ⟨wr.heap.size, 0, none⟩) 0 0) ([] : List SV).length (([] : List SV).map encS) :=
                World.ownsRow_lit wr #[] 0 (Nat.le_refl _) (Nat.zero_le _) rfl
              have hLr : wr.ownsRow w.heap.size 24 1 (.slice (some ⟨gx, 0, none⟩) left.length ac) zl.length (zl.map encS) := by simpa using hL.1
              have hb0 := Bel.alloc0 wr (.cells #[] 24)
              have hn0 := row_cells0 (ownsRow_bel hLr hb0) i
              have hi1' : (i : Int) ≤ ac := by omega
              have hi0' : (0 : Int) ≤ i := by omega
              have hi2' : (i : Int) + 1 ≤ left.length := by omega
              have hi3' : (left.length : Int) ≤ ac := by omega
              have hi4' : (0 : Int) ≤ (i : Int) + 1 := by omega
              have hw9 := IntWalk.i64_in ((i : Int) + 1) (by omega)
              have hti : (zl.take i).length = i := by rw [List.length_take]; omega
              have hne : decide ((i : Int) < 0) = false := by simp
              have hey : zl.eraseIdx i = zl.take i ++ zl.drop (i+1) := List.eraseIdx_eq_take_drop_succ ..
              clear hla hcell hz hit HE HV
              by_cases hcap : i + 1 = ac
              · have hl1 : left.length = i + 1 := by omega
                have hzd : zl.drop (i+1) = [] := List.drop_eq_nil_of_le (by omega)
                have hcap' : (i : Int) + 1 = ac := by omega
                go_wp2_with (first | (at_builtin; refine wpList_append_own_at _ rfl (.tmp 45) (.tmp 49) 36 rfl wr.heap.size 24 i1 (.slice none 0 0) 1 24 Tryd.underlying36 hi1 hy0 hy1 hy2 rfl (by decide) _ _ _ rfl hown5 ⟨gx, 0, none⟩ _ _ [] rfl (by simp <;> omega) (by simp) (by simp) (by unfold maxLen; omega) (by omega) hb4.size ?_; intro v6 w6 hown6 hgrow6 _ hat6) | (at_builtin; refine wpList_append_own_at _ rfl (.tmp 40) (.tmp 43) 36 rfl wr.heap.size 24 i1 (.slice none 0 0) 1 24 Tryd.underlying36 hi1 hy0 hy1 hy2 rfl (by decide) _ _ _ rfl hown0 ⟨gx, 0, none⟩ i ac ((zl.take i).map encS) rfl (by rw [List.length_map, hti, Nat.mul_one]) hn0 (encS_one _) (by rw [List.length_nil]; unfold maxLen; omega) (by rw [List.length_nil]; omega) hb0.size ?_; intro v4 w4 hown4 hgrow4 _ hat4; have hb4 := hb0.grown hgrow4 (fun k hk => own_base hown0 k hk); have hown5 : w4.ownsRow wr.heap.size 24 1 v4 i ((zl.take i).map encS) := (by simpa using hown4); have hn4 := row_cells (ownsRow_bel hLr hb4) (i + 1)))
                clear hown4 hgrow4 hat4 hn0 hLr
                have hb6 := hb4.grown hgrow6 (fun k hk => own_base hown5 k hk)
                have hown7 : w6.ownsRow wr.heap.size 24 1 v6 ((zl.eraseIdx i).map encS).length ((zl.eraseIdx i).map encS) := by
                  rw [hey, hzd, List.append_nil, List.length_map, hti]; simpa using hown6
                obtain ⟨tag6, hL6, hT6⟩ := tag_new (tag := tag) 0 hown7 hb6 hbn.size
                have hO6 := hT6 _ _ _ _ hO
                go_roundw
                case rel => exact ⟨k+1, tag6, zl.eraseIdx i, zo, left.eraseIdx i, out, by omega, by go_num, hL6, hE2, hO6, hEo, E.out, HS2.out, by omega, hbn.step hb6⟩
                case measure => simp [intOf]; omega
              · have hcap' : (i : Int) + 1 < ac := by omega
                have hdl : (zl.drop (i+1)).length = left.length - (i+1) := by rw [List.length_drop, hzl]
                go_wp2_with (first | (at_builtin; refine wpList_append_own_at _ rfl (.tmp 45) (.tmp 49) 36 rfl wr.heap.size 24 i1 (.slice none 0 0) 1 24 Tryd.underlying36 hi1 hy0 hy1 hy2 rfl (by decide) _ _ _ rfl hown5 ⟨gx, i + 1, none⟩ _ _ ((zl.drop (i+1)).map encS) rfl (by simp <;> omega) hn4 (encS_one _) (by unfold maxLen; omega) (by omega) hb4.size ?_; intro v6 w6 hown6 hgrow6 _ hat6) | (at_builtin; refine wpList_append_own_at _ rfl (.tmp 40) (.tmp 43) 36 rfl wr.heap.size 24 i1 (.slice none 0 0) 1 24 Tryd.underlying36 hi1 hy0 hy1 hy2 rfl (by decide) _ _ _ rfl hown0 ⟨gx, 0, none⟩ i ac ((zl.take i).map encS) rfl (by rw [List.length_map, hti, Nat.mul_one]) hn0 (encS_one _) (by rw [List.length_nil]; unfold maxLen; omega) (by rw [List.length_nil]; omega) hb0.size ?_; intro v4 w4 hown4 hgrow4 _ hat4; have hb4 := hb0.grown hgrow4 (fun k hk => own_base hown0 k hk); have hown5 : w4.ownsRow wr.heap.size 24 1 v4 i ((zl.take i).map encS) := (by simpa using hown4); have hn4 := row_cells (ownsRow_bel hLr hb4) (i + 1)))
                clear hown4 hgrow4 hat4 hn0 hLr
                have hb6 := hb4.grown hgrow6 (fun k hk => own_base hown5 k hk)
                have hown7 : w6.ownsRow wr.heap.size 24 1 v6 ((zl.eraseIdx i).map encS).length ((zl.eraseIdx i).map encS) := by
                  rw [hey, List.length_map, List.length_append, hti, hdl]; simpa using hown6
                obtain ⟨tag6, hL6, hT6⟩ := tag_new (tag := tag) 0 hown7 hb6 hbn.size
                have hO6 := hT6 _ _ _ _ hO
                go_roundw
                case rel => exact ⟨k+1, tag6, zl.eraseIdx i, zo, left.eraseIdx i, out, by omega, by go_num, hL6, hE2, hO6, hEo, E.out, HS2.out, by omega, hbn.step hb6⟩
                case measure => simp [intOf]; omega
      · have E := Lib.hid (left_end hmin hlt)
        clear hmin
        obtain ⟨ao, no, co, rfl⟩ := own_form hO.1
        go_wp2_with fail
        go_ret
        exact ⟨_, _, _, rfl, by rw [E.out]; exact hO.rowV hEo, hb1⟩
  | some ad =>
    have hn : ∀ j u, (zb.map encS)[j]? = some u → (w.alloc (.cells #[] 24)).cell? (ad.add j) = some u := fun j u hj => by
      have h1 := hcell ad rfl j u hj
      have h2 := World.block_lt_of_cell? w (ad.add j) h1
      exact ((Bel.alloc0 w (.cells #[] 24)).cell h2).trans h1
    have hzl := hEb.1
    clear hcell hu hu0
    go_enter Tryd.func90, Tryd.ntmps90
    go_wp2_with (at_builtin; refine wpList_append_own _ rfl _ _ 36 rfl w.heap.size 24 i1 (.slice none 0 0) 1 24 Tryd.underlying36 hi1 hy0 hy1 hy2 rfl (by decide) _ _ _ rfl hown ad b.length uc (zb.map encS) rfl (by simp [hzl]) hn (encS_one _) (by unfold maxLen; simp; omega) (by simp; omega) (by simp) ?_; intro v' w1 hown' hgrow _)
    have hb1 := (Bel.alloc0 w (.cells #[] 24)).grown hgrow (fun k hk => own_base hown k hk)
    have hL : OwnT w.heap.size (fun _ => 0) 0 24 w1 v' (zb.map encS) := ⟨by simpa [hzl] using hown', fun _ _ => rfl⟩
    go_wp2_with fail
    go_loopw [5, 6, 18] (fun lv ov i wr => ∃ (k : Nat) (tag : Nat → Nat) (zl zo : List SV) (left out : List (List Int)), k ≤ a.length ∧ i = .int .i64 k ∧ OwnT w.heap.size tag 0 24 wr lv (zl.map encS) ∧ Els w zl left ∧ OwnT w.heap.size tag 1 24 wr ov (zo.map encS) ∧ Els w zo out ∧ minus a b = out ++ minus (a.drop k) left ∧ short left ∧ out.length ≤ k ∧ Bel w wr) (fun _ _ i _ => a.length - (intOf i).toNat)
    case atStart => exact ⟨0, _, zb, [], b, [], Nat.zero_le _, rfl, hL, hEb, OwnT.nil _ _ _ _ _, Els.nil _, by simp, hb, Nat.zero_le _, hb1⟩
    case round =>
      clear hL hEb hb1
      obtain ⟨k, tag, zl, zo, left, out, hk, rfl, hL, hEl, hO, hEo, hmin, hsl, hol, hb1⟩ := hrel
      by_cases hlt : k < a.length
      · obtain ⟨bb, off, p, rfl, hbb, hc0, hp⟩ := hv.at (Bel.rfl' w) k hlt
        have hc := hb1.at hbb hc0
        have htl := ham k hlt
        have HLO := Lib.hid (And.intro (fun i hi he => left_in (i := i) hmin hlt hi he) (fun hn => left_out hmin hlt hn))
        clear hv ham hmin hc0
        generalize a.getD k [] = t at *
        obtain ⟨ap, cp, rfl⟩ := hp.form
        have hpW := hp.in'
        clear hp
        obtain ⟨ag, an, ac, rfl⟩ := own_form hL.1
        obtain ⟨hn1, hn2, hn3⟩ := (hL.rowV hEl).capn hb1
        subst hn1
        have hln := hsl.1
        have HV := Lib.hid (hL.rowV hEl)
        have HSL := Lib.hid hsl
        clear hsl
        have HE := Lib.hid (fun (w' : World) (hq : Bel wr w') (y : List Int) (q : Bool) (l2 h2 : Nat) (yv : Value) (he : decide (t = y) = q) (hyl : y.length ≤ 1048576) (hy : SlI l2 h2 w' yv y) => l1Same_v _ _ _ _ _ _ t y q w' he htl hyl ((hpW.below hb1).below hq) hy)
        obtain ⟨wo, rfl⟩ : ∃ wo, wo = wr := ⟨wr, rfl⟩
        go_wp2_with fail
        go_loopw [9, 24] (fun av i wr => ∃ j : Nat, j ≤ left.length ∧ i = .int .i64 j ∧ lastAt left t j av ∧ Bel wo wr) (fun _ i _ => left.length - (intOf i).toNat)
        case atStart => exact ⟨0, Nat.zero_le _, rfl, .inl ⟨rfl, by simp⟩, Bel.rfl' _⟩
        case round =>
          obtain ⟨j, hj, rfl, hla, hb2⟩ := hrel
          by_cases hjl : j < left.length
          · obtain ⟨gx, az, cz, rfl, hgx, hcell, hz⟩ := (HV.out.bel hb2).at2 j hjl
            have hzl := HSL.out.2 j hjl
            have hz2 := hz.below (hb1.step hb2)
            have HN := Lib.hid (And.intro (fun h => hla.no hjl h) (fun h => lastAt.yes (j := j) (left := left) (t := t) h))
            clear hla hz
            generalize left.getD j [] = y at *
            by_cases he : y = t
            · have HF := Lib.hid (HE.out wr hb2 y true _ _ _ (by simpa using he.symm) hzl hz2)
              have E := Lib.hid (HN.out.2 he)
              clear HN he hz2
              go_wp2_with fail
              refine HF.out.mono ?_; rintro e w3 ⟨rfl, hb3⟩
              go_wp2_with fail
              go_roundw
              case rel => exact ⟨j+1, by omega, by go_num, E.out, hb2.step hb3⟩
              case measure => simp [intOf]; omega
            · have HF := Lib.hid (HE.out wr hb2 y false _ _ _ (by simpa using fun h => he h.symm) hzl hz2)
              have E := Lib.hid (HN.out.1 he)
              clear HN he hz2
              go_wp2_with fail
              refine HF.out.mono ?_; rintro e w3 ⟨rfl, hb3⟩
              go_wp2_with fail
              go_roundw
              case rel => exact ⟨j+1, by omega, by go_num, E.out, hb2.step hb3⟩
              case measure => simp [intOf]; omega
          · have hbn := hb1.step hb2
            replace hL := hL.bel hb2
            replace hO := hO.bel hb2
            rcases hla.done hjl hj with ⟨rfl, hnot⟩ | ⟨i, hi, rfl, hit⟩
            · have E := Lib.hid (HLO.out.2 hnot)
              have hzo := hEo.1
              clear hnot hla HE HV
              go_wp2_with (at_builtin; refine wpList_append_own_at _ rfl _ _ 36 rfl w.heap.size 24 i1 (.slice none 0 0) 1 24 Tryd.underlying36 hi1 hy0 hy1 hy2 rfl (by decide) _ _ _ rfl (hO.alloc _).1 _ _ _ [.slice ap t.length cp] rfl rfl (news_oneV _ _ _) (one_slice _ _ _) (by unfold maxLen; simp <;> omega) (by simp <;> omega) (by have := hbn.size; simp; omega) ?_; intro v' w4 hown' hgrow _ hat)
              obtain ⟨tag3, hO3, hT3⟩ := tag_snocV (hO.alloc _) hown' hgrow hat
              have hL3 := hT3 _ _ _ _ (by omega) (hL.alloc _)
              have hb3 := hbn.grownT hO (Nat.le_refl _) hgrow
              go_roundw
              case rel => exact ⟨k+1, tag3, zl, zo ++ [(ap, t.length, cp)], left, out ++ [t], by omega, by go_num, hL3, hEl, by simpa [encS] using hO3, hEo.snoc hpW, E.out, HSL.out, by simp; omega, hb3⟩
              case measure => simp [intOf]; omega
            · obtain ⟨gx, az, cz, rfl, hgx, hcell, hz⟩ := (HV.out.bel hb2).at2 i hi
              have E := Lib.hid (HLO.out.1 i hi hit)
              have hzl := hEl.1
              have hE2 := hEl.erase i hi
              have HS2 := Lib.hid (short_erase HSL.out hi)
              have hown0 : (wr.alloc (.cells #[] 24)).ownsRow wr.heap.size 24 1 (.slice (some ⟨wr.heap.size, 0, none⟩) 0 0) ([] : List SV).length (([] : List SV).map encS) :=
                World.ownsRow_lit wr #[] 0 (Nat.le_refl _) (Nat.zero_le _) rfl
              have hLr : wr.ownsRow w.heap.size 24 1 (.slice (some ⟨gx, 0, none⟩) left.length ac) zl.length (zl.map encS) := by simpa using hL.1
              have hb0 := Bel.alloc0 wr (.cells #[] 24)
              have hn0 := row_cells0 (ownsRow_bel hLr hb0) i
              have hi1' : (i : Int) ≤ ac := by omega
              have hi0' : (0 : Int) ≤ i := by omega
              have hi2' : (i : Int) + 1 ≤ left.length := by omega
              have hi3' : (left.length : Int) ≤ ac := by omega
              have hi4' : (0 : Int) ≤ (i : Int) + 1 := by omega
              have hw9 := IntWalk.i64_in ((i : Int) + 1) (by omega)
              have hti : (zl.take i).length = i := by rw [List.length_take]; omega
              have hne : decide ((i : Int) < 0) = false := by simp
              have hey : zl.eraseIdx i = zl.take i ++ zl.drop (i+1) := List.eraseIdx_eq_take_drop_succ ..
              clear hla hcell hz hit HE HV
              by_cases hcap : i + 1 = ac
              · have hl1 : left.length = i + 1 := by omega
                have hzd : zl.drop (i+1) = [] := List.drop_eq_nil_of_le (by omega)
                have hcap' : (i : Int) + 1 = ac := by omega
                go_wp2_with (first | (at_builtin; refine wpList_append_own_at _ rfl (.tmp 45) (.tmp 49) 36 rfl wr.heap.size 24 i1 (.slice none 0 0) 1 24 Tryd.underlying36 hi1 hy0 hy1 hy2 rfl (by decide) _ _ _ rfl hown5 ⟨gx, 0, none⟩ _ _ [] rfl (by simp <;> omega) (by simp) (by simp) (by unfold maxLen; omega) (by omega) hb4.size ?_; intro v6 w6 hown6 hgrow6 _ hat6) | (at_builtin; refine wpList_append_own_at _ rfl (.tmp 40) (.tmp 43) 36 rfl wr.heap.size 24 i1 (.slice none 0 0) 1 24 Tryd.underlying36 hi1 hy0 hy1 hy2 rfl (by decide) _ _ _ rfl hown0 ⟨gx, 0, none⟩ i ac ((zl.take i).map encS) rfl (by rw [List.length_map, hti, Nat.mul_one]) hn0 (encS_one _) (by rw [List.length_nil]; unfold maxLen; omega) (by rw [List.length_nil]; omega) hb0.size ?_; intro v4 w4 hown4 hgrow4 _ hat4; have hb4 := hb0.grown hgrow4 (fun k hk => own_base hown0 k hk); have hown5 : w4.ownsRow wr.heap.size 24 1 v4 i ((zl.take i).map encS) := (by simpa using hown4); have hn4 := row_cells (ownsRow_bel hLr hb4) (i + 1)))
                clear hown4 hgrow4 hat4 hn0 hLr
                have hb6 := hb4.grown hgrow6 (fun k hk => own_base hown5 k hk)
                have hown7 : w6.ownsRow wr.heap.size 24 1 v6 ((zl.eraseIdx i).map encS).length ((zl.eraseIdx i).map encS) := by
                  rw [hey, hzd, List.append_nil, List.length_map, hti]; simpa using hown6
                obtain ⟨tag6, hL6, hT6⟩ := tag_new (tag := tag) 0 hown7 hb6 hbn.size
                have hO6 := hT6 _ _ _ _ hO
                go_roundw
                case rel => exact ⟨k+1, tag6, zl.eraseIdx i, zo, left.eraseIdx i, out, by omega, by go_num, hL6, hE2, hO6, hEo, E.out, HS2.out, by omega, hbn.step hb6⟩
                case measure => simp [intOf]; omega
              · have hcap' : (i : Int) + 1 < ac := by omega
                have hdl : (zl.drop (i+1)).length = left.length - (i+1) := by rw [List.length_drop, hzl]
                go_wp2_with (first | (at_builtin; refine wpList_append_own_at _ rfl (.tmp 45) (.tmp 49) 36 rfl wr.heap.size 24 i1 (.slice none 0 0) 1 24 Tryd.underlying36 hi1 hy0 hy1 hy2 rfl (by decide) _ _ _ rfl hown5 ⟨gx, i + 1, none⟩ _ _ ((zl.drop (i+1)).map encS) rfl (by simp <;> omega) hn4 (encS_one _) (by unfold maxLen; omega) (by omega) hb4.size ?_; intro v6 w6 hown6 hgrow6 _ hat6) | (at_builtin; refine wpList_append_own_at _ rfl (.tmp 40) (.tmp 43) 36 rfl wr.heap.size 24 i1 (.slice none 0 0) 1 24 Tryd.underlying36 hi1 hy0 hy1 hy2 rfl (by decide) _ _ _ rfl hown0 ⟨gx, 0, none⟩ i ac ((zl.take i).map encS) rfl (by rw [List.length_map, hti, Nat.mul_one]) hn0 (encS_one _) (by rw [List.length_nil]; unfold maxLen; omega) (by rw [List.length_nil]; omega) hb0.size ?_; intro v4 w4 hown4 hgrow4 _ hat4; have hb4 := hb0.grown hgrow4 (fun k hk => own_base hown0 k hk); have hown5 : w4.ownsRow wr.heap.size 24 1 v4 i ((zl.take i).map encS) := (by simpa using hown4); have hn4 := row_cells (ownsRow_bel hLr hb4) (i + 1)))
                clear hown4 hgrow4 hat4 hn0 hLr
                have hb6 := hb4.grown hgrow6 (fun k hk => own_base hown5 k hk)
                have hown7 : w6.ownsRow wr.heap.size 24 1 v6 ((zl.eraseIdx i).map encS).length ((zl.eraseIdx i).map encS) := by
                  rw [hey, List.length_map, List.length_append, hti, hdl]; simpa using hown6
                obtain ⟨tag6, hL6, hT6⟩ := tag_new (tag := tag) 0 hown7 hb6 hbn.size
                have hO6 := hT6 _ _ _ _ hO
                go_roundw
                case rel => exact ⟨k+1, tag6, zl.eraseIdx i, zo, left.eraseIdx i, out, by omega, by go_num, hL6, hE2, hO6, hEo, E.out, HS2.out, by omega, hbn.step hb6⟩
                case measure => simp [intOf]; omega
      · have E := Lib.hid (left_end hmin hlt)
        clear hmin
        obtain ⟨ao, no, co, rfl⟩ := own_form hO.1
        go_wp2_with fail
        go_ret
        exact ⟨_, _, _, rfl, by rw [E.out]; exact hO.rowV hEo, hb1⟩
end Go.Proofs.YtkbgglejhdodoaaDoor
end
section
/- CompareLists, IsFalling: the reference's. -/
namespace Go.Proofs.YtkbgglejhdodoaaDoor
open Go.RowKit

theorem any_upto {a : List (List Int)} {t : List Int} {i : Nat} (hi : i < a.length) : ((a.take (i+1)).any fun u => above u t) = (((a.take i).any fun u => above u t) || above (a.getD i []) t) := by
  rw [take_snoc a i [] hi, List.any_append]; simp
set_option maxRecDepth 100000 in
set_option maxHeartbeats 400000 in
theorem l3Over_v (l h l' h' : Nat) (v u : Value) (a b : List (List Int)) (q : Bool) (w : World) (hd : dom a b = q) (hne : q = true → 0 < a.length) (ha : short a) (_ : lowL a) (hb : short b) (hlb : lowL b) (hv : SlS l h w v a) (hu : SlS l' h' w u b) :
    Calls Tryd.prog 91 #[v, u] w (RetV w (.bool q)) := by
  obtain ⟨ad, cap, rfl⟩ := hv.form
  obtain ⟨ad', cap', rfl⟩ := hu.form
  obtain ⟨hbl, hbm⟩ := hb
  obtain ⟨hal, ham⟩ := ha
  have HD := Lib.hid (And.intro hd hne)
  clear hd hne
  go_enter Tryd.func91, Tryd.ntmps91
  go_wp2_with fail
  go_loopw [12] (fun i wr => ∃ k : Nat, k ≤ b.length ∧ i = .int .i64 k ∧ dom a (b.take k) = true ∧ Bel w wr) (fun i _ => b.length - (intOf i).toNat)
  case atStart => exact ⟨0, Nat.zero_le _, rfl, rfl, Bel.rfl' _⟩
  case round =>
    obtain ⟨k, hk, rfl, hn, hb1⟩ := hrel
    by_cases hlt : k < b.length
    · obtain ⟨bb, off, p, rfl, -, hc, hp⟩ := hu.at hb1 k hlt
      have hpl := hbm k hlt
      have hplow := hlb k hlt
      have HN := Lib.hid (And.intro (fun h => dom_no (a := a) hlt h) (fun h => dom_take hlt hn h))
      have hv1 := hv.below hb1
      clear hn hu hbm hlb hv
      generalize b.getD k [] = t at *
      obtain ⟨ap, cp, rfl⟩ := hp.form
      obtain ⟨wo, rfl⟩ : ∃ wo, wo = wr := ⟨wr, rfl⟩
      go_wp2_with fail
      go_loopw [7, 18] (fun ov i wr => ∃ j : Nat, j ≤ a.length ∧ i = .int .i64 j ∧ ov = .bool ((a.take j).any fun u => above u t) ∧ Bel wo wr) (fun _ i _ => a.length - (intOf i).toNat)
      case atStart => exact ⟨0, Nat.zero_le _, rfl, rfl, Bel.rfl' _⟩
      case round =>
        obtain ⟨j, hj, rfl, rfl, hb2⟩ := hrel
        by_cases hjl : j < a.length
        · obtain ⟨bx, ox, z, rfl, -, hcell, hz⟩ := hv1.at hb2 j hjl
          have hzl := ham j hjl
          have HU := Lib.hid (any_upto (t := t) hjl)
          have hp2 := hp.below hb2
          clear hv1 ham hp
          generalize a.getD j [] = y at *
          obtain ⟨az, cz, rfl⟩ := hz.form
          cases ho : ((a.take j).any fun u => above u t) with
          | true =>
            have E : Hid (((a.take (j+1)).any fun u => above u t) = true) := by show _ = _; rw [HU.out, ho]; rfl
            clear HU ho
            go_wp2_with fail
            go_roundw
            case rel => exact ⟨j+1, by omega, by go_num, by rw [E.out], hb2⟩
            case measure => simp [intOf]; omega
          | false =>
            generalize hq : above y t = r
            have E : Hid (((a.take (j+1)).any fun u => above u t) = r) := by show _ = _; rw [HU.out, ho, hq]; rfl
            have HC := Lib.hid (l3Greater_v _ _ _ _ _ _ y t r wr hq hzl hpl hplow hz hp2)
            clear HU ho hq
            go_wp2_with fail
            refine HC.out.mono ?_; rintro e w3 ⟨rfl, hb3⟩
            go_wp2_with fail
            go_roundw
            case rel => exact ⟨j+1, by omega, by go_num, by rw [E.out], hb2.step hb3⟩
            case measure => simp [intOf]; omega
        · cases hq : ((a.take j).any fun u => above u t) with
          | false =>
            have E : Hid (q = false) := HD.out.1.symm.trans (HN.out.1 (any_end hjl hq))
            clear HN
            go_wp2_with fail
            go_ret
            exact ⟨by rw [E.out]; rfl, hb1.step hb2⟩
          | true =>
            have E := Lib.hid (HN.out.2 (any_end hjl hq))
            clear HN
            go_wp2_with fail
            go_roundw
            case rel => exact ⟨k+1, by omega, by go_num, E.out, hb1.step hb2⟩
            case measure => simp [intOf]; omega
    · have E : Hid (q = true) := HD.out.1.symm.trans (dom_all hlt hn)
      have hpos : decide (0 < a.length) = true := by have := HD.out.2 E.out; simpa using this
      clear hn
      go_wp2_with fail
      go_ret
      exact ⟨by rw [E.out]; first | rfl | exact congrArg (fun x => Ending.returned (Value.bool x)) hpos, hb1⟩

set_option maxRecDepth 100000 in
set_option maxHeartbeats 800000 in
theorem l3Lists_c (l h l' h' : Nat) (v u : Value) (a b : List (List Int)) (w : World) (ha : short a) (hla : lowL a) (hb : short b) (hlb : lowL b) (hv : SlS l h w v a) (hu : SlS l' h' w u b) :
    Calls Tryd.prog 68 #[v, u] w (RetV w (.int .i64 (cmpL a b))) := by
  obtain ⟨ad, cap, rfl⟩ := hv.form
  obtain ⟨ad', cap', rfl⟩ := hu.form
  have H1 := Lib.hid (l3Left_c l h l' h' _ _ a b w ha hb hv hu)
  have H2 := Lib.hid (fun (w' : World) (hq : Bel w w') => l3Left_c l' h' l h _ _ b a w' hb ha (hu.below hq) (hv.below hq))
  have hsx := minus_short (b := b) ha
  have hsy := minus_short (b := a) hb
  have hlx := minus_low (b := b) hla
  have hly := minus_low (b := a) hlb
  have E0 := Lib.hid (fun h1 h2 => cmpL_0 (a := a) (b := b) h1 h2)
  have E1 := Lib.hid (fun h0 h1 => cmpL_1 (a := a) (b := b) h0 h1)
  have Em := Lib.hid (fun h0 h1 h2 => cmpL_m (a := a) (b := b) h0 h1 h2)
  have E2 := Lib.hid (fun h0 h1 h2 => cmpL_2 (a := a) (b := b) h0 h1 h2)
  generalize cmpL a b = z at *
  generalize minus a b = X at *
  generalize minus b a = Y at *
  by_cases hx0 : X.length = 0
  · have d1 : ((X.length : Int) == 0) = true := by simpa using hx0
    by_cases hy0 : Y.length = 0
    · have d2 : ((Y.length : Int) == 0) = true := by simpa using hy0
      have E : Hid (z = 0) := E0.out (List.length_eq_zero_iff.1 hx0) (List.length_eq_zero_iff.1 hy0)
      clear hx0 hy0 E0 E1 Em E2
      go_enter Tryd.func68, Tryd.ntmps68
      go_wp2_with fail
      refine H1.out.mono ?_; rintro e w1 ⟨g1, n1, c1, rfl, hX, hb1⟩
      obtain ⟨_, _, ef⟩ := hX.form
      simp only [Value.slice.injEq] at ef
      obtain ⟨rfl, rfl, rfl⟩ := ef
      go_wp2_with fail
      refine (H2.out _ hb1).mono ?_; rintro e w2 ⟨g2, n2, c2, rfl, hY, hb2⟩
      obtain ⟨_, _, ef⟩ := hY.form
      simp only [Value.slice.injEq] at ef
      obtain ⟨rfl, rfl, rfl⟩ := ef
      have hX2 := (hX.sls hb1).below hb2
      have hY2 := hY.sls hb2
      have hb12 := hb1.step hb2
      go_wp2_with fail
      go_ret
      exact ⟨by rw [E.out]; rfl, hb12⟩
    · have d2 : ((Y.length : Int) == 0) = false := by simp; exact fun h => hy0 (by rw [h]; rfl)
      have h0 : ¬ (X = [] ∧ Y = []) := fun h => hy0 (by rw [h.2]; rfl)
      clear hx0 hy0
      have h0b : ¬ (Y = [] ∧ X = []) := fun h => h0 ⟨h.2, h.1⟩
      cases hd1 : dom X Y with
      | true =>
        have E : Hid (z = 1) := E1.out h0 hd1
        clear E0 E1 Em E2
        go_enter Tryd.func68, Tryd.ntmps68
        go_wp2_with fail
        refine H1.out.mono ?_; rintro e w1 ⟨g1, n1, c1, rfl, hX, hb1⟩
        obtain ⟨_, _, ef⟩ := hX.form
        simp only [Value.slice.injEq] at ef
        obtain ⟨rfl, rfl, rfl⟩ := ef
        go_wp2_with fail
        refine (H2.out _ hb1).mono ?_; rintro e w2 ⟨g2, n2, c2, rfl, hY, hb2⟩
        obtain ⟨_, _, ef⟩ := hY.form
        simp only [Value.slice.injEq] at ef
        obtain ⟨rfl, rfl, rfl⟩ := ef
        have hX2 := (hX.sls hb1).below hb2
        have hY2 := hY.sls hb2
        have hb12 := hb1.step hb2
        go_wp2_with fail
        refine (l3Over_v _ _ _ _ _ _ X Y true _ hd1 (fun _ => dom_some h0 hd1) hsx hlx hsy hly hX2 hY2).mono ?_; rintro e w3 ⟨rfl, hb3⟩
        have hbs3 := hb12.step hb3
        replace hX2 := hX2.below hb3
        replace hY2 := hY2.below hb3
        go_wp2_with fail
        go_ret
        exact ⟨by rw [E.out]; rfl, hbs3⟩
      | false =>
        cases hd2 : dom Y X with
        | true =>
          have E : Hid (z = -1) := Em.out h0 hd1 hd2
          clear E0 E1 Em E2
          go_enter Tryd.func68, Tryd.ntmps68
          go_wp2_with fail
          refine H1.out.mono ?_; rintro e w1 ⟨g1, n1, c1, rfl, hX, hb1⟩
          obtain ⟨_, _, ef⟩ := hX.form
          simp only [Value.slice.injEq] at ef
          obtain ⟨rfl, rfl, rfl⟩ := ef
          go_wp2_with fail
          refine (H2.out _ hb1).mono ?_; rintro e w2 ⟨g2, n2, c2, rfl, hY, hb2⟩
          obtain ⟨_, _, ef⟩ := hY.form
          simp only [Value.slice.injEq] at ef
          obtain ⟨rfl, rfl, rfl⟩ := ef
          have hX2 := (hX.sls hb1).below hb2
          have hY2 := hY.sls hb2
          have hb12 := hb1.step hb2
          go_wp2_with fail
          refine (l3Over_v _ _ _ _ _ _ X Y false _ hd1 ((by simp)) hsx hlx hsy hly hX2 hY2).mono ?_; rintro e w3 ⟨rfl, hb3⟩
          have hbs3 := hb12.step hb3
          replace hX2 := hX2.below hb3
          replace hY2 := hY2.below hb3
          go_wp2_with fail
          refine (l3Over_v _ _ _ _ _ _ Y X true _ hd2 (fun _ => dom_some h0b hd2) hsy hly hsx hlx hY2 hX2).mono ?_; rintro e w4 ⟨rfl, hb4⟩
          have hbs4 := hbs3.step hb4
          replace hX2 := hX2.below hb4
          replace hY2 := hY2.below hb4
          go_wp2_with fail
          go_ret
          exact ⟨by rw [E.out]; rfl, hbs4⟩
        | false =>
          have E : Hid (z = 2) := E2.out h0 hd1 hd2
          clear E0 E1 Em E2
          go_enter Tryd.func68, Tryd.ntmps68
          go_wp2_with fail
          refine H1.out.mono ?_; rintro e w1 ⟨g1, n1, c1, rfl, hX, hb1⟩
          obtain ⟨_, _, ef⟩ := hX.form
          simp only [Value.slice.injEq] at ef
          obtain ⟨rfl, rfl, rfl⟩ := ef
          go_wp2_with fail
          refine (H2.out _ hb1).mono ?_; rintro e w2 ⟨g2, n2, c2, rfl, hY, hb2⟩
          obtain ⟨_, _, ef⟩ := hY.form
          simp only [Value.slice.injEq] at ef
          obtain ⟨rfl, rfl, rfl⟩ := ef
          have hX2 := (hX.sls hb1).below hb2
          have hY2 := hY.sls hb2
          have hb12 := hb1.step hb2
          go_wp2_with fail
          refine (l3Over_v _ _ _ _ _ _ X Y false _ hd1 ((by simp)) hsx hlx hsy hly hX2 hY2).mono ?_; rintro e w3 ⟨rfl, hb3⟩
          have hbs3 := hb12.step hb3
          replace hX2 := hX2.below hb3
          replace hY2 := hY2.below hb3
          go_wp2_with fail
          refine (l3Over_v _ _ _ _ _ _ Y X false _ hd2 ((by simp)) hsy hly hsx hlx hY2 hX2).mono ?_; rintro e w4 ⟨rfl, hb4⟩
          have hbs4 := hbs3.step hb4
          replace hX2 := hX2.below hb4
          replace hY2 := hY2.below hb4
          go_wp2_with fail
          go_ret
          exact ⟨by rw [E.out]; rfl, hbs4⟩
  · have d1 : ((X.length : Int) == 0) = false := by simp; exact fun h => hx0 (by rw [h]; rfl)
    have h0 : ¬ (X = [] ∧ Y = []) := fun h => hx0 (by rw [h.1]; rfl)
    clear hx0
    have h0b : ¬ (Y = [] ∧ X = []) := fun h => h0 ⟨h.2, h.1⟩
    cases hd1 : dom X Y with
    | true =>
      have E : Hid (z = 1) := E1.out h0 hd1
      clear E0 E1 Em E2
      go_enter Tryd.func68, Tryd.ntmps68
      go_wp2_with fail
      refine H1.out.mono ?_; rintro e w1 ⟨g1, n1, c1, rfl, hX, hb1⟩
      obtain ⟨_, _, ef⟩ := hX.form
      simp only [Value.slice.injEq] at ef
      obtain ⟨rfl, rfl, rfl⟩ := ef
      go_wp2_with fail
      refine (H2.out _ hb1).mono ?_; rintro e w2 ⟨g2, n2, c2, rfl, hY, hb2⟩
      obtain ⟨_, _, ef⟩ := hY.form
      simp only [Value.slice.injEq] at ef
      obtain ⟨rfl, rfl, rfl⟩ := ef
      have hX2 := (hX.sls hb1).below hb2
      have hY2 := hY.sls hb2
      have hb12 := hb1.step hb2
      go_wp2_with fail
      refine (l3Over_v _ _ _ _ _ _ X Y true _ hd1 (fun _ => dom_some h0 hd1) hsx hlx hsy hly hX2 hY2).mono ?_; rintro e w3 ⟨rfl, hb3⟩
      have hbs3 := hb12.step hb3
      replace hX2 := hX2.below hb3
      replace hY2 := hY2.below hb3
      go_wp2_with fail
      go_ret
      exact ⟨by rw [E.out]; rfl, hbs3⟩
    | false =>
      cases hd2 : dom Y X with
      | true =>
        have E : Hid (z = -1) := Em.out h0 hd1 hd2
        clear E0 E1 Em E2
        go_enter Tryd.func68, Tryd.ntmps68
        go_wp2_with fail
        refine H1.out.mono ?_; rintro e w1 ⟨g1, n1, c1, rfl, hX, hb1⟩
        obtain ⟨_, _, ef⟩ := hX.form
        simp only [Value.slice.injEq] at ef
        obtain ⟨rfl, rfl, rfl⟩ := ef
        go_wp2_with fail
        refine (H2.out _ hb1).mono ?_; rintro e w2 ⟨g2, n2, c2, rfl, hY, hb2⟩
        obtain ⟨_, _, ef⟩ := hY.form
        simp only [Value.slice.injEq] at ef
        obtain ⟨rfl, rfl, rfl⟩ := ef
        have hX2 := (hX.sls hb1).below hb2
        have hY2 := hY.sls hb2
        have hb12 := hb1.step hb2
        go_wp2_with fail
        refine (l3Over_v _ _ _ _ _ _ X Y false _ hd1 ((by simp)) hsx hlx hsy hly hX2 hY2).mono ?_; rintro e w3 ⟨rfl, hb3⟩
        have hbs3 := hb12.step hb3
        replace hX2 := hX2.below hb3
        replace hY2 := hY2.below hb3
        go_wp2_with fail
        refine (l3Over_v _ _ _ _ _ _ Y X true _ hd2 (fun _ => dom_some h0b hd2) hsy hly hsx hlx hY2 hX2).mono ?_; rintro e w4 ⟨rfl, hb4⟩
        have hbs4 := hbs3.step hb4
        replace hX2 := hX2.below hb4
        replace hY2 := hY2.below hb4
        go_wp2_with fail
        go_ret
        exact ⟨by rw [E.out]; rfl, hbs4⟩
      | false =>
        have E : Hid (z = 2) := E2.out h0 hd1 hd2
        clear E0 E1 Em E2
        go_enter Tryd.func68, Tryd.ntmps68
        go_wp2_with fail
        refine H1.out.mono ?_; rintro e w1 ⟨g1, n1, c1, rfl, hX, hb1⟩
        obtain ⟨_, _, ef⟩ := hX.form
        simp only [Value.slice.injEq] at ef
        obtain ⟨rfl, rfl, rfl⟩ := ef
        go_wp2_with fail
        refine (H2.out _ hb1).mono ?_; rintro e w2 ⟨g2, n2, c2, rfl, hY, hb2⟩
        obtain ⟨_, _, ef⟩ := hY.form
        simp only [Value.slice.injEq] at ef
        obtain ⟨rfl, rfl, rfl⟩ := ef
        have hX2 := (hX.sls hb1).below hb2
        have hY2 := hY.sls hb2
        have hb12 := hb1.step hb2
        go_wp2_with fail
        refine (l3Over_v _ _ _ _ _ _ X Y false _ hd1 ((by simp)) hsx hlx hsy hly hX2 hY2).mono ?_; rintro e w3 ⟨rfl, hb3⟩
        have hbs3 := hb12.step hb3
        replace hX2 := hX2.below hb3
        replace hY2 := hY2.below hb3
        go_wp2_with fail
        refine (l3Over_v _ _ _ _ _ _ Y X false _ hd2 ((by simp)) hsy hly hsx hlx hY2 hX2).mono ?_; rintro e w4 ⟨rfl, hb4⟩
        have hbs4 := hbs3.step hb4
        replace hX2 := hX2.below hb4
        replace hY2 := hY2.below hb4
        go_wp2_with fail
        go_ret
        exact ⟨by rw [E.out]; rfl, hbs4⟩

set_option maxRecDepth 100000 in
set_option maxHeartbeats 400000 in
theorem sCompareLists_t {l h l' h' l2 h2 : Nat} {v x y : Value} {ar : List Int} {a b : List (List Int)} {w : World} (ha : ar.length ≤ 1048576) (hv : SlI l h w v ar) (hsa : short a) (hx : SlS l' h' w x a) (hsb : short b) (hy : SlS l2 h2 w y b) :
    Calls Tryd.prog 26 #[.agg #[v], x, y] w (RetV w (.tuple #[.int .i64 (lisAns ar a b), .bool (lisOk ar a b)])) := by
  obtain ⟨xa, xc, rfl⟩ := hx.form
  obtain ⟨ya, yc, rfl⟩ := hy.form
  cases hg1 : goodTerms ar a 8 with
  | false =>
    have e0 : lisOk ar a b = false := by simp [lisOk, hg1]
    have E := Lib.hid (And.intro e0 (lis_no e0))
    have H1 := Lib.hid (fun (w' : World) (hq : Bel w w') => l3Terms_v l h l' h' v _ ar a false w' hg1 ha (hv.below hq) hsa (hx.below hq) )
    clear hg1 e0
    rw [E.out.1, E.out.2]
    go_enter Tryd.func26, Tryd.ntmps26
    go_wp2_with fail
    refine (H1.out _ (Bel.alloc0 _ _)).mono ?_; rintro e w1 ⟨rfl, hb1⟩
    go_wp2_with fail
    go_ret2
    exact ⟨rfl, hb1.of_alloc⟩
  | true =>
    have H1 := Lib.hid (fun (w' : World) (hq : Bel w w') => l3Terms_v l h l' h' v _ ar a true w' hg1 ha (hv.below hq) hsa (hx.below hq) )
    cases hg2 : goodTerms ar b 8 with
    | false =>
      have e0 : lisOk ar a b = false := by simp [lisOk, hg2]
      have E := Lib.hid (And.intro e0 (lis_no e0))
      have H2 := Lib.hid (fun (w' : World) (hq : Bel w w') => l3Terms_v l h l2 h2 v _ ar b false w' hg2 ha (hv.below hq) hsb (hy.below hq) )
      clear hg1 hg2 e0
      rw [E.out.1, E.out.2]
      go_enter Tryd.func26, Tryd.ntmps26
      go_wp2_with fail
      refine (H1.out _ (Bel.alloc0 _ _)).mono ?_; rintro e w1 ⟨rfl, hb1⟩
      have hx1 := boxc hb1 0 _ rfl
      go_wp2_with fail
      refine (H2.out _ hb1.of_alloc).mono ?_; rintro e w2 ⟨rfl, hb2⟩
      go_wp2_with fail
      go_ret2
      exact ⟨rfl, hb1.of_alloc.step hb2⟩
    | true =>
      have e0 : lisOk ar a b = true := by simp [lisOk, hg1, hg2]
      have hla := goodTermsS_low hg1
      have hlb := goodTermsS_low hg2
      have H2 := Lib.hid (fun (w' : World) (hq : Bel w w') => l3Terms_v l h l2 h2 v _ ar b true w' hg2 ha (hv.below hq) hsb (hy.below hq) )
      have E := Lib.hid (And.intro e0 (lis_yes e0))
      clear hg1 hg2 e0
      rw [E.out.1, E.out.2]
      have H3 := Lib.hid (fun (w' : World) (hq : Bel w w') => l3Lists_c l' h' l2 h2 _ _ a b w' hsa hla hsb hlb (hx.below hq) (hy.below hq))
      go_enter Tryd.func26, Tryd.ntmps26
      go_wp2_with fail
      refine (H1.out _ (Bel.alloc0 _ _)).mono ?_; rintro e w1 ⟨rfl, hb1⟩
      have hx1 := boxc hb1 0 _ rfl
      go_wp2_with fail
      refine (H2.out _ hb1.of_alloc).mono ?_; rintro e w2 ⟨rfl, hb2⟩
      have hb12 := hb1.of_alloc.step hb2
      go_wp2_with fail
      refine (H3.out _ hb12).mono ?_; rintro e w3 ⟨rfl, hb3⟩
      go_wp2_with fail
      go_ret2
      exact ⟨rfl, hb12.step hb3⟩

set_option maxRecDepth 100000 in
set_option maxHeartbeats 400000 in
theorem sIsFalling_t {l h l' h' : Nat} {v x : Value} {ar : List Int} {b : List (List Int)} {w : World} (ha : ar.length ≤ 1048576) (hv : SlI l h w v ar) (hsb : short b) (hx : SlS l' h' w x b) :
    Calls Tryd.prog 30 #[.agg #[v], x] w (RetV w (.tuple #[.bool (falAns ar b), .bool (goodTerms ar b 8)])) := by
  obtain ⟨xa, xc, rfl⟩ := hx.form
  cases hg1 : goodTerms ar b 8 with
  | false =>
    have E := Lib.hid (fal_no hg1)
    have H1 := Lib.hid (fun (w' : World) (hq : Bel w w') => l3Terms_v l h l' h' v _ ar b false w' hg1 ha (hv.below hq) hsb (hx.below hq))
    clear hg1
    rw [E.out]
    go_enter Tryd.func30, Tryd.ntmps30
    go_wp2_with fail
    refine (H1.out _ (Bel.alloc0 _ _)).mono ?_; rintro e w1 ⟨rfl, hb1⟩
    go_wp2_with fail
    go_ret2
    exact ⟨rfl, hb1.of_alloc⟩
  | true =>
    have E := Lib.hid (fal_yes hg1)
    have hlb := goodTermsS_low hg1
    have hl8 : b.length ≤ 8 := (goodTerms_iff.1 hg1).2.1
    have H1 := Lib.hid (fun (w' : World) (hq : Bel w w') => l3Terms_v l h l' h' v _ ar b true w' hg1 ha (hv.below hq) hsb (hx.below hq))
    clear hg1
    rw [E.out]
    obtain ⟨hbl, hbm⟩ := hsb
    go_enter Tryd.func30, Tryd.ntmps30
    go_wp2_with fail
    refine (H1.out _ (Bel.alloc0 _ _)).mono ?_; rintro e w1 ⟨rfl, hb1⟩
    go_wp2_with fail
    go_loopw [6] (fun i wr => ∃ k : Nat, (k + 1 ≤ b.length ∨ k = 0) ∧ i = .int .i64 ((k + 1 : Nat) : Int) ∧ fallTo b (k + 1) ∧ Bel w wr) (fun i _ => b.length + 1 - (intOf i).toNat)
    case atStart => exact ⟨0, .inr rfl, rfl, fun j h1 h2 => by omega, hb1.of_alloc⟩
    case round =>
      obtain ⟨k, hk, rfl, hf, hb⟩ := hrel
      by_cases hlt : k + 1 < b.length
      · have hw9 := IntWalk.i64_in (((k + 1 : Nat) : Int) - 1) (by omega)
        obtain ⟨bb, off, p, rfl, hbb, hc, hp⟩ := hx.at hb k (by omega)
        obtain ⟨bb', off', p', e', -, hc', hp'⟩ := hx.at hb (k+1) hlt
        simp only [Option.some.injEq, Addr.mk.injEq, and_true] at e'
        obtain ⟨rfl, rfl⟩ := e'
        have hxl0 := hbm k (by omega)
        have hyl0 := hbm (k+1) hlt
        have hxl1 := hlb k (by omega)
        have hyl1 := hlb (k+1) hlt
        have HN := Lib.hid (And.intro (fun h => falls_no (i := k+1) (by omega) hlt h) (fun h => hf.step (i := k+1) (fun _ => h)))
        have hw8 := IntWalk.i64_in ((k : Int) + 1 - 1) (by omega)
        have hw7 := IntWalk.i64_in (k : Int) (by omega)
        have hi0 : (0 : Int) ≤ k := by omega
        have hi1 : (k : Int) < b.length := by omega
        have hi2 : (0 : Int) ≤ (k : Int) + 1 := by omega
        have hi3 : (k : Int) + 1 < b.length := by omega
        have HB := Lib.hid hb
        clear hf hx hbm hlb hb
        rw [show k + 1 - 1 = k from rfl] at HN
        generalize b.getD k [] = s at *
        generalize b.getD (k+1) [] = t at *
        obtain ⟨ap, cp, rfl⟩ := hp.form
        obtain ⟨ap', cp', rfl⟩ := hp'.form
        generalize hq : above s t = q
        have HA := Lib.hid (fun (w' : World) (hq2 : Bel wr w') => l3Greater_v _ _ _ _ _ _ s t q w' hq hxl0 hyl0 hyl1 (hp.below hq2) (hp'.below hq2))
        have hbk := World.block_lt_of_cell? wr ⟨_, _, none⟩ hc
        cases q with
        | true =>
          have F := Lib.hid (HN.out.2 hq)
          clear HN hq
          go_wp2_with fail
          go_region_held3 (fun w' => w'.cell? ⟨bb, off + k, none⟩ = some (.slice ap s.length cp) ∧ w'.cell? ⟨bb, off + (k+1), none⟩ = some (.slice ap' t.length cp'))
            (first | exact ⟨hc, hc'⟩ | exact ⟨hb2.of_drew.at hbk hc, hb2.of_drew.at hbk hc'⟩)
            (first | (go_at_call 73; refine (HA.out _ (Bel.drew0 _)).mono ?_; rintro e w2 ⟨rfl, hb2⟩) | fail)
          go_wp2_with fail
          exact ⟨⟨k+1, by omega, by go_num, F.out, HB.out.step hb2.of_drew⟩, by simp [intOf]; omega⟩
        | false =>
          have F := Lib.hid (HN.out.1 hq)
          clear HN hq
          go_wp2_with fail
          go_region_held3 (fun w' => w'.cell? ⟨bb, off + k, none⟩ = some (.slice ap s.length cp) ∧ w'.cell? ⟨bb, off + (k+1), none⟩ = some (.slice ap' t.length cp'))
            (first | exact ⟨hc, hc'⟩ | exact ⟨hb2.of_drew.at hbk hc, hb2.of_drew.at hbk hc'⟩)
            (first | (go_at_call 73; refine (HA.out _ (Bel.drew0 _)).mono ?_; rintro e w2 ⟨rfl, hb2⟩) | fail)
          go_wp2_with fail
          go_ret2
          exact ⟨by rw [F.out]; rfl, HB.out.step hb2.of_drew⟩
      · have F := Lib.hid (hf.done (by omega))
        clear hf
        go_wp2_with fail
        go_ret2
        exact ⟨by rw [F.out]; rfl, hb⟩
end Go.Proofs.YtkbgglejhdodoaaDoor
end
