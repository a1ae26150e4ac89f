/- CompareLists, IsFalling: the program's inner functions. -/
import Derived.Test.YtkbgglejhdodoaaDoorLisP0
import Derived.Test.YtkbgglejhdodoaaDoorRowV
import Derived.Test.YtkbgglejhdodoaaDoorCmp2
namespace Go.Proofs.YtkbgglejhdodoaaDoor
open Go.RowKit

theorem RowV.at2 {W wr : World} {ad : Option Addr} {n c : Nat} {xss : List (List Int)} (h : RowV W wr (.slice ad n c) xss) (k : Nat) (hk : k < xss.length) :
    ∃ g ap cp, ad = some ⟨g, 0, none⟩ ∧ W.heap.size ≤ g ∧ wr.cell? ⟨g, k, none⟩ = some (.slice ap (xss.getD k []).length cp) ∧ SlI 0 W.heap.size W (.slice ap (xss.getD k []).length cp) (xss.getD k []) := by
  obtain ⟨g, z, h1, h2, h3, h4⟩ := h.at k hk
  obtain ⟨x, y, hf⟩ := h4.form
  rw [hf] at h3 h4
  exact ⟨g, x, y, h1, h2, h3, h4⟩
theorem minus_short {a b : List (List Int)} (h : short a) : short (minus a b) := by
  refine ⟨Nat.le_trans (minus_len a b) h.1, fun j hj => ?_⟩
  have hm : (minus a b).getD j [] ∈ a := minus_sub (b := b) (by simp [List.getD, hj])
  obtain ⟨i, hi, e⟩ := List.getElem_of_mem hm
  have := h.2 i hi
  rwa [show a.getD i [] = a[i] from by simp [List.getD, hi], e] at this
/-- All elements low. -/
def lowL (l : List (List Int)) : Prop := ∀ j, j < l.length → lowT (l.getD j [])
theorem minus_low {a b : List (List Int)} (h : lowL a) : lowL (minus a b) := fun j hj => by
  have hm : (minus a b).getD j [] ∈ a := minus_sub (b := b) (by simp [List.getD, hj])
  obtain ⟨i, hi, e⟩ := List.getElem_of_mem hm
  have := h i hi
  rwa [show a.getD i [] = a[i] from by simp [List.getD, hi], e] at this

set_option maxRecDepth 100000 in
set_option maxHeartbeats 400000 in
theorem without_c (l h l' h' : Nat) (v u : Value) (a b : List (List Int)) (w : World) (ha : short a) (hb : short b) (hv : SlS l h w v a) (hu : SlS l' h' w u b) :
    Calls Tryd.prog 88 #[v, u] w (RetRow w (minus a b)) := by
  obtain ⟨ad', cap', rfl⟩ := hu.form
  obtain ⟨hbl, hbm⟩ := hb
  have HA := Lib.hid ha
  have hal := ha.1
  clear ha
  go_enter Tryd.func88, Tryd.ntmps88
  go_wp2_with fail
  refine (cloneS_c _ _ _ a w hal hv).mono ?_; rintro e w1 ⟨g, n, c, rfl, hR, hb1⟩
  go_wp2_with fail
  go_loopw [5, 14] (fun lv i wr => ∃ k : Nat, k ≤ b.length ∧ i = .int .i64 k ∧ RowV w wr lv (minus a (b.take k)) ∧ Bel w wr) (fun _ i _ => b.length - (intOf i).toNat)
  case atStart => exact ⟨0, Nat.zero_le _, rfl, hR, hb1⟩
  case round =>
    clear hR hb1
    obtain ⟨k, hk, rfl, hR, hb1⟩ := hrel
    by_cases hlt : k < b.length
    · obtain ⟨bb, off, p, rfl, -, hc, hp⟩ := hu.at hb1 k hlt
      have hpm := hbm k hlt
      have HM := Lib.hid (minus_take a b k hlt)
      have HS := Lib.hid (minus_short (b := b.take k) HA.out)
      have hxl : (minus a (b.take k)).length ≤ 1048576 := HS.out.1
      clear hu hv hbm
      generalize b.getD k [] = t at *
      generalize minus a (b.take k) = X at *
      obtain ⟨ax, cx, rfl⟩ := hR.form
      obtain ⟨ap, cp, rfl⟩ := hp.form
      obtain ⟨wo, rfl⟩ : ∃ wo, wo = wr := ⟨wr, rfl⟩
      go_wp2_with fail
      go_loopw [5, 20] (fun lv i wr => ∃ j : Nat, lv = .slice ax X.length cx ∧ j ≤ X.length ∧ i = .int .i64 j ∧ t ∉ X.take j ∧ Bel wo wr) (fun _ i _ => X.length - (intOf i).toNat)
      case atStart => exact ⟨0, rfl, Nat.zero_le _, rfl, by simp, Bel.rfl' _⟩
      case round =>
        obtain ⟨j, rfl, hj, rfl, hn, hb2⟩ := hrel
        by_cases hjl : j < X.length
        · have hR2 := hR.bel hb2
          obtain ⟨gx, az, cz, rfl, hgx, hcell, hz⟩ := hR2.at2 j hjl
          have hzl := HS.out.2 j hjl
          have hz2 := hz.below (hb1.step hb2)
          have HN := Lib.hid (And.intro (fun h => erase_at (t := t) hjl hn h) (fun h => not_take (t := t) hjl hn h))
          have HR := Lib.hid (And.intro hR2 (hb1.step hb2))
          have hp2 := hp.below hb2
          clear hn hR hR2 hz hp hc
          generalize X.getD j [] = y at *
          by_cases he : y = t
          · have HE := Lib.hid (fun (w' : World) (hq : Bel wr w') => slEqual_v _ _ _ _ _ _ t y true w' (by simpa using he.symm) hpm hzl (hp2.below hq) (hz2.below hq))
            have E := Lib.hid (HN.out.1 he)
            clear HN he
            go_wp2_with fail
            refine (HE.out _ (Bel.rfl' _)).mono ?_; rintro e w3 ⟨rfl, hb3⟩
            go_wp2_with fail
            refine (deleteS_c w w3 _ _ _ j X hjl hxl (HR.out.2.step hb3) (HR.out.1.bel hb3)).mono ?_; rintro e w4 ⟨g4, n4, c4, rfl, hR4, hb4⟩
            go_wp2_with fail
            go_roundw
            case rel => exact ⟨k+1, by omega, by go_num, by rw [HM.out, E.out]; exact hR4, hb4⟩
            case measure => simp [intOf]; omega
          · have HE := Lib.hid (fun (w' : World) (hq : Bel wr w') => slEqual_v _ _ _ _ _ _ t y false w' (by simpa using fun h => he h.symm) hpm hzl (hp2.below hq) (hz2.below hq))
            have E := Lib.hid (HN.out.2 he)
            clear HN he
            go_wp2_with fail
            refine (HE.out _ (Bel.rfl' _)).mono ?_; rintro e w3 ⟨rfl, hb3⟩
            go_wp2_with fail
            go_roundw
            case rel => exact ⟨j+1, rfl, by omega, by go_num, E.out, hb2.step hb3⟩
            case measure => simp [intOf]; omega
        · have E := Lib.hid (erase_none (t := t) hjl hn)
          have hR2 := hR.bel hb2
          clear hn hR
          go_wp2_with fail
          go_roundw
          case rel => exact ⟨k+1, by omega, by go_num, by rw [HM.out, E.out]; exact hR2, hb1.step hb2⟩
          case measure => simp [intOf]; omega
    · rw [List.take_of_length_le (by omega)] at hR
      obtain ⟨ax, cx, rfl⟩ := hR.form
      go_wp2_with fail
      go_ret
      exact ⟨_, _, _, rfl, hR, hb1⟩

theorem domFn_c (l h l' h' g : Nat) (x p : Value) (u t : List Int) (q : Bool) (w : World) (he : above u t = q) (hT : Tab w) (hul : u.length ≤ 1048576) (htl : t.length ≤ 1048576) (hlu : lowT u) (hlt : lowT t) (hc : w.cell? ⟨g, 0, none⟩ = some p) (hx : SlI l h w x u) (hp : SlI l' h' w p t) :
    Calls Tryd.prog 96 #[x, .pointer (some ⟨g, 0, none⟩)] w (RetV w (.bool q)) := by
  obtain ⟨ax, cx, rfl⟩ := hx.form
  obtain ⟨ap, cp, rfl⟩ := hp.form
  go_enter Tryd.func96, Tryd.ntmps96
  go_wp2_with fail
  refine (isAbove_v l h l' h' _ _ u t q w he hT hul htl hlu hlt hx hp).mono ?_; rintro e w1 ⟨rfl, hb1⟩
  go_wp2_with fail
  go_ret
  exact ⟨rfl, hb1⟩

def RetIx (w : World) (q : Bool) (e : Ending) (w' : World) : Prop := ∃ x : Int, e = .returned (.int .i64 x) ∧ decide (0 ≤ x) = q ∧ Bel w w'
set_option maxRecDepth 100000 in
set_option maxHeartbeats 400000 in
theorem indexFn_c (l h l' h' g : Nat) (v p : Value) (a : List (List Int)) (t : List Int) (w : World) (hT : Tab w) (ha : short a) (hla : lowL a) (htl : t.length ≤ 1048576) (hlt : lowT t) (hc : w.cell? ⟨g, 0, none⟩ = some p) (hp : SlI l' h' w p t) (hv : SlS l h w v a) :
    Calls Tryd.prog 98 #[v, .func (.func 96) #[] #[.pointer (some ⟨g, 0, none⟩)]] w (RetIx w (a.any fun u => above u t)) := by
  have eg : ∀ args w, (callFunc 96 args).run Tryd.prog w = .ok (.enter 96 args) w := enters_of Tryd.func96 (by kernel_rfl) rfl
  obtain ⟨ad, cap, rfl⟩ := hv.form
  obtain ⟨hal, ham⟩ := ha
  have hgl := World.block_lt_of_cell? w ⟨g, 0, none⟩ hc
  go_enter Tryd.func98, Tryd.ntmps98
  go_wp2_with fail
  go_loopw [8] (fun i wr => ∃ k : Nat, k ≤ a.length ∧ i = .int .i64 k ∧ ((a.take k).any fun u => above u t) = false ∧ Bel w wr) (fun i _ => a.length - (intOf i).toNat)
  case atStart => exact ⟨0, Nat.zero_le _, rfl, rfl, Bel.rfl' _⟩
  case round =>
    obtain ⟨k, hk, rfl, hn, hb⟩ := hrel
    by_cases hkl : k < a.length
    · obtain ⟨bb, off, z, rfl, -, hcell, hz⟩ := hv.at hb k hkl
      have hzl := ham k hkl
      have hzlow := hla k hkl
      have hc2 := hb.at hgl hc
      have HN := Lib.hid (And.intro (any_take (t := t) hkl hn) (fun h => any_yes (t := t) hkl h))
      clear hn hv ham hla
      generalize a.getD k [] = y at *
      obtain ⟨az, cz, rfl⟩ := hz.form
      cases hab : above y t with
      | true =>
        have HD := Lib.hid (domFn_c _ _ _ _ g _ p y t true wr hab (hT.bel hb) hzl htl hzlow hlt hc2 hz (hp.below hb))
        have E := Lib.hid (HN.out.2 hab)
        clear HN hab
        go_wp2_with (go_at_fn 96; refine HD.out.mono ?_; rintro e w2 ⟨rfl, hb2⟩)
        go_ret
        exact ⟨_, rfl, by rw [E.out]; simp, hb.step hb2⟩
      | false =>
        have HD := Lib.hid (domFn_c _ _ _ _ g _ p y t false wr hab (hT.bel hb) hzl htl hzlow hlt hc2 hz (hp.below hb))
        have E := Lib.hid (HN.out.1.trans hab)
        clear HN hab
        go_wp2_with (go_at_fn 96; refine HD.out.mono ?_; rintro e w2 ⟨rfl, hb2⟩)
        go_roundw
        case rel => exact ⟨k+1, by omega, by go_num, E.out, hb.step hb2⟩
        case measure => simp [intOf]; omega
    · have E := Lib.hid (any_end (t := t) hkl hn)
      clear hn
      go_wp2_with fail
      go_ret
      exact ⟨_, rfl, by rw [E.out]; rfl, hb⟩
theorem containsFn_c (l h l' h' g : Nat) (v p : Value) (a : List (List Int)) (t : List Int) (q : Bool) (w : World) (he : (a.any fun u => above u t) = q) (hT : Tab w) (ha : short a) (hla : lowL a) (htl : t.length ≤ 1048576) (hlt : lowT t) (hc : w.cell? ⟨g, 0, none⟩ = some p) (hp : SlI l' h' w p t) (hv : SlS l h w v a) :
    Calls Tryd.prog 97 #[v, .func (.func 96) #[] #[.pointer (some ⟨g, 0, none⟩)]] w (RetV w (.bool q)) := by
  have HI := Lib.hid (indexFn_c l h l' h' g v p a t w hT ha hla htl hlt hc hp hv)
  rw [he] at HI
  obtain ⟨ad, cap, rfl⟩ := hv.form
  clear he
  go_enter Tryd.func97, Tryd.ntmps97
  go_wp2_with fail
  refine HI.out.mono ?_; rintro e w1 ⟨x, rfl, hx, hb1⟩
  go_wp2_with fail
  go_ret
  subst hx
  exact ⟨rfl, hb1⟩

set_option maxRecDepth 100000 in
set_option maxHeartbeats 400000 in
theorem dominates_v (l h l' h' : Nat) (v u : Value) (a b : List (List Int)) (q : Bool) (w : World) (hd : dom a b = q) (hT : Tab w) (ha : short a) (hla : lowL a) (hb : short b) (hlb : lowL b) (hv : SlS l h w v a) (hu : SlS l' h' w u b) :
    Calls Tryd.prog 89 #[v, u] w (RetV w (.bool q)) := by
  have hmf : ∀ (fn : Fn) (first cap : Array Value) (w : World), (Instr.makeFunc fn first cap).run Tryd.prog w = .ok (.func fn first cap) w := fun _ _ _ _ => rfl
  obtain ⟨ad, cap, rfl⟩ := hv.form
  obtain ⟨ad', cap', rfl⟩ := hu.form
  obtain ⟨hbl, hbm⟩ := hb
  have HD := Lib.hid hd
  clear hd
  go_enter Tryd.func89, Tryd.ntmps89
  go_wp2_with fail
  go_loopw [10] (fun i wr => ∃ k : Nat, k ≤ b.length ∧ i = .int .i64 k ∧ dom a (b.take k) = true ∧ Bel w wr) (fun i _ => b.length - (intOf i).toNat)
  case atStart => exact ⟨0, Nat.zero_le _, rfl, rfl, Bel.rfl' _⟩
  case round =>
    obtain ⟨k, hk, rfl, hn, hb1⟩ := hrel
    by_cases hlt : k < b.length
    · obtain ⟨bb, off, p, rfl, -, hc, hp⟩ := hu.at hb1 k hlt
      have hpl := hbm k hlt
      have hplow := hlb k hlt
      have HN := Lib.hid (And.intro (fun h => dom_no (a := a) hlt h) (fun h => dom_take hlt hn h))
      have hv1 := hv.below hb1
      have hT1 := hT.bel hb1
      clear hn hu hbm hlb hv
      generalize b.getD k [] = t at *
      obtain ⟨ap, cp, rfl⟩ := hp.form
      have hs := Bel.alloc0 wr (.cells #[.slice ap t.length cp] 24)
      have hcc : (wr.alloc (.cells #[.slice ap t.length cp] 24)).cell? ⟨wr.heap.size, 0, none⟩ = some (.slice ap t.length cp) := by rw [World.cell?_alloc_new wr]; rfl
      generalize hq : (a.any fun u => above u t) = r
      have HC := Lib.hid (fun (w' : World) (hq2 : Bel wr w') (hc2 : w'.cell? ⟨wr.heap.size, 0, none⟩ = some (.slice ap t.length cp)) => containsFn_c _ _ _ _ wr.heap.size _ _ a t r w' hq (hT1.bel hq2) ha hla hpl hplow hc2 (hp.below hq2) (hv1.below hq2))
      have HB := Lib.hid hb1
      cases r with
      | false =>
        have E : Hid (q = false) := HD.out.symm.trans (HN.out.1 hq)
        clear hq HN hv1 hp
        go_wp2_with fail
        refine (HC.out _ hs hcc).mono ?_; rintro e w2 ⟨rfl, hb2⟩
        go_wp2_with fail
        go_ret
        exact ⟨by rw [E.out]; rfl, HB.out.step (hs.step hb2)⟩
      | true =>
        have E := Lib.hid (HN.out.2 hq)
        clear hq HN hv1 hp
        go_wp2_with fail
        refine (HC.out _ hs hcc).mono ?_; rintro e w2 ⟨rfl, hb2⟩
        go_wp2_with fail
        go_roundw
        case rel => exact ⟨k+1, by omega, by go_num, E.out, HB.out.step (hs.step hb2)⟩
        case measure => simp [intOf]; omega
    · have E : Hid (q = true) := HD.out.symm.trans (dom_all hlt hn)
      clear hn
      go_wp2_with fail
      go_ret
      exact ⟨by rw [E.out]; rfl, hb1⟩
end Go.Proofs.YtkbgglejhdodoaaDoor
