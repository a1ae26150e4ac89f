/- Texts merged, part 11. -/
import Derived.Test.YtikllmdmifecpaaGreatDoorRows
import Derived.ProofKit
import Derived.OpenShut
import Derived.ShutString
import Derived.ChangeOld
import Derived.Lib.SmallJoins
import Derived.Deep.Slices
import Derived.Deep.Strs
import Derived.Test.YtikllmdmifecpaaGreatDoorMgResolve10
section
/- Chapter 4, the program: MaximalIn. -/
namespace Go.Proofs.YtikllmdmifecpaaGreatDoor
open Go.RowKit

theorem anyF_take {f : Lt → Bool} {c : List Lt} {k : Nat} (hk : k < c.length) (hn : (c.take k).any f = false) : (c.take (k+1)).any f = f (c.getD k lt0) := by
  rw [List.take_add_one, List.any_append, hn, List.getElem?_eq_getElem hk]; simp [List.getD, hk]
theorem anyF_yes {f : Lt → Bool} {c : List Lt} {k : Nat} (hk : k < c.length) (h : f (c.getD k lt0) = true) : c.any f = true := List.any_eq_true.2 ⟨_, mem_getD c lt0 k hk, h⟩
theorem anyF_end {f : Lt → Bool} {c : List Lt} {k : Nat} (hk : ¬ k < c.length) (hn : (c.take k).any f = false) : c.any f = false := by rw [List.take_of_length_le (by omega)] at hn; exact hn
def overF (Y : List (List Int)) (u : Lt) : Bool := decide (cmpL (listL u) Y = 1)
theorem over_max {c : List Lt} {k : Nat} : c.any (overF (listL (c.getD k lt0))) = !maxAt c k := by
  cases h : maxAt c k with
  | true =>
    unfold maxAt at h
    simp only [List.all_eq_true, List.mem_range, Bool.or_eq_true, decide_eq_true_eq, Bool.not_eq_true', decide_eq_false_iff_not] at h
    refine (Bool.eq_false_iff.2 fun h2 => ?_)
    obtain ⟨x, hx, hc⟩ := List.any_eq_true.1 h2
    obtain ⟨i, hi, rfl⟩ := List.getElem_of_mem hx
    have hc : cmpL (listL c[i]) (listL (c.getD k lt0)) = 1 := of_decide_eq_true hc
    rcases h i hi with e | e
    · subst e
      have : c.getD i lt0 = c[i] := by simp [List.getD, hi]
      rw [this] at hc
      exact cmpL_irrefl _ hc
    · have : c.getD i lt0 = c[i] := by simp [List.getD, hi]
      rw [this] at e
      exact e hc
  | false =>
    show _ = true
    cases h2 : c.any (overF (listL (c.getD k lt0))) with
    | true => rfl
    | false =>
      have h3 : maxAt c k = true := by
        unfold maxAt
        simp only [List.all_eq_true, List.mem_range, Bool.or_eq_true, decide_eq_true_eq, Bool.not_eq_true', decide_eq_false_iff_not]
        refine fun i hi => .inr fun h4 => ?_
        have := List.any_eq_false.1 h2 _ (mem_getD c lt0 i hi)
        exact this (decide_eq_true h4)
      rw [h] at h3
      cases h3

set_option maxRecDepth 100000 in
set_option maxHeartbeats 400000 in
theorem overFn_c (l h l' h' g g2 k : Nat) (x : Lt) (c : List Lt) (u1 u2 vc : Value) (q : Bool) (w : World) (he : overF (listL (c.getD k lt0)) x = q) (hT : Tab w) (hsx : short (listL x)) (hlx : lowL (listL x)) (hsy : short (listL (c.getD k lt0))) (hly : lowL (listL (c.getD k lt0))) (hk : k < c.length) (h1 : SlI l h w u1 x.2.1) (h2 : SlI l h w u2 x.2.2) (hv : SlC l' h' w vc c)
    (hc1 : w.cell? ⟨g, 0, none⟩ = some vc) (hc2 : w.cell? ⟨g2, 0, none⟩ = some (.int .i64 k)) :
    Calls Tryz.prog 125 #[.agg #[.bool x.1, u1, u2], .pointer (some ⟨g, 0, none⟩), .pointer (some ⟨g2, 0, none⟩)] w (RetV w (.bool q)) := by
  obtain ⟨ad, cap, rfl⟩ := hv.form
  obtain ⟨b, off, q1, q2, rfl, hbs, d1, d2, d3, t1, t2⟩ := hv.at (Bel.rfl' w) k hk
  have hgl := World.block_lt_of_cell? w ⟨g, 0, none⟩ hc1
  have hgl2 := World.block_lt_of_cell? w ⟨g2, 0, none⟩ hc2
  have hkI : (k : Int) < c.length := by omega
  have HC := Lib.hid (fun (w' : World) (hb : Bel w w') => comparedLits_c _ _ _ _ x (c.getD k lt0) u1 u2 q1 q2 w' (hT.bel hb) hsx hlx hsy hly (h1.below hb) (h2.below hb) (t1.below hb) (t2.below hb))
  have HE := Lib.hid he
  clear he hv hsx hlx hsy hly
  unfold overF at HE
  generalize cmpL (listL x) (listL (c.getD k lt0)) = r at *
  generalize c.getD k lt0 = y at *
  obtain ⟨px, xl, xr⟩ := x
  obtain ⟨py, yl, yr⟩ := y
  simp only at *
  obtain ⟨a1, e1, rfl⟩ := h1.form
  obtain ⟨a2, e2, rfl⟩ := h2.form
  obtain ⟨a3, e3, rfl⟩ := t1.form
  obtain ⟨a4, e4, rfl⟩ := t2.form
  clear h1 h2 t1 t2
  have B0 := (Bel.alloc0 w (.cells #[.bool px, .slice a1 xl.length e1, .slice a2 xr.length e2] 67)).drew
  have f0 : (w.alloc (.cells #[.bool px, .slice a1 xl.length e1, .slice a2 xr.length e2] 67)).drew.cell? ⟨w.heap.size, 0, none⟩ = some (.bool px) := boxc ((Bel.rfl' _).drew) 0 _ rfl
  have f1 : (w.alloc (.cells #[.bool px, .slice a1 xl.length e1, .slice a2 xr.length e2] 67)).drew.cell? ⟨w.heap.size, 1, none⟩ = some (.slice a1 xl.length e1) := boxc ((Bel.rfl' _).drew) 1 _ rfl
  have f2 : (w.alloc (.cells #[.bool px, .slice a1 xl.length e1, .slice a2 xr.length e2] 67)).drew.cell? ⟨w.heap.size, 2, none⟩ = some (.slice a2 xr.length e2) := boxc ((Bel.rfl' _).drew) 2 _ rfl
  have f3 := B0.at hgl hc1
  have f4 := B0.at hgl2 hc2
  have f5 := B0.at hbs d1
  have f6 := B0.at hbs d2
  have f7 := B0.at hbs d3
  have HF := Lib.hid (fun (w' : World) (hb : Bel (w.alloc (.cells #[.bool px, .slice a1 xl.length e1, .slice a2 xr.length e2] 67)).drew w') => (⟨hb.at (World.block_lt_of_cell? _ ⟨_, _, none⟩ f0) f0, hb.at (World.block_lt_of_cell? _ ⟨_, _, none⟩ f1) f1, hb.at (World.block_lt_of_cell? _ ⟨_, _, none⟩ f2) f2, hb.at (World.block_lt_of_cell? _ ⟨_, _, none⟩ f3) f3, hb.at (World.block_lt_of_cell? _ ⟨_, _, none⟩ f4) f4, hb.at (World.block_lt_of_cell? _ ⟨_, _, none⟩ f5) f5, hb.at (World.block_lt_of_cell? _ ⟨_, _, none⟩ f6) f6, hb.at (World.block_lt_of_cell? _ ⟨_, _, none⟩ f7) f7⟩ : (w'.cell? ⟨w.heap.size, 0, none⟩ = some (.bool px) ∧ w'.cell? ⟨w.heap.size, 1, none⟩ = some (.slice a1 xl.length e1) ∧ w'.cell? ⟨w.heap.size, 2, none⟩ = some (.slice a2 xr.length e2) ∧ w'.cell? ⟨g, 0, none⟩ = some (.slice (some ⟨b, off, none⟩) c.length cap) ∧ w'.cell? ⟨g2, 0, none⟩ = some (.int .i64 k) ∧ w'.cell? ⟨b, off + k * 3, none⟩ = some (.bool py) ∧ w'.cell? ⟨b, off + k * 3 + 1, none⟩ = some (.slice a3 yl.length e3) ∧ w'.cell? ⟨b, off + k * 3 + 2, none⟩ = some (.slice a4 yr.length e4))))
  clear d1 d2 d3 hc1 hc2 f0 f1 f2 f3 f4 f5 f6 f7
  go_enter Tryz.func125, Tryz.ntmps125
  go_wp2_with fail
  go_region_held3 (fun w' => w'.cell? ⟨w.heap.size, 0, none⟩ = some (.bool px) ∧ w'.cell? ⟨w.heap.size, 1, none⟩ = some (.slice a1 xl.length e1) ∧ w'.cell? ⟨w.heap.size, 2, none⟩ = some (.slice a2 xr.length e2) ∧ w'.cell? ⟨g, 0, none⟩ = some (.slice (some ⟨b, off, none⟩) c.length cap) ∧ w'.cell? ⟨g2, 0, none⟩ = some (.int .i64 k) ∧ w'.cell? ⟨b, off + k * 3, none⟩ = some (.bool py) ∧ w'.cell? ⟨b, off + k * 3 + 1, none⟩ = some (.slice a3 yl.length e3) ∧ w'.cell? ⟨b, off + k * 3 + 2, none⟩ = some (.slice a4 yr.length e4))
    (first | exact HF.out _ (Bel.rfl' _) | exact HF.out _ hb1 | fail)
    (first | (go_at_call 74; refine (HC.out _ B0).mono ?_; rintro e w1 ⟨rfl, hb1⟩) | fail)
  all_goals
    go_wp2_with fail
    go_ret
    exact ⟨by rw [← HE.out]; simp [Bool.beq_eq_decide_eq], B0.step hb1⟩

set_option maxRecDepth 100000 in
set_option maxHeartbeats 400000 in
theorem indexLit_c (l h l' h' g g2 n : Nat) (v vc : Value) (c d : List Lt) (w : World) (hT : Tab w) (hx : shortC c) (hok : lowC c) (hn : n < d.length) (hsy : short (listL (d.getD n lt0))) (hly : lowL (listL (d.getD n lt0))) (hd : SlC l' h' w vc d)
    (hc1 : w.cell? ⟨g, 0, none⟩ = some vc) (hc2 : w.cell? ⟨g2, 0, none⟩ = some (.int .i64 n)) (hv : SlC l h w v c) :
    Calls Tryz.prog 170 #[v, .func (.func 125) #[] #[.pointer (some ⟨g, 0, none⟩), .pointer (some ⟨g2, 0, none⟩)]] w (RetIx w (c.any (overF (listL (d.getD n lt0))))) := by
  have eg : ∀ args w, (callFunc 125 args).run Tryz.prog w = .ok (.enter 125 args) w := enters_of Tryz.func125 (by kernel_rfl) rfl
  obtain ⟨ad, cap, rfl⟩ := hv.form
  obtain ⟨hcl, hcm⟩ := hx
  have hgl := World.block_lt_of_cell? w ⟨g, 0, none⟩ hc1
  have hgl2 := World.block_lt_of_cell? w ⟨g2, 0, none⟩ hc2
  have HDF := Lib.hid (fun (wr : World) (k : Nat) (u1 u2 : Value) (q : Bool) (hb : Bel w wr) (hk : k < c.length) (he : overF (listL (d.getD n lt0)) (c.getD k lt0) = q) (s1 : SlI l h wr u1 (c.getD k lt0).2.1) (s2 : SlI l h wr u2 (c.getD k lt0).2.2) => overFn_c _ _ _ _ g g2 n (c.getD k lt0) d u1 u2 vc q wr he (hT.bel hb) (hok k hk).1 (hok k hk).2 hsy hly hn s1 s2 (hd.below hb) (hb.at hgl hc1) (hb.at hgl2 hc2))
  clear hsy hly hn hd hc1 hc2 hok hT
  generalize overF (listL (d.getD n lt0)) = G at *
  go_enter Tryz.func170, Tryz.ntmps170
  go_wp2_with fail
  go_loopw [8] (fun i wr => ∃ k : Nat, k ≤ c.length ∧ i = .int .i64 k ∧ (c.take k).any G = false ∧ Bel w wr) (fun i _ => c.length - (intOf i).toNat)
  case atStart => exact ⟨0, Nat.zero_le _, rfl, rfl, Bel.rfl' _⟩
  case round =>
    obtain ⟨k, hk, rfl, hnn, hb⟩ := hrel
    by_cases hkl : k < c.length
    · obtain ⟨bb, off, u1, u2, rfl, hbs, c1, c2, c3, s1, s2⟩ := hv.at hb k hkl
      have HD := fun (q : Bool) (he : G (c.getD k lt0) = q) => HDF.out wr k u1 u2 q hb hkl he s1 s2
      have HN := Lib.hid (And.intro (anyF_take hkl hnn) (fun h => anyF_yes (f := G) hkl h))
      clear hnn hv hcm HDF
      generalize c.getD k lt0 = x at *
      obtain ⟨p, xl, xr⟩ := x
      simp only at *
      obtain ⟨a1, e1, rfl⟩ := s1.form
      obtain ⟨a2, e2, rfl⟩ := s2.form
      clear s1 s2
      cases hab : G (p, xl, xr) with
      | true =>
        have HDD := Lib.hid (HD _ hab)
        have E := Lib.hid (HN.out.2 hab)
        clear HN hab HD
        go_wp2_with (go_at_fn 125; refine HDD.out.mono ?_; rintro e w2 ⟨rfl, hb2⟩)
        go_ret
        exact ⟨_, rfl, by rw [E.out]; simp, hb.step hb2⟩
      | false =>
        have HDD := Lib.hid (HD _ hab)
        have E := Lib.hid (HN.out.1.trans hab)
        clear HN hab HD
        go_wp2_with (go_at_fn 125; refine HDD.out.mono ?_; rintro e w2 ⟨rfl, hb2⟩)
        go_roundw
        case rel => exact ⟨k+1, by omega, by go_num, E.out, hb.step hb2⟩
        case measure => simp [intOf]; omega
    · have E := Lib.hid (anyF_end hkl hnn)
      clear hnn
      go_wp2_with fail
      go_ret
      exact ⟨_, rfl, by rw [E.out]; rfl, hb⟩
theorem containsLit_c (l h l' h' g g2 n : Nat) (v vc : Value) (c d : List Lt) (q : Bool) (w : World) (he : c.any (overF (listL (d.getD n lt0))) = q) (hT : Tab w) (hx : shortC c) (hok : lowC c) (hn : n < d.length) (hsy : short (listL (d.getD n lt0))) (hly : lowL (listL (d.getD n lt0))) (hd : SlC l' h' w vc d)
    (hc1 : w.cell? ⟨g, 0, none⟩ = some vc) (hc2 : w.cell? ⟨g2, 0, none⟩ = some (.int .i64 n)) (hv : SlC l h w v c) :
    Calls Tryz.prog 126 #[v, .func (.func 125) #[] #[.pointer (some ⟨g, 0, none⟩), .pointer (some ⟨g2, 0, none⟩)]] w (RetV w (.bool q)) := by
  have HI := Lib.hid (indexLit_c l h l' h' g g2 n v vc c d w hT hx hok hn hsy hly hd hc1 hc2 hv)
  rw [he] at HI
  obtain ⟨ad, cap, rfl⟩ := hv.form
  clear he
  go_enter Tryz.func126, Tryz.ntmps126
  go_wp2_with fail
  refine HI.out.mono ?_; rintro e w1 ⟨x, rfl, hx, hb1⟩
  go_wp2_with fail
  go_ret
  subst hx
  exact ⟨rfl, hb1⟩

set_option maxRecDepth 100000 in
set_option maxHeartbeats 400000 in
theorem isMaximal_c (l h : Nat) (v : Value) (c : List Lt) (n : Nat) (w : World) (hT : Tab w) (hx : shortC c) (hok : lowC c) (hn : n < c.length) (hu : SlC l h w v c) :
    Calls Tryz.prog 72 #[v, .int .i64 n] w (RetV w (.bool (maxAt c n))) := by
  have hmf : ∀ (fn : Fn) (first cap : Array Value) (w : World), (Instr.makeFunc fn first cap).run Tryz.prog w = .ok (.func fn first cap) w := fun _ _ _ _ => rfl
  obtain ⟨ad, cap, rfl⟩ := hu.form
  obtain ⟨k1, k2⟩ := hok n hn
  have HC := Lib.hid (fun (w' : World) (hb' : Bel w w') (g1 : w'.cell? ⟨w.heap.size, 0, none⟩ = some (.slice ad c.length cap)) (g2 : w'.cell? ⟨w.heap.size + 1, 0, none⟩ = some (.int .i64 n)) => containsLit_c _ _ _ _ w.heap.size (w.heap.size + 1) n (.slice ad c.length cap) (.slice ad c.length cap) c c (!maxAt c n) w' over_max (hT.bel hb') hx hok hn k1 k2 (hu.below hb') g1 g2 (hu.below hb'))
  have hs := Bel.alloc2 w (.cells #[.slice ad c.length cap] 30) (.cells #[.int .i64 n] 3)
  have g1 : ((w.alloc (.cells #[.slice ad c.length cap] 30)).alloc (.cells #[.int .i64 n] 3)).cell? ⟨w.heap.size, 0, none⟩ = some (.slice ad c.length cap) := boxc (Bel.alloc0 _ _) 0 _ rfl
  have g2 : ((w.alloc (.cells #[.slice ad c.length cap] 30)).alloc (.cells #[.int .i64 n] 3)).cell? ⟨w.heap.size + 1, 0, none⟩ = some (.int .i64 n) := by
    have := boxc (Bel.rfl' ((w.alloc (.cells #[.slice ad c.length cap] 30)).alloc (.cells #[.int .i64 n] 3))) 0 _ rfl
    rw [World.size_alloc] at this
    exact this
  have HCC := Lib.hid (HC.out _ hs g1 g2)
  clear HC hu hx hok k1 k2
  generalize maxAt c n = q at *
  go_enter Tryz.func72, Tryz.ntmps72
  go_wp2_with fail
  refine HCC.out.mono ?_; rintro e w1 ⟨rfl, hb1⟩
  go_wp2_with fail
  go_ret
  exact ⟨by simp, hs.step hb1⟩
theorem isMaximal_v (l h : Nat) (v : Value) (c : List Lt) (n : Nat) (q : Bool) (w : World) (hq : maxAt c n = q) (hT : Tab w) (hx : shortC c) (hok : lowC c) (hn : n < c.length) (hu : SlC l h w v c) :
    Calls Tryz.prog 72 #[v, .int .i64 n] w (RetV w (.bool q)) := by subst hq; exact isMaximal_c l h v c n w hT hx hok hn hu
end Go.Proofs.YtikllmdmifecpaaGreatDoor
end
section
/- Match: the program's. -/
namespace Go.Proofs.YtikllmdmifecpaaGreatDoor
open Go.RowKit Go.Maps

def RetAg (b m : Nat) (f : Nat → Option Value) (v : Nat) (x : Value) (q : Bool) (w : World) (e : Ending) (w' : World) : Prop := e = .returned (.bool q) ∧ MapV w' b (m+1) (upd f v (some x)) ∧ Chg b (b+1) w w'
/-- What the map holds, told by terms. -/
def Holds (w : World) (f : Nat → Option Value) (F : Nat → List Int) : Prop := ∀ v, v < 12 → (F v).length ≤ 40 ∧ ((F v = [] ∧ f v = none) ∨ (F v ≠ [] ∧ ∃ u lo hi, f v = some u ∧ SlI lo hi w u (F v)))
theorem Holds.start (w : World) : Holds w (fun _ => none) (fun _ => []) := fun v _ => ⟨by simp, .inl ⟨rfl, rfl⟩⟩
theorem Holds.bel {w w' : World} {f : Nat → Option Value} {F : Nat → List Int} (h : Holds w f F) (hb : Bel w w') : Holds w' f F := fun v hv => ⟨(h v hv).1, (h v hv).2.imp id fun ⟨a, u, lo, hi, e, s⟩ => ⟨a, u, lo, hi, e, s.below hb⟩⟩
theorem Holds.chg {w w' : World} {f : Nat → Option Value} {F : Nat → List Int} {b m : Nat} {f' : Nat → Option Value} (h : Holds w f F) (hM : MapV w b m f') (k : Chg b (b+1) w w') : Holds w' f F :=
  fun v hv => ⟨(h v hv).1, (h v hv).2.imp id fun ⟨a, u, lo, hi, e, s⟩ => ⟨a, u, lo, hi, e, s.chgMap hM k⟩⟩
theorem Holds.put {w : World} {f : Nat → Option Value} {F : Nat → List Int} (h : Holds w f F) (v : Nat) (x : Value) (t : List Int) (lo hi : Nat) (ht : t.length ≤ 40) (hp : 0 < t.length) (hx : SlI lo hi w x t) : Holds w (upd f v (some x)) (upd F v t) := by
  intro i hi'
  by_cases e : i = v
  · subst e
    rw [upd_same, upd_same]
    exact ⟨ht, .inr ⟨by intro h; rw [h] at hp; simp at hp, x, lo, hi, rfl, hx⟩⟩
  · rw [upd_other _ _ e, upd_other _ _ e]; exact h i hi'
theorem Holds.sub {w : World} {f : Nat → Option Value} {F : Nat → List Int} (h : Holds w f F) : ∀ v, v < 12 → (F v).length ≤ 1048576 ∧ ∃ lo hi, SlI lo hi w ((f v).getD (.slice none 0 0)) (F v) := by
  intro v hv
  obtain ⟨h1, h2⟩ := h v hv
  refine ⟨by omega, ?_⟩
  rcases h2 with ⟨e1, e2⟩ | ⟨_, u, lo, hi, e, s⟩
  · rw [e1, e2]; exact ⟨0, 0, SlI.nil 0 0 w⟩
  · rw [e]; exact ⟨lo, hi, s⟩

theorem Holds.same {w w' : World} {f : Nat → Option Value} {F : Nat → List Int} (h : Holds w f F) (k : ∀ lo hi u xs, SlI lo hi w u xs → SlI lo hi w' u xs) : Holds w' f F :=
  fun v hv => ⟨(h v hv).1, (h v hv).2.imp id fun ⟨a, u, lo, hi, e, s⟩ => ⟨a, u, lo, hi, e, k lo hi u _ s⟩⟩
/-- What a match leaves behind: the map of the found terms has been written, and nothing else. -/
def RetMt (b m : Nat) (R : Option (Nat → List Int)) (w : World) (e : Ending) (w' : World) : Prop :=
  ∃ m' f', e = .returned (.bool R.isSome) ∧ m ≤ m' ∧ m' ≤ m + 40 ∧ MapV w' b m' f' ∧ Chg b (b+1) w w' ∧ ∀ G, R = some G → Holds w' f' G

end Go.Proofs.YtikllmdmifecpaaGreatDoor
end
section
/- Unify: the program's inner functions. -/
namespace Go.Proofs.YtikllmdmifecpaaGreatDoor
open Go.RowKit Go.Maps

theorem putFor_take (n : Int) (u t : List Int) (k : Nat) (hk : k < t.length) : putFor n u (t.take (k+1)) = putFor n u (t.take k) ++ (if t.getD k 0 = n then u else [t.getD k 0]) := by
  rw [List.take_succ_eq_append_getElem hk, putFor_append, putFor_cons, putFor_nil, List.append_nil]
  simp [List.getD, hk]

set_option maxRecDepth 100000 in
set_option maxHeartbeats 400000 in
theorem iPutFor_c (l h l' h' : Nat) (v x : Value) (t u : List Int) (n : Int) (w : World) (ht : t.length ≤ 1024) (hu40 : u.length ≤ 40) (hup : 0 < u.length) (hv : SlI l h w v t) (hx : SlI l' h' w x u) :
    Calls Tryz.prog 159 #[v, .int .i64 n, x] w (RetI w (putFor n u t)) := by
  obtain ⟨i0, hi0, hz0, hz1, hz2⟩ := info_parts Tryz.info3
  obtain ⟨ad, cap, rfl, -, -, hr⟩ := hv
  obtain ⟨pb, po, pc, rfl, hpc⟩ := hx.plain hup
  go_enter Tryz.func159, Tryz.ntmps159
  go_wp2_with fail
  go_loopw [7, 12] (fun vs i wr => ∃ k : Nat, k ≤ t.length ∧ i = .int .i64 k ∧ wr.ownsRow w.heap.size 3 1 vs (putFor n u (t.take k)).length ((putFor n u (t.take k)).map (Value.int .i64)) ∧ Bel w wr) (fun _ i _ => t.length - (intOf i).toNat)
  case atStart => exact ⟨0, Nat.zero_le _, rfl, World.ownsRow_nil _ _ _ _, Bel.rfl' _⟩
  case round =>
    obtain ⟨k, hk, rfl, hown, hb2⟩ := hrel
    by_cases hlt : k < t.length
    · obtain ⟨bt, offt, rfl, hbl, hcell⟩ := rd hr hb2 k hlt
      have hsucc := putFor_take n u t k hlt
      have hal := putFor_len (n := n) (t := t.take k) hu40 (by omega)
      have hal2 : (putFor n u (t.take k)).length ≤ 40960 := by simp at hal; omega
      clear hr hal
      generalize t.getD k 0 = m at *
      generalize putFor n u (t.take k) = acc at *
      generalize hq : putFor n u (t.take (k+1)) = nxt at *
      by_cases hm : m = n
      · subst hm
        rw [if_pos rfl] at hsucc
        have hn := news_of_sl (hx.below hb2)
        have HS := Lib.hid (And.intro hq hsucc)
        clear hq hsucc
        go_wp2_with (at_builtin; refine wpList_append_own _ rfl _ _ 22 rfl w.heap.size 3 i0 (.int .i64 0) 1 8 Tryz.underlying22 hi0 hz0 hz1 hz2 rfl (by decide) _ _ _ rfl hown ⟨pb, po, none⟩ u.length pc (u.map (Value.int .i64)) rfl (by simp) hn (ones_int _) (by unfold maxLen; first | omega | (simp; omega)) (by first | omega | (simp; omega)) (by have := hb2.size; first | omega | (simp; omega)) ?_; intro v' w1 hown' hgrow _)
        have hb3 := hb2.grown hgrow (fun k hk => own_base hown k hk)
        have hown2 := row_app (by simpa using hown')
        go_roundw
        case rel => exact ⟨k+1, by omega, by go_num, by rw [HS.out.1, HS.out.2]; exact hown2, hb3⟩
        case measure => simp [intOf]; omega
      · rw [if_neg hm] at hsucc
        have HS := Lib.hid (And.intro hq hsucc)
        have hm2 : (m == n) = false := by simpa using hm
        clear hq hsucc hm
        go_wp2_with (at_builtin; refine wpList_append_own _ rfl _ _ 22 rfl w.heap.size 3 i0 (.int .i64 0) 1 8 Tryz.underlying22 hi0 hz0 hz1 hz2 rfl (by decide) _ _ _ rfl (hown.alloc _) ⟨wr.heap.size, 0, none⟩ 1 1 [.int .i64 m] rfl rfl (news_one _ _ _) (one_int _) (by unfold maxLen; first | omega | (simp; omega)) (by first | omega | (simp; omega)) (by have := hb2.size; first | omega | (simp; omega)) ?_; intro v' w1 hown' hgrow _; have hb3 := (hb2.alloc (.cells #[.int .i64 m] 3)).grown hgrow (fun k hk => own_base hown k hk); have hown2 := row_snoc hown')
        go_roundw
        case rel => exact ⟨k+1, by omega, by go_num, by rw [HS.out.1, HS.out.2]; exact hown2, hb3⟩
        case measure => simp [intOf]; omega
    · have e : t.take k = t := List.take_of_length_le (by omega)
      rw [e] at hown
      go_wp2_with fail
      obtain ⟨g, n, c, hv'⟩ := own_form hown
      subst hv'
      go_ret
      exact ⟨_, _, _, rfl, OwnI.of_row hown, hb2⟩

def idxOf (t : List Int) (n : Int) (e : Ending) : Prop := (n ∈ t ∧ ∃ k : Nat, k < t.length ∧ e = .returned (.int .i64 k)) ∨ (n ∉ t ∧ e = .returned (.int .i64 (-1)))
set_option maxRecDepth 100000 in
set_option maxHeartbeats 400000 in
theorem slIndex_c (l h : Nat) (v : Value) (t : List Int) (n : Int) (w : World) (ht : t.length ≤ 1048576) (hv : SlI l h w v t) :
    Calls Tryz.prog 200 #[v, .int .i64 n] w (fun e w' => idxOf t n e ∧ Bel w w') := by
  obtain ⟨ad, cap, rfl⟩ := hv.form
  go_enter Tryz.func200, Tryz.ntmps200
  go_wp2_with fail
  go_loop [8] (fun i => ∃ k : Nat, k ≤ t.length ∧ i = .int .i64 k ∧ n ∉ t.take k) (fun i => t.length - (intOf i).toNat)
  case atStart => exact ⟨0, Nat.zero_le _, rfl, by simp⟩
  case round =>
    obtain ⟨k, hk, rfl, hn⟩ := hrel
    by_cases hlt : k < t.length
    · obtain ⟨b, off, rfl, -, hcell⟩ := hv.at k hlt
      have E1 := Lib.hid (fun h => not_take_succ hlt (n := n) h hn)
      have E2 := Lib.hid (show t.getD k 0 = n → n ∈ t from fun h => by rw [← h]; simp [List.getD, hlt])
      clear hn hv
      generalize t.getD k 0 = x at *
      by_cases hx : x = n
      · have E := Lib.hid (E2.out hx)
        subst hx
        clear E1 E2
        go_wp2_with fail
        go_ret
        exact ⟨.inl ⟨E.out, k, hlt, rfl⟩, Bel.rfl' _⟩
      · have E := Lib.hid (E1.out hx)
        have hx' : (n == x) = false := by simpa using fun h => hx h.symm
        clear hx E1 E2
        go_wp2_with fail
        go_round
        case rel => exact ⟨k+1, by omega, by go_num, E.out⟩
        case measure => simp [intOf]; omega
    · rw [List.take_of_length_le (by omega)] at hn
      have E := Lib.hid hn
      clear hn
      go_wp2_with fail
      go_ret
      exact ⟨.inr ⟨E.out, rfl⟩, Bel.rfl' _⟩
set_option maxRecDepth 100000 in
set_option maxHeartbeats 400000 in
theorem slContains_v (l h : Nat) (v : Value) (t : List Int) (n : Int) (q : Bool) (w : World) (he : decide (n ∈ t) = q) (ht : t.length ≤ 1048576) (hv : SlI l h w v t) :
    Calls Tryz.prog 185 #[v, .int .i64 n] w (RetV w (.bool q)) := by
  have HE := Lib.hid he
  clear he
  go_enter Tryz.func185, Tryz.ntmps185
  go_wp2_with fail
  refine (slIndex_c _ _ _ t n _ ht hv).mono ?_; rintro e w1 ⟨hi, hb⟩
  rcases hi with ⟨hm, k, hk, rfl⟩ | ⟨hm, rfl⟩
  · have hd : decide (0 ≤ (k : Int)) = true := by simp
    go_wp2_with fail
    go_ret
    exact ⟨by rw [← HE.out, decide_eq_true hm]; rfl, hb⟩
  · go_wp2_with fail
    go_ret
    exact ⟨by rw [← HE.out, decide_eq_false hm]; rfl, hb⟩
end Go.Proofs.YtikllmdmifecpaaGreatDoor
end
section
/- Unify: what the program replaces in a round. -/
namespace Go.Proofs.YtikllmdmifecpaaGreatDoor
open Go.RowKit Go.Maps

def RetRep (n : Int) (u : List Int) (bad : Bool) (w : World) (e : Ending) (w' : World) : Prop :=
  Bel w w' ∧ match bad with
    | true => e = .returned (.tuple #[.int .i64 0, .slice none 0 0, .bool false])
    | false => ∃ a c lo hi, e = .returned (.tuple #[.int .i64 n, .slice a u.length c, .bool true]) ∧ SlI lo hi w' (.slice a u.length c) u

set_option maxRecDepth 100000 in
set_option maxHeartbeats 1000000 in
theorem replacement_c (l h l' h' l2 h2 : Nat) (v p q : Value) (ar x y : List Int) (e : Nat) (bad : Bool) (w : World) (hg : goodSign ar = true) (hR : URound ar x y (lowN x y) (other x y) (putU ar x y) (dif x y) e) (hbd : badU ar x y ↔ bad = true) (hx40 : x.length ≤ 40) (hy40 : y.length ≤ 40) (hv : SlI l h w v ar) (hp : SlI l' h' w p x) (hq : SlI l2 h2 w q y) :
    Calls Tryz.prog 158 #[.agg #[v], p, q] w (RetRep (lowN x y) (putU ar x y) bad w) := by
  have hbf := dif_before x y
  have hlt1 := hR.dx
  have hlt2 := hR.dy
  have hne := hR.ne
  have hlow : lowN x y = if y.getD (dif x y) 0 < x.getD (dif x y) 0 then y.getD (dif x y) 0 else x.getD (dif x y) 0 := rfl
  have hoth : other x y = if y.getD (dif x y) 0 < x.getD (dif x y) 0 then x else y := rfl
  obtain ⟨-, -, -, -, -, hdd, hen, hde, heo, hpu, -⟩ := hR
  unfold badU at hbd
  generalize putU ar x y = u at *
  subst hpu
  generalize lowN x y = n at *
  generalize other x y = o at *
  generalize hdv : dif x y = d at *
  clear hdv
  obtain ⟨pb, po, pc, rfl, hpc⟩ := hp.plain (by omega)
  obtain ⟨qb, qo, qc, rfl, hqc⟩ := hq.plain (by omega)
  have HX := Lib.hid (And.intro hlow (And.intro hoth (And.intro hen hbd)))
  clear hlow hoth hen hbd
  go_enter Tryz.func158, Tryz.ntmps158
  go_wp2_with fail
  go_loopw [9] (fun i wr => ∃ k : Nat, k ≤ d ∧ i = .int .i64 k ∧ Bel (w.alloc (.cells #[v] 33)) wr) (fun i _ => d - (intOf i).toNat)
  case atStart => exact ⟨0, Nat.zero_le _, rfl, Bel.rfl' _⟩
  case round =>
    obtain ⟨k, hk, rfl, hb⟩ := hrel
    have hbox := boxc hb 0 _ rfl
    have hpw := hp.below hb.of_alloc
    have hqw := hq.below hb.of_alloc
    obtain ⟨b1, o1, e1, -, hc1⟩ := hpw.at k (by omega)
    obtain ⟨b2, o2, e2, -, hc2⟩ := hqw.at k (by omega)
    simp only [Option.some.injEq, Addr.mk.injEq] at e1 e2
    obtain ⟨rfl, rfl, -⟩ := e1
    obtain ⟨rfl, rfl, -⟩ := e2
    have hkx : (k : Int) < x.length := by omega
    have hky : (k : Int) < y.length := by omega
    by_cases hlt : k < d
    · obtain ⟨-, -, h3⟩ := hbf k hlt
      rw [← h3] at hc2
      have HB := Lib.hid hbf
      clear hbf h3 hne
      generalize x.getD k 0 = m at *
      have hw24 := IntWalk.i64_in ((k : Int) + 1) (by omega)
      go_wp2_with fail
      go_quiet (fail)
      go_wp2_with fail
      go_roundw
      case rel => exact ⟨k+1, by omega, by go_num, hb.drewN _⟩
      case measure => simp [intOf]; omega
    · obtain rfl : k = d := by omega
      clear hbf
      generalize x.getD k 0 = m1 at *
      generalize y.getD k 0 = m2 at *
      have hne2 : (m1 == m2) = false := by simpa using hne
      by_cases hsw : m2 < m1
      · have hgt : decide (m2 < m1) = true := by simpa using hsw
        obtain ⟨hlow, hoth, hen, hbd⟩ := HX.out
        rw [if_pos hsw] at hlow hoth
        subst hlow hoth
        have hcut := hpw.cut k e (by omega) heo
        have hpl' := partOf_len o k e heo
        have hke : (k : Int) < e := by omega
        have hke2 : (k : Int) ≤ e := by omega
        have heo2 : (e : Int) ≤ o.length := by omega
        have hec : (e : Int) ≤ pc := by omega
        have hcut2 : SlI _ _ wr (.slice (some ⟨pb, po + k, none⟩) (e - k) (pc - k)) (partOf o k e) := hcut
        clear hcut
        go_wp2_with fail
        go_quiet (fail)
        go_wp2_with fail
        go_quiet (fail)
        go_wp2_with fail
        refine (termEnd_v _ _ _ _ _ _ ar o k e _ hen hg (by omega) (by omega) (hv.below (hb.drewN _).of_alloc) (hp.below (hb.drewN _).of_alloc)).mono ?_; rintro e' w3 ⟨rfl, hb3⟩
        have hbw := (hb.drewN _).step hb3
        by_cases hn : 0 ≤ n
        · have hd0 : decide (0 ≤ n) = true := by simpa using hn
          have hb0 := hbd.1 (.inl hn)
          subst hb0
          go_wp2_with fail
          go_ret3
          exact ⟨hbw.of_alloc, rfl⟩
        · have hd0 : decide (0 ≤ n) = false := by simpa using hn
          have HC := Lib.hid ((hcut2.below ((Bel.rfl' wr).drewN _)).below hb3)
          by_cases hm : n ∈ partOf o k e
          · have hb0 := hbd.1 (.inr hm)
            have hdm : decide (n ∈ partOf o k e) = true := by simpa using hm
            subst hb0
            go_wp2_with fail
            refine (slContains_v _ _ _ (partOf o k e) n true _ hdm (by omega) HC.out).mono ?_; rintro e2 w4 ⟨rfl, hb4⟩
            go_wp2_with fail
            go_ret3
            exact ⟨(hbw.step hb4).of_alloc, rfl⟩
          · have hb0 : bad = false := by
              cases bad with
              | false => rfl
              | true => exact absurd (hbd.2 rfl) (by rintro (h | h); exact hn h; exact hm h)
            have hdm : decide (n ∈ partOf o k e) = false := by simpa using hm
            subst hb0
            go_wp2_with fail
            refine (slContains_v _ _ _ (partOf o k e) n false _ hdm (by omega) HC.out).mono ?_; rintro e2 w4 ⟨rfl, hb4⟩
            go_wp2_with fail
            go_ret3
            exact ⟨(hbw.step hb4).of_alloc, _, _, _, _, by rw [hpl']; rfl, by rw [hpl']; exact HC.out.below hb4⟩
      · have hgt : decide (m2 < m1) = false := by simpa using hsw
        obtain ⟨hlow, hoth, hen, hbd⟩ := HX.out
        rw [if_neg hsw] at hlow hoth
        subst hlow hoth
        have hcut := hqw.cut k e (by omega) heo
        have hpl' := partOf_len o k e heo
        have hke : (k : Int) < e := by omega
        have hke2 : (k : Int) ≤ e := by omega
        have heo2 : (e : Int) ≤ o.length := by omega
        have hec : (e : Int) ≤ qc := by omega
        have hcut2 : SlI _ _ wr (.slice (some ⟨qb, qo + k, none⟩) (e - k) (qc - k)) (partOf o k e) := hcut
        clear hcut
        go_wp2_with fail
        go_quiet (fail)
        go_wp2_with fail
        go_quiet (fail)
        go_wp2_with fail
        refine (termEnd_v _ _ _ _ _ _ ar o k e _ hen hg (by omega) (by omega) (hv.below (hb.drewN _).of_alloc) (hq.below (hb.drewN _).of_alloc)).mono ?_; rintro e' w3 ⟨rfl, hb3⟩
        have hbw := (hb.drewN _).step hb3
        by_cases hn : 0 ≤ n
        · have hd0 : decide (0 ≤ n) = true := by simpa using hn
          have hb0 := hbd.1 (.inl hn)
          subst hb0
          go_wp2_with fail
          go_ret3
          exact ⟨hbw.of_alloc, rfl⟩
        · have hd0 : decide (0 ≤ n) = false := by simpa using hn
          have HC := Lib.hid ((hcut2.below ((Bel.rfl' wr).drewN _)).below hb3)
          by_cases hm : n ∈ partOf o k e
          · have hb0 := hbd.1 (.inr hm)
            have hdm : decide (n ∈ partOf o k e) = true := by simpa using hm
            subst hb0
            go_wp2_with fail
            refine (slContains_v _ _ _ (partOf o k e) n true _ hdm (by omega) HC.out).mono ?_; rintro e2 w4 ⟨rfl, hb4⟩
            go_wp2_with fail
            go_ret3
            exact ⟨(hbw.step hb4).of_alloc, rfl⟩
          · have hb0 : bad = false := by
              cases bad with
              | false => rfl
              | true => exact absurd (hbd.2 rfl) (by rintro (h | h); exact hn h; exact hm h)
            have hdm : decide (n ∈ partOf o k e) = false := by simpa using hm
            subst hb0
            go_wp2_with fail
            refine (slContains_v _ _ _ (partOf o k e) n false _ hdm (by omega) HC.out).mono ?_; rintro e2 w4 ⟨rfl, hb4⟩
            go_wp2_with fail
            go_ret3
            exact ⟨(hbw.step hb4).of_alloc, _, _, _, _, by rw [hpl']; rfl, by rw [hpl']; exact HC.out.below hb4⟩
end Go.Proofs.YtikllmdmifecpaaGreatDoor
end
section
/- Unify: the program's. -/
namespace Go.Proofs.YtikllmdmifecpaaGreatDoor
open Go.RowKit Go.Maps

theorem slI_len {lo hi : Nat} {w : World} {ad : Option Addr} {n c : Nat} {xs : List Int} (h : SlI lo hi w (.slice ad n c) xs) : n = xs.length := by
  obtain ⟨ad', c', e⟩ := h.form
  simp only [Value.slice.injEq] at e
  exact e.2.1
def IRel (ar a b : List Int) (R : Option (Nat → List Int)) (B : Nat) (w0 : World) (k : Nat) (p q : Value) (wr : World) : Prop :=
  ∃ (xs ys : List Int) (F : Nat → List Int) (f : Nat → Option Value) (m : Nat), m + 14 * k ≤ 182 ∧ k + cnt F 12 = 13 ∧ UInv ar a b xs ys F ∧ R = uniGo ar k xs ys F ∧ (∃ lo hi, SlI lo hi wr p xs) ∧ (∃ lo hi, SlI lo hi wr q ys) ∧ MapV wr B m f ∧ Holds wr f F ∧ Bel w0 wr

/-- The terms found, with the new one put into those of the first i variables. -/
def gotF (n : Int) (u : List Int) (F : Nat → List Int) (vs : List Int) : Nat → List Int := fun v => if (v : Int) ∈ vs then putFor n u (F v) else F v
theorem gotF_nil (n : Int) (u : List Int) (F : Nat → List Int) : gotF n u F [] = F := by funext v; simp [gotF]
theorem gotF_snoc (n : Int) (u : List Int) (F : Nat → List Int) (vs : List Int) (v : Nat) : gotF n u F (vs ++ [(v : Int)]) = upd (gotF n u F vs) v (putFor n u (F v)) := by
  funext i
  unfold gotF upd
  by_cases e : i = v
  · subst e; simp
  · have e2 : ¬ (i : Int) = (v : Int) := by omega
    rw [if_neg e]
    simp only [List.mem_append, List.mem_singleton, e2, or_false]
theorem gotF_end {n : Int} {u : List Int} {F : Nat → List Int} {vs : List Int} (h : ∀ v : Nat, v < 12 → (v : Int) ∉ vs → F v = []) (hlow : ∀ v, 12 ≤ v → F v = []) : gotF n u F vs = fun v => putFor n u (F v) := by
  funext v
  unfold gotF
  split
  · rfl
  · rename_i hv
    rcases Nat.lt_or_ge v 12 with h1 | h1
    · rw [h v h1 hv]; rfl
    · rw [hlow v h1]; rfl
theorem holds_some {w : World} {f : Nat → Option Value} {F : Nat → List Int} (h : Holds w f F) {v : Nat} (hv : v < 12) (hs : (f v).isSome = true) : F v ≠ [] ∧ ∃ u lo hi, f v = some u ∧ SlI lo hi w u (F v) := by
  rcases (h v hv).2 with ⟨_, e⟩ | h2
  · rw [e] at hs; simp at hs
  · exact h2
theorem holds_none {w : World} {f : Nat → Option Value} {F : Nat → List Int} (h : Holds w f F) {v : Nat} (hv : v < 12) (hs : ¬ (f v).isSome = true) : F v = [] := by
  rcases (h v hv).2 with ⟨e, _⟩ | ⟨_, u, _, _, e, _⟩
  · exact e
  · rw [e] at hs; simp at hs

set_option maxRecDepth 100000 in
set_option maxHeartbeats 1000000 in
theorem iUnify_t {l h l' h' l2 h2 : Nat} {v x y : Value} {ar a b : List Int} {w : World} (ha : ar.length ≤ 1048576) (hv : SlI l h w v ar) (hal : a.length ≤ 1048576) (hx : SlI l' h' w x a) (hbl : b.length ≤ 1048576) (hy : SlI l2 h2 w y b) :
    Calls Tryz.prog 113 #[.agg #[v], x, y] w (RetSSB w (unifyAns ar a b) (unifyOk ar a b)) := by
  cases hs : goodTerm ar a with
  | false =>
    have h0 : uniOk0 ar a b = false := by simp [uniOk0, hs]
    have E := Lib.hid (unify_no0 h0).1
    have E2 := Lib.hid (unify_no0 h0).2
    have HS := Lib.hid hs; clear hs h0
    go_enter Tryz.func113, Tryz.ntmps113
    go_wp2_with fail
    refine (iGoodTerm_v _ _ _ _ _ _ _ _ _ _ HS.out ha hal (hv.alloc _) (hx.alloc _)).mono ?_; rintro e w1 ⟨rfl, hb1⟩
    go_wp2_with fail
    go_ret2
    exact ⟨_, _, _, by rw [E2.out]; rfl, by rw [E.out]; exact OwnS.nil _ _ _, hb1.of_alloc⟩
  | true =>
    obtain ⟨hg, hop⟩ := goodTerm_iff.1 hs
    cases hs2 : okTerm ar b with
    | false =>
      have h0 : uniOk0 ar a b = false := by simp [uniOk0, hs2]
      have E := Lib.hid (unify_no0 h0).1
      have E2 := Lib.hid (unify_no0 h0).2
      have HS := Lib.hid (And.intro hs (show goodTerm ar b = false by simp [goodTerm, hs2])); clear hs hs2 h0
      go_enter Tryz.func113, Tryz.ntmps113
      go_wp2_with fail
      refine (iGoodTerm_v _ _ _ _ _ _ _ _ _ _ HS.out.1 ha hal (hv.alloc _) (hx.alloc _)).mono ?_; rintro e w1 ⟨rfl, hb1⟩
      have hx1 := boxc hb1 0 _ rfl
      go_wp2_with fail
      refine (iGoodTerm_v _ _ _ _ _ _ _ _ _ _ HS.out.2 ha hbl (hv.below hb1.of_alloc) (hy.below hb1.of_alloc)).mono ?_; rintro e w2 ⟨rfl, hb2⟩
      go_wp2_with fail
      go_ret2
      exact ⟨_, _, _, by rw [E2.out]; rfl, by rw [E.out]; exact OwnS.nil _ _ _, (hb1.step hb2).of_alloc⟩
    | true =>
      have h00 : uniOk0 ar a b = true := by simp [uniOk0, hs, hs2]
      have hU0 := UInv.start hop hs2
      have HS := Lib.hid (And.intro (And.intro hs (show goodTerm ar b = true by simp [goodTerm, hs2, hg])) h00); clear hs hs2 h00 hop
      have hmm := @run_makeMap Tryz.prog
      have hR0 : uniR ar a b = uniGo ar 13 a b (fun _ => []) := rfl
      generalize hR : uniR ar a b = R at *
      go_enter Tryz.func113, Tryz.ntmps113
      go_wp2_with fail
      refine (iGoodTerm_v _ _ _ _ _ _ _ _ _ _ HS.out.1.1 ha hal (hv.alloc _) (hx.alloc _)).mono ?_; rintro e w1 ⟨rfl, hb1⟩
      have hx1 := boxc hb1 0 _ rfl
      go_wp2_with fail
      refine (iGoodTerm_v _ _ _ _ _ _ _ _ _ _ HS.out.1.2 ha hbl (hv.below hb1.of_alloc) (hy.below hb1.of_alloc)).mono ?_; rintro e w2 ⟨rfl, hb2⟩
      have hb12 := hb1.step hb2
      have hsz12 := hb12.size
      simp only [World.size_alloc] at hsz12
      clear hb1 hb2 hx1
      go_wp2_with fail
      have hM0 := MapV.made w2
      have hB0 : Bel (w.alloc (.cells #[v] 33)) (w2.alloc (.map #[] 0)) := hb12.alloc (.map #[] 0)
      go_loopw [1, 2] (fun p q wr => ∃ k, IRel ar a b R w2.heap.size (w.alloc (.cells #[v] 33)) k p q wr) (fun p q wr => leastOf fun k => IRel ar a b R w2.heap.size (w.alloc (.cells #[v] 33)) k p q wr)
      case atStart => exact ⟨13, a, b, _, _, 0, by omega, by simp [cnt], hU0, hR0, ⟨_, _, hx.below hB0.of_alloc⟩, ⟨_, _, hy.below hB0.of_alloc⟩, hM0, Holds.start _, hB0⟩
      case round =>
        clear hM0 hB0 hU0 hR0
        obtain ⟨k, hIR, hleast⟩ := least_at hrel
        have HL := Lib.hid hleast
        clear hleast hrel
        obtain ⟨xs, ys, F, f, m, hm, hcnt, hU, hRk, ⟨lx, hx3, hxs⟩, ⟨ly, hy3, hys⟩, hM, hH, hb⟩ := hIR
        have hbox := boxc hb 0 _ rfl
        have hx40 := (okTerm_seq.1 hU.okx).1
        have hy40 := (okTerm_seq.1 hU.oky).1
        obtain ⟨xa, xc, rfl⟩ := hxs.form
        obtain ⟨ya, yc, rfl⟩ := hys.form
        have hc12 := cnt_le F 12
        obtain ⟨k, rfl⟩ : ∃ k', k = k' + 1 := ⟨k - 1, by omega⟩
        by_cases hEq : xs = ys
        · rw [ug_same hEq] at hRk
          have E := Lib.hid (unify_yes HS.out.2 (hR.trans hRk)).1
          have E2 := Lib.hid (unify_yes HS.out.2 (hR.trans hRk)).2
          have HSB := Lib.hid (fun w' (hbw : Bel wr w') => subst_c _ _ f F w' (hM.bel hbw) (hH.bel hbw).sub)
          have hdec : decide (xs = ys) = true := by simpa using hEq
          clear hRk hH hM hU hEq
          go_wp2_with fail
          refine (slEqual_v _ _ _ _ _ _ xs ys true _ hdec (by omega) (by omega) hxs hys).mono ?_; rintro e w3 ⟨rfl, hb3⟩
          go_wp2_with fail
          refine (HSB.out w3 hb3).mono ?_; rintro e w4 ⟨ao, no, co, rfl, ho, hch⟩
          go_wp2_with fail
          go_ret2
          have hz := (hb.step hb3).size
          simp only [World.size_alloc] at hz
          exact ⟨_, _, _, by rw [E2.out]; rfl, by rw [E.out]; exact ho.mono (by omega) (Nat.le_refl _), hch.bel (hb.step hb3).of_alloc (by omega)⟩
        · have hdec : decide (xs = ys) = false := by simpa using hEq
          obtain ⟨e0, hRo⟩ := uround hU hEq
          by_cases hbad : badU ar xs ys
          · rw [ug_bad hEq hbad] at hRk
            have E := Lib.hid (unify_no (hR.trans hRk)).1
            have E2 := Lib.hid (unify_no (hR.trans hRk)).2
            have HRp := Lib.hid (fun w' (hbw : Bel wr w') => replacement_c _ _ _ _ _ _ v _ _ ar xs ys e0 true w' hg hRo (by simp [hbad]) hx40 hy40 ((hv.below hb.of_alloc).below hbw) (hxs.below hbw) (hys.below hbw))
            clear hRk hH hM hU hEq hRo
            go_wp2_with fail
            refine (slEqual_v _ _ _ _ _ _ xs ys false _ hdec (by omega) (by omega) hxs hys).mono ?_; rintro e w3 ⟨rfl, hb3⟩
            have hbox3 := boxc (hb.step hb3) 0 _ rfl
            go_wp2_with fail
            refine (HRp.out w3 hb3).mono ?_; rintro e w4 ⟨hb4, rfl⟩
            go_wp2_with fail
            go_ret2
            exact ⟨_, _, _, by rw [E2.out]; rfl, by rw [E.out]; exact OwnS.nil _ _ _, ((hb.step hb3).step hb4).of_alloc⟩
          · have hok := uok hU hEq hbad
            have HRp := Lib.hid (fun w' (hbw : Bel wr w') => replacement_c _ _ _ _ _ _ v _ _ ar xs ys e0 false w' hg hRo (by simp [hbad]) hx40 hy40 ((hv.below hb.of_alloc).below hbw) (hxs.below hbw) (hys.below hbw))
            by_cases hlong : longU ar xs ys
            · rw [ug_long hEq hbad hlong] at hRk
              have E := Lib.hid (unify_no (hR.trans hRk)).1
              have E2 := Lib.hid (unify_no (hR.trans hRk)).2
              clear hRk hH hM hU hEq hRo hbad
              unfold longU at hlong
              generalize lowN xs ys = n at *
              generalize putU ar xs ys = u at *
              have hu40 := hok.u40
              have hup := hok.up
              clear hok
              go_wp2_with fail
              refine (slEqual_v _ _ _ _ _ _ xs ys false _ hdec (by omega) (by omega) hxs hys).mono ?_; rintro e w3 ⟨rfl, hb3⟩
              have hbox3 := boxc (hb.step hb3) 0 _ rfl
              go_wp2_with fail
              refine (HRp.out w3 hb3).mono ?_; rintro e w4 ⟨hb4, au, cu, lu, hu2, rfl, hus⟩
              go_wp2_with fail
              refine (iPutFor_c _ _ _ _ _ _ xs u n _ (by omega) hu40 hup (hxs.below (hb3.step hb4)) hus).mono ?_; rintro e w5 ⟨ax, nx, cx, rfl, hX, hb5⟩
              go_wp2_with fail
              refine (iPutFor_c _ _ _ _ _ _ ys u n _ (by omega) hu40 hup (hys.below ((hb3.step hb4).step hb5)) (hus.below hb5)).mono ?_; rintro e w6 ⟨ay, ny, cy, rfl, hY, hb6⟩
              have hnx := slI_len hX.sl
              have hny := slI_len hY.sl
              subst hnx hny
              have hbb := (((hb.step hb3).step hb4).step hb5).step hb6
              by_cases h1 : 40 < (putFor n u xs).length
              · have hd1 : decide (40 < ((putFor n u xs).length : Int)) = true := by simp; omega
                go_wp2_with fail
                go_ret2
                exact ⟨_, _, _, by rw [E2.out]; rfl, by rw [E.out]; exact OwnS.nil _ _ _, hbb.of_alloc⟩
              · have hd1 : decide (40 < ((putFor n u xs).length : Int)) = false := by simp; omega
                have hd2 : decide (40 < ((putFor n u ys).length : Int)) = true := by simp; omega
                go_wp2_with fail
                go_ret2
                exact ⟨_, _, _, by rw [E2.out]; rfl, by rw [E.out]; exact OwnS.nil _ _ _, hbb.of_alloc⟩
            · rw [ug_next hEq hbad hlong] at hRk
              have hUn := hok.next hlong
              have hl1 : ¬ 40 < (putFor (lowN xs ys) (putU ar xs ys) xs).length ∧ ¬ 40 < (putFor (lowN xs ys) (putU ar xs ys) ys).length := by unfold longU at hlong; omega
              clear hEq hRo hbad hlong
              generalize lowN xs ys = n at *
              generalize putU ar xs ys = u at *
              have hu40 := hok.u40
              have hup := hok.up
              have hnlo := hok.lo
              have hnneg := hok.neg
              have hmore := hok.more
              have hv12 : (-1 - n).toNat < 12 := by omega
              have hvn : ((-1 - n).toNat : Int) = -1 - n := by omega
              have hkk : keyOf Tryz.prog 3 (.int .i64 (-1 - n)) = some (kv (-1 - n).toNat) := by rw [← hvn]; exact kv_key hv12
              have hn40 := hUn.len40
              have hFlow := hU.low
              have hF40 := hU.len40
              have hU1 := Lib.hid (And.intro hU (And.intro hUn (And.intro hRk (And.intro hmore hok))))
              have hw73 := IntWalk.i64_in (-1 - n) (by omega)
              obtain ⟨hl1, hl2⟩ := hl1
              have hd1 : decide (40 < ((putFor n u xs).length : Int)) = false := by simp; omega
              have hd2 : decide (40 < ((putFor n u ys).length : Int)) = false := by simp; omega
              clear hU hUn hRk hok hmore
              go_wp2_with fail
              refine (slEqual_v _ _ _ _ _ _ xs ys false _ hdec (by omega) (by omega) hxs hys).mono ?_; rintro e w3 ⟨rfl, hb3⟩
              have hbox3 := boxc (hb.step hb3) 0 _ rfl
              go_wp2_with fail
              refine (HRp.out w3 hb3).mono ?_; rintro e w4 ⟨hb4, au, cu, lu, hu2, rfl, hus⟩
              go_wp2_with fail
              refine (iPutFor_c _ _ _ _ _ _ xs u n _ (by omega) hu40 hup (hxs.below (hb3.step hb4)) hus).mono ?_; rintro e w5 ⟨ax, nx, cx, rfl, hX, hb5⟩
              go_wp2_with fail
              refine (iPutFor_c _ _ _ _ _ _ ys u n _ (by omega) hu40 hup (hys.below ((hb3.step hb4).step hb5)) (hus.below hb5)).mono ?_; rintro e w6 ⟨ay, ny, cy, rfl, hY, hb6⟩
              have hnx := slI_len hX.sl
              have hny := slI_len hY.sl
              subst hnx hny
              have hbr := ((hb3.step hb4).step hb5).step hb6
              have hbb := hb.step hbr
              have hM6 := hM.bel hbr
              have hH6 := hH.bel hbr
              have hX6 := hX.sl.below hb6
              have hY6 := hY.sl
              have hu6 := (hus.below hb5).below hb6
              have hxe : xs.length ≤ 40 := hx40
              clear hM hH hX hY hus hxs hys hbr hb3 hb4 hb5 hb6 hbox3 hbox HRp hdec
              go_wp2_with fail
              refine (vars_c _ m f _ hM6).mono ?_; rintro e w7 ⟨av, nv, cv, vs, rfl, hV, hv12', hnd, hvv, hvs, hb7⟩
              have hnv := slI_len hV.sl
              subst hnv
              have hM7 := hM6.bel hb7
              have hH7 := hH6.bel hb7
              have hbb7 := hbb.step hb7
              have hsz7 := hbb7.size
              simp only [World.size_alloc] at hsz7
              have hbl7 := hM7.lt
              go_wp2_with fail
              go_loopw [58] (fun i wi => ∃ (j : Nat) (f' : Nat → Option Value), j ≤ vs.length ∧ i = .int .i64 j ∧ MapV wi w2.heap.size (m + j) f' ∧ Holds wi f' (gotF n u F (vs.take j)) ∧ (∀ g : Nat, g < 12 → (g : Int) ∉ vs.take j → f' g = f g) ∧ Chg w2.heap.size (w2.heap.size + 1) w7 wi) (fun i _ => vs.length - (intOf i).toNat)
              case atStart => exact ⟨0, f, Nat.zero_le _, rfl, hM7, by rw [List.take_zero, gotF_nil]; exact hH7, fun _ _ _ => rfl, Chg.refl _ _ _⟩
              case round =>
                obtain ⟨j, f', hj, rfl, hMi, hHi, hfi, hch⟩ := hrel
                by_cases hlt : j < vs.length
                · obtain ⟨bv, ov, rfl, -, hcv⟩ := (hV.sl.chgMap hM7 hch).at j hlt
                  obtain ⟨g, hg12, hgj⟩ := hvv (vs.getD j 0) (getD_mem hlt)
                  have hnot : (g : Int) ∉ vs.take j := by
                    rw [← hgj]
                    intro hm2
                    have hmd : vs.getD j 0 ∈ vs.drop j := by rw [List.drop_eq_getElem_cons hlt, show vs.getD j 0 = vs[j] from by simp [List.getD, hlt]]; exact List.mem_cons_self
                    have h1 := hnd
                    rw [← List.take_append_drop j vs, List.nodup_append] at h1
                    exact h1.2.2 _ hm2 _ hmd rfl
                  have htk : vs.take (j+1) = vs.take j ++ [(g : Int)] := by
                    rw [List.take_succ_eq_append_getElem hlt]
                    have : vs[j] = g := by simpa [List.getD, hlt] using hgj
                    rw [this]
                  rw [hgj] at hcv
                  have hfg := hfi g hg12 hnot
                  have hgs : (f g).isSome = true := (hvs g hg12).1 (by rw [← hgj]; exact getD_mem hlt)
                  obtain ⟨hne, ug, lg, hg2, hfu, hgu⟩ := holds_some hH7 hg12 hgs
                  have hguw := hgu.chgMap hM7 hch
                  have hlook := hMi.look hg12
                  rw [hfg, hfu] at hlook
                  simp only [Option.getD_some] at hlook
                  have hput40 : (putFor n u (F g)).length ≤ 40 := by
                    have := hn40 g
                    unfold nextF upd at this
                    split at this
                    · rename_i e
                      exfalso
                      have := hU1.out.2.2.2.2.free
                      rw [← e] at this
                      exact hne this
                    · exact this
                  have hFg40 := hF40 g
                  have hgot := gotF_snoc n u F (vs.take j) g
                  rw [← htk] at hgot
                  have huw := (hu6.below hb7).chgMap hM7 hch
                  obtain ⟨ag, cg, rfl⟩ := hguw.form
                  have hjl : (j : Int) < vs.length := by omega
                  have HG := Lib.hid (And.intro hgot (And.intro hput40 (And.intro hne (And.intro hHi hfi))))
                  clear hgot hput40 hne hHi hfi
                  go_wp2_with fail
                  refine (iPutFor_c _ _ _ _ _ _ (F g) u n _ (by omega) hu40 hup hguw huw).mono ?_; rintro e w8 ⟨ap, np, cp, rfl, hP, hb8⟩
                  have hMi8 := hMi.bel hb8
                  obtain ⟨n9, D9, hn9, hown9, hK9⟩ := hMi8
                  go_wp2_with (at_mapUpdate; refine wpList_mapUpdate_own _ rfl _ _ _ 174 rfl 3 22 keyInt Tryz.underlying174 _ w2.heap.size n9 D9 rfl hown9 (by unfold maxLen; omega) _ _ _ rfl rfl (kv_key hg12) _ [] rfl ?_; intro w10 hown10 hgrow)
                  have hch10 := chg_of_grown hgrow
                  have hM10 : MapV w10 w2.heap.size (m + (j + 1)) (upd f' g (some (.slice ap np cp))) := ⟨n9+1, _, by omega, hown10, hK9.put hown9.isMap hg12 _⟩
                  obtain ⟨hgot, hput40, hne, hHi, hfi⟩ := HG.out
                  have hP10 := hP.sl.chgMap (hMi.bel hb8) hch10
                  have hH10 := ((hHi.bel hb8).chg (hMi.bel hb8) hch10).put g _ (putFor n u (F g)) _ _ hput40 (List.length_pos_iff.2 (putFor_ne (List.length_pos_iff.1 hup) hne)) hP10
                  go_roundw
                  case rel => exact ⟨j+1, _, by omega, by go_num, hM10, by rw [hgot]; exact hH10, fun g' hg' hn' => (by
                    rw [htk] at hn'
                    have h1 : (g' : Int) ∉ vs.take j := fun h => hn' (List.mem_append_left _ h)
                    have h2 : g' ≠ g := fun h => hn' (by rw [h]; simp)
                    rw [upd_other _ _ h2]; exact hfi g' hg' h1), (hch.trans (Chg.of_bel hb8)).trans hch10⟩
                  case measure => simp [intOf]; omega
                · obtain rfl : j = vs.length := by omega
                  rw [List.take_length, gotF_end (fun g hg hn' => holds_none hH7 hg (fun h => hn' ((hvs g hg).2 h))) hFlow] at hHi
                  have hMi0 := hMi
                  obtain ⟨n9, D9, hn9, hown9, hK9⟩ := hMi
                  go_wp2_with (at_mapUpdate; refine wpList_mapUpdate_own _ rfl _ _ _ 174 rfl 3 22 keyInt Tryz.underlying174 _ w2.heap.size n9 D9 rfl hown9 (by unfold maxLen; omega) _ _ _ rfl rfl hkk _ [] rfl ?_; intro w10 hown10 hgrow)
                  have hch10 := chg_of_grown hgrow
                  have hM10 : MapV w10 w2.heap.size (m + vs.length + 1) (upd f' (-1 - n).toNat (some (.slice au u.length cu))) := ⟨n9+1, _, by omega, hown10, hK9.put hown9.isMap hv12 _⟩
                  have huw := ((hu6.below hb7).chgMap hM7 hch).chgMap hMi0 hch10
                  have hH10 := (hHi.chg hMi0 hch10).put (-1 - n).toNat _ u _ _ hu40 hup huw
                  have hX10 := ((hX6.below hb7).chgMap hM7 hch).chgMap hMi0 hch10
                  have hY10 := ((hY6.below hb7).chgMap hM7 hch).chgMap hMi0 hch10
                  obtain ⟨hU, hUn, hRk, hmore, hok⟩ := hU1.out
                  have hbN : Bel (w.alloc (.cells #[v] 33)) w10 := (hch.trans hch10).bel hbb7 (by simp; omega)
                  have HN := Lib.hid (show IRel ar a b R w2.heap.size (w.alloc (.cells #[v] 33)) k (.slice ax (putFor n u xs).length cx) (.slice ay (putFor n u ys).length cy) w10 from
                    ⟨_, _, nextF n u F, _, m + vs.length + 1, by omega, by omega, hUn, hRk, ⟨_, _, hX10⟩, ⟨_, _, hY10⟩, hM10, hH10, hbN⟩)
                  refine ⟨?_, ?measure⟩
                  iterate 90 (try apply Exists.intro)
                  refine ⟨?rel, rfl⟩
                  case rel => exact ⟨k, HN.out⟩
                  case measure => exact least_lt HN.out (Nat.lt_succ_self _) HL.out
end Go.Proofs.YtikllmdmifecpaaGreatDoor
end
section
/- Chapter 6, the program: Resolve. -/
namespace Go.Proofs.YtikllmdmifecpaaGreatDoor
open Go.RowKit

/-- Two slices of literals in a new block, joined. -/
theorem concat2C_c (p0 p1 : Option Addr) (n0 n1 c0 c1 : Nat) (x0 x1 : List Lt) (w : World) (hs : x0.length + x1.length ≤ 1048576)
    (h0 : SlC 0 w.heap.size w (.slice p0 n0 c0) x0) (h1 : SlC 0 w.heap.size w (.slice p1 n1 c1) x1) (t : TypeId) :
    Calls Tryz.prog 115 #[.slice (some ⟨w.heap.size, 0, none⟩) 2 2] (w.alloc (.cells #[.slice p0 n0 c0, .slice p1 n1 c1] t)).drew (RetSC (w.alloc (.cells #[.slice p0 n0 c0, .slice p1 n1 c1] t)).drew (x0 ++ x1)) := by
  obtain rfl := h0.len
  obtain rfl := h1.len
  have hb : Bel w (w.alloc (.cells #[.slice p0 x0.length c0, .slice p1 x1.length c1] t)).drew := (Bel.alloc0 w _).drew
  have hp : PartsC (w.alloc (.cells #[.slice p0 x0.length c0, .slice p1 x1.length c1] t)).drew w.heap.size 0 [x0, x1] := by
    intro j hj
    match j, hj with
    | 0, _ => exact ⟨p0, c0, (World.cell?_alloc_new w _ t 0).trans (by simp), (h0.below hb).mono (Nat.le_refl _) hb.size⟩
    | 1, _ => exact ⟨p1, c1, (World.cell?_alloc_new w _ t 1).trans (by simp), (h1.below hb).mono (Nat.le_refl _) hb.size⟩
  have := concatC_c w.heap.size 0 2 [x0, x1] _ (by simp) (by simp [sumLenC]; omega) hp
  simpa using this

set_option maxRecDepth 100000 in
set_option maxHeartbeats 2000000 in
theorem resolved_c (l h l' h' : Nat) (v u : Value) (ar : List Int) (c : List Lt) (i : Int) (w : World) (hT : Tab w) (ha : ar.length ≤ 1048576) (hg : goodSign ar = true) (hc : okLits ar c = true) (hv : SlI l h w v ar) (hu : SlC l' h' w u c) :
    Calls Tryz.prog 63 #[.agg #[v], u, .int .i64 i] w (RetSN w (resR ar c i).1 (resR ar c i).2) := by
  obtain ⟨h8, hokx⟩ := okLits_iff.1 hc
  obtain ⟨ad, cap, rfl⟩ := hu.form
  cases hin : inB i 0 ((c.length : Int) - 1) with
  | false =>
    rw [resR_none (by rw [hin]; rfl)]
    have HSD := Lib.hid (fun (w' : World) (hb : Bel w w') => hasSide_q l' h' _ c i 0 false w' (by unfold litOk; rw [hin]; rfl) (by omega) (hu.below hb))
    clear hin hu hv hokx
    go_enter Tryz.func63, Tryz.ntmps63
    go_wp2_with fail
    refine (HSD.out _ (Bel.alloc0 _ _)).mono ?_; rintro e w1 ⟨rfl, rfl⟩
    go_wp2_with fail
    go_ret2
    exact ⟨_, _, _, rfl, SlC.nil _ _ _, Bel.alloc0 _ _⟩
  | true =>
    have hb0 : 0 ≤ i ∧ i ≤ (c.length : Int) - 1 := by unfold inB at hin; simpa using hin
    obtain ⟨k, rfl⟩ : ∃ k : Nat, i = (k : Int) := ⟨i.toNat, by omega⟩
    have hkl : k < c.length := by omega
    have hkI : (k : Int) < c.length := by omega
    have HSD := Lib.hid (fun (w' : World) (hb : Bel w w') => hasSide_q l' h' _ c k 0 true w' (by unfold litOk; rw [hin]; rfl) (by omega) (hu.below hb))
    obtain ⟨b, off, u1, u2, rfl, hbs, c1, c2, c3, s1, s2⟩ := hu.at (Bel.rfl' w) k hkl
    cases hpos : (c.getD k lt0).1 with
    | true =>
      rw [resR_none (by rw [hin, Int.toNat_natCast, hpos]; rfl)]
      rw [hpos] at c1
      have c1' := (Bel.alloc0 w (.cells #[v] 33)).at hbs c1
      clear hin hu hv hokx s1 s2 hpos
      go_enter Tryz.func63, Tryz.ntmps63
      go_wp2_with fail
      refine (HSD.out _ (Bel.alloc0 _ _)).mono ?_; rintro e w1 ⟨rfl, rfl⟩
      go_wp2_with fail
      go_ret2
      exact ⟨_, _, _, rfl, SlC.nil _ _ _, Bel.alloc0 _ _⟩
    | false =>
      have hcond : (inB (k : Int) 0 ((c.length : Int) - 1) && !(c.getD (k : Int).toNat lt0).1) = true := by rw [hin, Int.toNat_natCast, hpos]; rfl
      rw [hpos] at c1
      obtain ⟨o1, o2⟩ := okLits_get hokx k hkl
      have HU := Lib.hid (fun (w' : World) (hb : Bel w w') => iUnify_t (w := w') ha (hv.below hb) (by have := (okTerm_len o1).2; omega) (s1.below hb) (by have := (okTerm_len o2).2; omega) (s2.below hb))
      have HF := Lib.hid (fun (w' : World) (hb : Bel (w.alloc (.cells #[v] 33)) w') => (⟨boxc hb 0 _ rfl, hb.at (by simp; omega) ((Bel.alloc0 w _).at hbs c1), hb.at (by simp; omega) ((Bel.alloc0 w _).at hbs c2), hb.at (by simp; omega) ((Bel.alloc0 w _).at hbs c3)⟩ : (w'.cell? ⟨w.heap.size, 0, none⟩ = some v ∧ w'.cell? ⟨b, off + k * 3, none⟩ = some (.bool false) ∧ w'.cell? ⟨b, off + k * 3 + 1, none⟩ = some u1 ∧ w'.cell? ⟨b, off + k * 3 + 2, none⟩ = some u2)))
      obtain ⟨m1, m2, m3, m4⟩ := HF.out _ (Bel.rfl' _)
      obtain ⟨n1, n2, n3, n4⟩ := HF.out _ ((Bel.rfl' _).drew)
      cases hun : unifyOk ar (c.getD k lt0).2.1 (c.getD k lt0).2.2 with
      | false =>
        rw [resR_apart hcond (by rw [Int.toNat_natCast]; exact hun)]
        rw [hun] at HU
        have HUU := HU
        clear hin hcond hu hv hokx o1 o2 hun HU c1 c2 c3
        generalize c.getD k lt0 = x at *
        obtain ⟨px, xl, xr⟩ := x
        simp only at *
        obtain ⟨a1, e1, rfl⟩ := s1.form
        obtain ⟨a2, e2, rfl⟩ := s2.form
        clear s1 s2
        go_enter Tryz.func63, Tryz.ntmps63
        go_wp2_with fail
        refine (HSD.out _ (Bel.alloc0 _ _)).mono ?_; rintro e w1 ⟨rfl, rfl⟩
        go_wp2_with fail
        have B0 := (Bel.alloc0 w (.cells #[v] 33)).drew
        go_region_held3 (fun w' => w'.cell? ⟨w.heap.size, 0, none⟩ = some v ∧ w'.cell? ⟨b, off + k * 3, none⟩ = some (.bool false) ∧ w'.cell? ⟨b, off + k * 3 + 1, none⟩ = some (.slice a1 xl.length e1) ∧ w'.cell? ⟨b, off + k * 3 + 2, none⟩ = some (.slice a2 xr.length e2))
          (first | exact ⟨n1, n2, n3, n4⟩ | exact HF.out _ ((Bel.rfl' _).drew.step hb1) | fail)
          (first | (go_at_call 113; refine (HUU.out _ B0).mono ?_; rintro e w2 ⟨a3, n5, e3, rfl, ho3, hb1⟩) | fail)
        all_goals
          go_wp2_with fail
          go_ret2
          exact ⟨_, _, _, rfl, SlC.nil _ _ _, B0.step hb1⟩
      | true =>
        have hsub := unify_subst hun
        obtain ⟨hl12, h40⟩ := unify_seat hun
        have hfr := flat_rows hc
        have hsa := applyC_short h40 hc
        have hok40 := applyC_ok hsub hc
        have hlen : (applyC (unifyAns ar (c.getD k lt0).2.1 (c.getD k lt0).2.2) c).length = c.length := by simp [applyC]
        rw [hun] at HU
        have HUU := HU
        cases hbig : okLits ar (applyC (unifyAns ar (c.getD k lt0).2.1 (c.getD k lt0).2.2) c) with
        | false =>
          rw [resR_big hcond (by rw [Int.toNat_natCast]; exact hun) (by rw [Int.toNat_natCast]; exact hbig)]
          have HA := Lib.hid (fun (w' : World) (y : Value) (lo hi : Nat) (hb : Bel w w') (hy : SlS lo hi w' y (unifyAns ar (c.getD k lt0).2.1 (c.getD k lt0).2.2)) => appliedClause_c l' h' lo hi _ y _ c w' hl12 h40 (by omega) hfr hy (hu.below hb) false _ (hok40.symm.trans hbig) rfl)
          rw [if_neg (by simp)] at HA
          clear hin hcond hu hv hokx o1 o2 hun HU c1 c2 c3 hsub hl12 h40 hfr hbig hlen hok40
          generalize applyC (unifyAns ar (c.getD k lt0).2.1 (c.getD k lt0).2.2) c = cb at *
          generalize unifyAns ar (c.getD k lt0).2.1 (c.getD k lt0).2.2 = U at *
          generalize c.getD k lt0 = x at *
          obtain ⟨px, xl, xr⟩ := x
          simp only at *
          obtain ⟨a1, e1, rfl⟩ := s1.form
          obtain ⟨a2, e2, rfl⟩ := s2.form
          clear s1 s2
          go_enter Tryz.func63, Tryz.ntmps63
          go_wp2_with fail
          refine (HSD.out _ (Bel.alloc0 _ _)).mono ?_; rintro e w1 ⟨rfl, rfl⟩
          go_wp2_with fail
          have B0 := (Bel.alloc0 w (.cells #[v] 33)).drew
          go_region_held3 (fun w' => w'.cell? ⟨w.heap.size, 0, none⟩ = some v ∧ w'.cell? ⟨b, off + k * 3, none⟩ = some (.bool false) ∧ w'.cell? ⟨b, off + k * 3 + 1, none⟩ = some (.slice a1 xl.length e1) ∧ w'.cell? ⟨b, off + k * 3 + 2, none⟩ = some (.slice a2 xr.length e2))
            (first | exact ⟨n1, n2, n3, n4⟩ | exact HF.out _ ((Bel.rfl' _).drew.step hb1) | fail)
            (first | (go_at_call 113; refine (HUU.out _ B0).mono ?_; rintro e w2 ⟨a3, n5, e3, rfl, ho3, hb1⟩) | fail)
          all_goals
            have B1 := B0.step hb1
            have m5 := (HF.out _ ((Bel.rfl' _).drew.step hb1)).1
            have HAA := Lib.hid (HA.out _ _ _ _ B1 ho3.sl)
            clear HA
            go_wp2_with fail
            refine HAA.out.mono ?_; rintro e w3 ⟨a4, n6, e4, rfl, ho4, hb2⟩
            go_wp2_with fail
            go_ret2
            exact ⟨_, _, _, rfl, SlC.nil _ _ _, B1.step hb2⟩
        | true =>
          have hcb8 := (okLits_iff.1 hbig).1
          rw [resR_yes hcond (by rw [Int.toNat_natCast]; exact hun) (by rw [Int.toNat_natCast]; exact hbig), Int.toNat_natCast]
          dsimp only
          have HA := Lib.hid (fun (w' : World) (y : Value) (lo hi : Nat) (hb : Bel w w') (hy : SlS lo hi w' y (unifyAns ar (c.getD k lt0).2.1 (c.getD k lt0).2.2)) => appliedClause_c l' h' lo hi _ y _ c w' hl12 h40 (by omega) hfr hy (hu.below hb) true _ (hok40.symm.trans hbig) rfl)
          rw [if_pos rfl] at HA
          have HM := Lib.hid (fun (w' : World) (y : Value) (lo hi : Nat) (hb : Bel w w') (hy : SlC lo hi w' y (applyC (unifyAns ar (c.getD k lt0).2.1 (c.getD k lt0).2.2) c)) => isMaximal_c lo hi y _ k w' (hT.bel hb) (okLits_short hbig) (okLits_low hbig) (by rw [hlen]; exact hkl) hy)
          clear hin hcond hu hv hokx o1 o2 hun HU c1 c2 c3 hsub hl12 h40 hfr hbig hc hok40
          generalize applyC (unifyAns ar (c.getD k lt0).2.1 (c.getD k lt0).2.2) c = cb at *
          generalize unifyAns ar (c.getD k lt0).2.1 (c.getD k lt0).2.2 = U at *
          generalize c.getD k lt0 = x at *
          obtain ⟨px, xl, xr⟩ := x
          simp only at *
          obtain ⟨a1, e1, rfl⟩ := s1.form
          obtain ⟨a2, e2, rfl⟩ := s2.form
          clear s1 s2
          generalize hR : dropAt cb k = R
          have HR := Lib.hid hR
          clear hR
          generalize hN : (if maxAt cb k = true then (0:Int) else 5) = N
          have HNN := Lib.hid hN
          clear hN
          generalize maxAt cb k = M at *
          go_enter Tryz.func63, Tryz.ntmps63
          go_wp2_with fail
          refine (HSD.out _ (Bel.alloc0 _ _)).mono ?_; rintro e w1 ⟨rfl, rfl⟩
          go_wp2_with fail
          have B0 := (Bel.alloc0 w (.cells #[v] 33)).drew
          go_region_held3 (fun w' => w'.cell? ⟨w.heap.size, 0, none⟩ = some v ∧ w'.cell? ⟨b, off + k * 3, none⟩ = some (.bool false) ∧ w'.cell? ⟨b, off + k * 3 + 1, none⟩ = some (.slice a1 xl.length e1) ∧ w'.cell? ⟨b, off + k * 3 + 2, none⟩ = some (.slice a2 xr.length e2))
            (first | exact ⟨n1, n2, n3, n4⟩ | exact HF.out _ ((Bel.rfl' _).drew.step hb1) | fail)
            (first | (go_at_call 113; refine (HUU.out _ B0).mono ?_; rintro e w2 ⟨a3, n5, e3, rfl, ho3, hb1⟩) | fail)
          all_goals
            have B1 := B0.step hb1
            have m5 := (HF.out _ ((Bel.rfl' _).drew.step hb1)).1
            have HAA := Lib.hid (HA.out _ _ _ _ B1 ho3.sl)
            clear HA
            go_wp2_with fail
            refine HAA.out.mono ?_; rintro e w3 ⟨a4, n6, e4, rfl, ho4, hb2⟩
            have hn6 := ho4.sl.len
            subst hn6
            have hsl4 := ho4.sl
            have B3 := B1.step hb2
            have hkc : k < cb.length := by rw [hlen]; exact hkl
            have hkcI : (k : Int) < cb.length := by omega
            obtain ⟨bq, oq, kq, eq4, hkq, hkm⟩ := hsl4.plain (by omega)
            simp only [Value.slice.injEq] at eq4
            obtain ⟨rfl, -, rfl⟩ := eq4
            clear m1 m2 m3 m4 n1 n2 n3 n4 m5 HF HUU hlen
            have HZ := hsl4.in'
            obtain ⟨q, hq⟩ : ∃ q, q = k + 1 := ⟨_, rfl⟩
            have hq4 : (q : Int) ≤ cb.length := by omega
            have hqn : q ≤ cb.length := by omega
            have hHd := Lib.hid (HZ.head k (Nat.le_of_lt hkc))
            have hTl := HZ.tail q hqn
            have hw1 : IntKind.i64.wrap ((k : Int) + 1) = (q : Int) := by rw [IntWalk.i64_in ((k : Int) + 1) (by omega)]; omega
            have hkq1 : (k : Int) ≤ e4 := by omega
            have hkq2 : (q : Int) ≤ e4 := by omega
            have hDR : Hid (cb.take k ++ cb.drop q = R) := by show _ = _; rw [hq]; exact HR.out
            have hsz : (cb.take k).length + (cb.drop q).length ≤ 1048576 := by simp; omega
            clear hq
            rcases hTl with ⟨hTe, hTs⟩ | ⟨hTe, hTs⟩
            · obtain rfl : e4 = q := hTe
              have HCO := Lib.hid (concat2C_c _ _ _ _ _ _ (cb.take k) (cb.drop e4) w3 hsz hHd.out hTs)
              clear hTs hHd
              go_wp2_with fail
              go_region_held3 (fun w' => Bel w3 w') (first | exact Bel.drew0 _ | exact Bel.alloc (Bel.drew0 _) _ | exact hb5.of_drew.of_alloc | exact hb5.of_alloc)
                (first | (go_at_call 115; refine (HCO.out _).mono ?_; rintro e w5 ⟨a5, n5, c5, rfl, hs5, hb5⟩) | fail)
              have HB5 := B3.step (hb5.of_drew.of_alloc)
              rw [hDR.out] at hs5
              have HMM := Lib.hid (HM.out _ _ _ _ HB5 (HZ.below (hb5.of_drew.of_alloc)))
              have HS5 := Lib.hid hs5
              clear HM hs5 hDR HCO
              go_wp2_with fail
              refine HMM.out.mono ?_; rintro e w7 ⟨rfl, hb7⟩
              cases M with
              | true =>
                have hN0 : N = 0 := HNN.out.symm.trans (if_pos rfl)
                subst hN0
                go_wp2_with fail
                go_ret2
                exact ⟨_, _, _, rfl, (HS5.out.below hb7).mono (Nat.le_refl _) hb7.size, HB5.step hb7⟩
              | false =>
                have hN0 : N = 5 := HNN.out.symm.trans (if_neg (by simp))
                subst hN0
                go_wp2_with fail
                go_ret2
                exact ⟨_, _, _, rfl, (HS5.out.below hb7).mono (Nat.le_refl _) hb7.size, HB5.step hb7⟩
            · have hne : ¬ e4 = q := by omega
              have HCO := Lib.hid (concat2C_c _ _ _ _ _ _ (cb.take k) (cb.drop q) w3 hsz hHd.out hTs)
              clear hTs hHd
              go_wp2_with fail
              go_region_held3 (fun w' => Bel w3 w') (first | exact Bel.drew0 _ | exact Bel.alloc (Bel.drew0 _) _ | exact hb5.of_drew.of_alloc | exact hb5.of_alloc)
                (first | (go_at_call 115; refine (HCO.out _).mono ?_; rintro e w5 ⟨a5, n5, c5, rfl, hs5, hb5⟩) | fail)
              have HB5 := B3.step (hb5.of_drew.of_alloc)
              rw [hDR.out] at hs5
              have HMM := Lib.hid (HM.out _ _ _ _ HB5 (HZ.below (hb5.of_drew.of_alloc)))
              have HS5 := Lib.hid hs5
              clear HM hs5 hDR HCO
              go_wp2_with fail
              refine HMM.out.mono ?_; rintro e w7 ⟨rfl, hb7⟩
              cases M with
              | true =>
                have hN0 : N = 0 := HNN.out.symm.trans (if_pos rfl)
                subst hN0
                go_wp2_with fail
                go_ret2
                exact ⟨_, _, _, rfl, (HS5.out.below hb7).mono (Nat.le_refl _) hb7.size, HB5.step hb7⟩
              | false =>
                have hN0 : N = 5 := HNN.out.symm.trans (if_neg (by simp))
                subst hN0
                go_wp2_with fail
                go_ret2
                exact ⟨_, _, _, rfl, (HS5.out.below hb7).mono (Nat.le_refl _) hb7.size, HB5.step hb7⟩
set_option maxRecDepth 100000 in
set_option maxHeartbeats 1000000 in
theorem iResolve_t {l h l' h' : Nat} {v u : Value} {ar : List Int} {c : List Lt} {w : World} (hT : Tab w) (ha : ar.length ≤ 1048576) (hv : SlI l h w v ar) (hc : sumC c ≤ 1048576) (hu : SlC l' h' w u c) {i : Int} (_ : -9223372036854775808 ≤ i) (_ : i ≤ 9223372036854775807) :
    Calls Tryz.prog 22 #[.agg #[v], u, .int .i64 i] w (RetCNB w (resAns ar c i) (resNo ar c i) (goodClause ar c)) := by
  unfold resAns resNo
  cases hs : goodClause ar c with
  | false =>
    rw [if_neg (by simp), if_neg (by simp)]
    have HS := Lib.hid hs; clear hs
    go_enter Tryz.func22, Tryz.ntmps22
    go_wp2_with fail
    refine (iGoodClause_v HS.out ha (hv.alloc _) hc (hu.alloc _)).mono ?_; rintro e w1 ⟨rfl, hb1⟩
    go_wp2_with fail
    go_ret3
    exact ⟨_, _, _, rfl, OwnC.nil _ _ _, hb1.of_alloc⟩
  | true =>
    rw [if_pos rfl, if_pos rfl]
    have hg := (goodClause_iff.1 hs).1
    have hq1 : okLits ar c = true := by unfold goodClause at hs; exact (Bool.and_eq_true_iff.1 hs).2
    have HA := Lib.hid (fun (w' : World) (hb' : Bel w w') => resolved_c _ _ _ _ v u ar c i w' (hT.bel hb') ha hg hq1 (hv.below hb') (hu.below hb'))
    have hrok := resR_ok ar c i
    have HCN := Lib.hid (fun (w' : World) (y : Value) (lo hi : Nat) (hy : SlC lo hi w' y (resR ar c i).1) => concluded_c lo hi y ar _ w' hg hrok hy)
    clear hrok
    have HS := Lib.hid hs; clear hs
    generalize resR ar c i = RR at *
    obtain ⟨r, n⟩ := RR
    dsimp only at *
    generalize concl r = R at *
    go_enter Tryz.func22, Tryz.ntmps22
    go_wp2_with fail
    refine (iGoodClause_v HS.out ha (hv.alloc _) hc (hu.alloc _)).mono ?_; rintro e w1 ⟨rfl, hb1⟩
    have hbox := boxc hb1 0 _ rfl
    go_wp2_with fail
    refine (HA.out _ hb1.of_alloc).mono ?_; rintro e w2 ⟨a2, n2, c2, rfl, ho2, hb2⟩
    have HCC := Lib.hid (HCN.out _ _ _ _ ho2)
    clear HCN
    go_wp2_with fail
    refine HCC.out.mono ?_; rintro e w3 ⟨a3, n3, c3, rfl, ho3, hb3⟩
    go_wp2_with fail
    go_ret3
    exact ⟨_, _, _, rfl, ho3.mono (hb1.of_alloc.step hb2).size (Nat.le_refl _), (hb1.of_alloc.step hb2).step hb3⟩
end Go.Proofs.YtikllmdmifecpaaGreatDoor
end
section
/- The laws' helpers over slices of literals: marks. -/
namespace Go.Proofs.YtikllmdmifecpaaGreatDoor
open Go.RowKit

def qlo (bs : Nat → Nat) (i : Nat) (xs : List Int) : Nat := if 0 < xs.length then bs i else 0
def qhi (bs : Nat → Nat) (i : Nat) (xs : List Int) : Nat := if 0 < xs.length then bs i + 1 else 0
theorem Ins.feed {lo hi b w us xss bs} (h : Ins lo hi b w us xss bs) (i : Nat) (u : Value) (hu : us[i]? = some u) : OwnI (qlo bs i (xss.getD i [])) (qhi bs i (xss.getD i [])) w u (xss.getD i []) := by
  have ho := h.own i u hu
  unfold qlo qhi
  split
  · exact ho
  · rename_i h0; rw [len0 h0] at ho ⊢; exact ho.empty
theorem Ins.fed {lo hi b w w' us xss bs} (h : Ins lo hi b w us xss bs) (hb : b < w.heap.size) (i : Nat) (hi' : i < xss.length) (u : Value) (hu : us[i]? = some u) (ys : List Int) (hl : ys.length = (xss.getD i []).length)
    (hch : Chg (qlo bs i (xss.getD i [])) (qhi bs i (xss.getD i [])) w w') (ho : OwnI (qlo bs i (xss.getD i [])) (qhi bs i (xss.getD i [])) w' u ys) :
    Ins lo hi b w' us (xss.set i ys) bs ∧ Chg lo hi w w' ∧ w'.heap[b]? = w.heap[b]? := by
  by_cases hp : 0 < (xss.getD i []).length
  · obtain ⟨a1, a2, a3⟩ := h.rng i hi' hp
    unfold qlo qhi at hch ho
    rw [if_pos hp, if_pos hp] at hch ho
    exact ⟨h.stored i hi' u hu ys hl (fun _ => hch) (fun h0 => absurd (by omega) h0) ho, hch.mono a1 (by omega), hch.block b hb (by omega)⟩
  · unfold qlo qhi at hch ho
    rw [if_neg hp, if_neg hp] at hch ho
    have hy : ys = [] := List.length_eq_zero_iff.1 (by omega)
    subst hy
    exact ⟨h.stored i hi' u hu [] hl (fun h0 => absurd h0 (by simp)) (fun _ => hch) ho.empty, ⟨hch.os, hch.tape, hch.output, hch.size, fun x hx _ => hch.block x hx (by omega)⟩, hch.block b hb (by omega)⟩
theorem CRow.left {lo hi b off : Nat} {w w' : World} {zs : List LV} {c : List Lt} {bs : Nat → Nat} (h : CRow lo hi b off w zs c bs) (hb : b < w.heap.size) (j : Nat) (z : LV) (hz : zs[j]? = some z) (ys : List Int) (hl : ys.length = (c.getD j lt0).2.1.length)
    (hch : Chg (qlo bs (2*j) (c.getD j lt0).2.1) (qhi bs (2*j) (c.getD j lt0).2.1) w w') (ho : OwnI (qlo bs (2*j) (c.getD j lt0).2.1) (qhi bs (2*j) (c.getD j lt0).2.1) w' z.2.1 ys) :
    CRow lo hi b off w' zs (c.set j ((c.getD j lt0).1, ys, (c.getD j lt0).2.2)) bs ∧ Chg lo hi w w' := by
  have hj : j < zs.length := (List.getElem?_eq_some_iff.1 hz).1
  have hjc : j < c.length := by rw [← h.len]; exact hj
  have hfl := flatC_len c
  obtain ⟨g1, g2⟩ := flatC_get c j
  rw [← g1] at hch ho hl
  obtain ⟨k1, k2, k3⟩ := h.ins.fed hb (2*j) (by omega) z.2.1 (rowsC_get zs j z hz).1 ys hl hch ho
  refine ⟨h.terms k3 (by simp) (fun i => ?_) ?_, k2⟩
  · by_cases e : j = i
    · subst e; simp [List.getD, hjc]
    · simp [List.getD, e]
  · have : flatC (c.set j ((c.getD j lt0).1, ys, (c.getD j lt0).2.2)) = (flatC c).set (2*j) ys := by
      rw [flatC_set c j _ hjc]
      show ((flatC c).set (2 * j) ys).set (2 * j + 1) (c.getD j lt0).2.2 = _
      rw [← g2]
      apply List.ext_getElem?
      intro i
      simp only [List.getElem?_set]
      by_cases e : 2 * j + 1 = i
      · subst e; simp [List.getD, show 2 * j + 1 < (flatC c).length by omega]
      · rw [if_neg e]
    rw [this]; exact k1
theorem CRow.right {lo hi b off : Nat} {w w' : World} {zs : List LV} {c : List Lt} {bs : Nat → Nat} (h : CRow lo hi b off w zs c bs) (hb : b < w.heap.size) (j : Nat) (z : LV) (hz : zs[j]? = some z) (ys : List Int) (hl : ys.length = (c.getD j lt0).2.2.length)
    (hch : Chg (qlo bs (2*j+1) (c.getD j lt0).2.2) (qhi bs (2*j+1) (c.getD j lt0).2.2) w w') (ho : OwnI (qlo bs (2*j+1) (c.getD j lt0).2.2) (qhi bs (2*j+1) (c.getD j lt0).2.2) w' z.2.2 ys) :
    CRow lo hi b off w' zs (c.set j ((c.getD j lt0).1, (c.getD j lt0).2.1, ys)) bs ∧ Chg lo hi w w' := by
  have hj : j < zs.length := (List.getElem?_eq_some_iff.1 hz).1
  have hjc : j < c.length := by rw [← h.len]; exact hj
  have hfl := flatC_len c
  obtain ⟨g1, g2⟩ := flatC_get c j
  rw [← g2] at hch ho hl
  obtain ⟨k1, k2, k3⟩ := h.ins.fed hb (2*j+1) (by omega) z.2.2 (rowsC_get zs j z hz).2 ys hl hch ho
  refine ⟨h.terms k3 (by simp) (fun i => ?_) ?_, k2⟩
  · by_cases e : j = i
    · subst e; simp [List.getD, hjc]
    · simp [List.getD, e]
  · have : flatC (c.set j ((c.getD j lt0).1, (c.getD j lt0).2.1, ys)) = (flatC c).set (2*j+1) ys := by
      rw [flatC_set c j _ hjc]
      show ((flatC c).set (2 * j) (c.getD j lt0).2.1).set (2 * j + 1) ys = _
      rw [← g1]
      apply List.ext_getElem?
      intro i
      simp only [List.getElem?_set, List.length_set]
      by_cases e : 2 * j + 1 = i
      · subst e; simp
      · rw [if_neg e, if_neg e]
        by_cases e2 : 2 * j = i
        · subst e2; simp [List.getD, show 2 * j < (flatC c).length by omega]
        · rw [if_neg e2]
    rw [this]; exact k1

theorem markIntS_z (lo hi : Nat) (v : Value) (xs : List Int) (z : Int) (k : Nat) (w : World) (hz : z = k) (hx : xs.length ≤ 1099511627776) (hk : k ≤ 1099511627776) (hv : OwnI lo hi w v xs) :
    Calls Tryz.prog 33 #[v, .int .i64 z] w (RetM lo hi w v xs k) := by subst hz; exact markIntS_c lo hi v xs k w hx hk hv
theorem heldIntS_z (l h : Nat) (v : Value) (n : Nat) (z : Int) (k : Nat) (w : World) (hz : z = k) (hx : n ≤ 1099511627776) (hk : k ≤ 1099511627776) (hv : SlI l h w v (marks k n)) :
    Calls Tryz.prog 34 #[v, .int .i64 z] w (RetV w (.int .i64 ((k + n : Nat) : Int))) := by subst hz; exact heldIntS_c l h v n k w hx hk hv
theorem set_twice {α : Type} (l : List α) (j : Nat) (a b : α) : (l.set j a).set j b = l.set j b := by simp

def RetMC (lo hi : Nat) (w : World) (v : Value) (c : List Lt) (k : Nat) (e : Ending) (w' : World) : Prop := e = .returned (.int .i64 ((k + sumC c : Nat) : Int)) ∧ Chg lo hi w w' ∧ OwnC lo hi w' v (marksC k c)
theorem OwnC.crow {lo hi : Nat} {w : World} {ad : Option Addr} {n k : Nat} {c : List Lt} (h : OwnC lo hi w (.slice ad n k) c) (hp : 0 < c.length) : ∃ b off zs bs, ad = some ⟨b, off, none⟩ ∧ n = c.length ∧ c.length ≤ k ∧ k ≤ maxLen ∧ CRow lo hi b off w zs c bs := by
  obtain ⟨ad', cap, e, hc, hm, hr⟩ := h
  simp only [Value.slice.injEq] at e
  obtain ⟨rfl, rfl, rfl⟩ := e
  obtain ⟨b, off, zs, bs, e, a1, a2, hl, a3, hf, hi⟩ := hr hp
  exact ⟨b, off, zs, bs, e, rfl, hc, hm.1, a1, a2, hl, a3, hf, hi⟩
theorem CRow.own {lo hi b off k : Nat} {w : World} {zs : List LV} {c : List Lt} {bs : Nat → Nat} (h : CRow lo hi b off w zs c bs) (hc : c.length ≤ k) (hm : k ≤ maxLen) : OwnC lo hi w (.slice (some ⟨b, off, none⟩) c.length k) c :=
  ⟨_, k, rfl, hc, ⟨hm, fun h => by simp at h⟩, fun _ => ⟨b, off, zs, bs, rfl, h.hlo, h.hhi, h.len, h.cell, h.free, h.ins⟩⟩

set_option maxRecDepth 100000 in
set_option maxHeartbeats 400000 in
theorem markLitS_c (lo hi : Nat) (v : Value) (c : List Lt) (k : Nat) (w : World) (hx : sumC c ≤ 1048576) (hk : k ≤ 1073741824) (hv : OwnC lo hi w v c) :
    Calls Tryz.prog 19 #[v, .int .i64 k] w (RetMC lo hi w v c k) := by
  obtain ⟨ad, cap, rfl⟩ := hv.sl.form
  go_enter Tryz.func19, Tryz.ntmps19
  go_wp2_with fail
  go_loopw [1, 5] (fun m i wr => ∃ j : Nat, j ≤ c.length ∧ i = .int .i64 j ∧ m = .int .i64 ((k + sumC (c.take j) : Nat) : Int) ∧ OwnC lo hi wr (.slice ad c.length cap) (markedC c k j) ∧ Chg lo hi w wr) (fun _ i _ => c.length - (intOf i).toNat)
  case atStart => exact ⟨0, Nat.zero_le _, rfl, by simp [sumC], by rw [markedC_zero]; exact hv, Chg.refl _ _ _⟩
  case round =>
    obtain ⟨j, hj, rfl, rfl, ho, hb⟩ := hrel
    by_cases hlt : j < c.length
    · have hl := markedC_len c k j hj
      have hst := sumC_take c j hlt
      have hsl := sumC_get c j hlt
      have hcl := sumC_len c
      obtain ⟨b, off, zs, bs, rfl, -, hcap, hml, hR⟩ := ho.crow (by omega)
      have hzl := hR.len
      have hz : zs[j]? = some zs[j] := List.getElem?_eq_getElem (by omega)
      obtain ⟨-, c1, c2, c3⟩ := hR.cell j _ hz
      have f1 := hR.free (off + j * 3)
      have hB := World.block_lt_of_cell? wr ⟨b, _, none⟩ c1
      have hget := markedC_get c k j hlt
      have hsucc := markedC_succ c k j hlt
      have hin1 : (j : Int) < c.length := by omega
      have hwd : wC (c.getD j lt0) = 1 + (c.getD j lt0).2.1.length + (c.getD j lt0).2.2.length := rfl
      generalize zs[j] = z at *
      obtain ⟨p0, u1, u2⟩ := z
      simp only at c1 c2 c3
      have hkj : k + sumC (c.take j) ≤ 1073741824 + 1048576 := by have := sumC_le c j; omega
      generalize hz0 : k + sumC (c.take j) = z0 at *
      have hrem : Int.tmod (z0 : Int) 3 = ((z0 % 3 : Nat) : Int) := by rw [Int.tmod_eq_emod_of_nonneg (by omega)]; omega
      -- the sign
      have hdec : (((z0 : Nat) : Int) % 3 == 0) = decide (z0 % 3 = 0) := by rw [Bool.eq_iff_iff]; simp; omega
      have hR1 := hR.sign j _ hz (((z0 : Nat) : Int) % 3 == 0)
      rw [hget] at hR1
      generalize hx : c.getD j lt0 = x at *
      obtain ⟨p, xl, xr⟩ := x
      simp only at *
      have hW1 := Chg.set (lo := lo) (hi := hi) wr (p := ⟨b, off + j * 3, none⟩) hR.hlo hR.hhi (.bool (((z0 : Nat) : Int) % 3 == 0))
      have hs1 : (wr.setCell ⟨b, off + j * 3, none⟩ (.bool (((z0 : Nat) : Int) % 3 == 0))).heap.size = wr.heap.size := by simp
      have e1 := World.cell?_setCell_other (h := show (⟨b, off + j * 3, none⟩ : Addr) ≠ ⟨b, off + j * 3 + 1, none⟩ by intro h; simp at h) (w := wr) (v := .bool (((z0 : Nat) : Int) % 3 == 0))
      rw [c2] at e1
      generalize hz1 : zs.set j (((z0 : Nat) : Int) % 3 == 0, u1, u2) = zs1 at hR1
      have hg1 : zs1[j]? = some (((z0 : Nat) : Int) % 3 == 0, u1, u2) := by rw [← hz1, List.getElem?_set]; simp; omega
      have hd1 : ((markedC c k j).set j (((z0 : Nat) : Int) % 3 == 0, xl, xr)).getD j lt0 = (((z0 : Nat) : Int) % 3 == 0, xl, xr) := by simp [List.getD, hl, hlt]
      have hfeed := hR1.ins.feed (2*j) u1 (rowsC_get zs1 j _ hg1).1
      rw [(flatC_get _ j).1, hd1] at hfeed
      have HC := Lib.hid (markIntS_z _ _ u1 xl ((z0 : Int) + 1) (z0 + 1) _ (by omega) (by omega) (by omega) hfeed)
      have HK := Lib.hid (And.intro hR1 (And.intro hg1 (And.intro hd1 (And.intro hsucc (And.intro hst (And.intro hl (And.intro hwd (And.intro hW1 hs1))))))))
      have HB2 := Lib.hid hb
      have HDEC := Lib.hid hdec
      clear hdec
      clear ho hv hR hR1 hz hget hsucc hst hl hwd hb hz1 hg1 hd1 hfeed hW1 hs1
      go_wp2_with fail
      refine HC.out.mono ?_; rintro e w1 ⟨rfl, hch, hom⟩
      obtain ⟨hR1, hg1, hd1, hsucc, hst, hl, hwd, hW1, hs1⟩ := HK.out
      have hB1 : b < (wr.setCell ⟨b, off + j * 3, none⟩ (.bool (((z0 : Nat) : Int) % 3 == 0))).heap.size := by rw [hs1]; exact hB
      have hst1 := hR1.left (w' := w1) hB1 j _ hg1 (marks (z0 + 1) xl.length) (by rw [hd1, marks_len]) (by rw [hd1]; exact hch) (by rw [hd1]; exact hom)
      rw [hd1, set_twice] at hst1
      obtain ⟨hR2, hW2⟩ := hst1
      obtain ⟨-, d1, d2, d3⟩ := hR2.cell j _ hg1
      simp only at d1 d2 d3
      have hB2 : b < w1.heap.size := Nat.lt_of_lt_of_le hB1 hW2.size
      have hd2 : ((markedC c k j).set j (((z0 : Nat) : Int) % 3 == 0, marks (z0 + 1) xl.length, xr)).getD j lt0 = (((z0 : Nat) : Int) % 3 == 0, marks (z0 + 1) xl.length, xr) := by simp [List.getD, hl, hlt]
      have hfeed := hR2.ins.feed (2*j+1) u2 (rowsC_get zs1 j _ hg1).2
      rw [(flatC_get _ j).2, hd2] at hfeed
      have HD := Lib.hid (markIntS_z _ _ u2 xr (((z0 + 1 + xl.length : Nat) : Int)) (z0 + 1 + xl.length) _ rfl (by omega) (by omega) hfeed)
      have HK2 := Lib.hid (And.intro hR2 (And.intro hg1 (And.intro hd2 (And.intro hsucc (And.intro hst (And.intro hl (And.intro hwd ((hW1.trans hW2)))))))))
      clear HK HC hR1 hR2 hg1 hd1 hd2 hsucc hst hl hwd hW1 hW2 hfeed hom hch hs1 hB1
      go_wp2_with fail
      refine HD.out.mono ?_; rintro e w2 ⟨rfl, hch, hom⟩
      obtain ⟨hR2, hg1, hd2, hsucc, hst, hl, hwd, hW⟩ := HK2.out
      have hst2 := hR2.right (w' := w2) hB2 j _ hg1 (marks (z0 + 1 + xl.length) xr.length) (by rw [hd2, marks_len]) (by rw [hd2]; exact hch) (by rw [hd2]; exact hom)
      rw [hd2, set_twice] at hst2
      obtain ⟨hR3, hW3⟩ := hst2
      rw [HDEC.out, show (decide (z0 % 3 = 0), marks (z0 + 1) xl.length, marks (z0 + 1 + xl.length) xr.length) = mark1 z0 (p, xl, xr) from rfl, hsucc] at hR3
      have hl3 := markedC_len c k (j+1) (by omega)
      have hown := hR3.own (k := cap) (by rw [hl3]; omega) hml
      rw [hl3] at hown
      have HO := Lib.hid (And.intro hown (And.intro (HB2.out.trans (hW.trans hW3)) (And.intro hst hwd)))
      clear hR2 hR3 hg1 hd2 hsucc hst hl hwd hW hW3 hch hom hown HK2 HD HB2
      go_wp2_with fail
      go_roundw
      case rel =>
        obtain ⟨h1, h2, h3, h4⟩ := HO.out
        exact ⟨j+1, by omega, by go_num, by rw [h3, h4, ← Nat.add_assoc, hz0]; exact congrArg (Value.int .i64) (by omega), h1, h2⟩
      case measure => simp [intOf]; omega
    · rw [markedC_all c k j hlt] at ho
      rw [sumC_all c j hlt]
      go_wp2_with fail
      go_ret
      exact ⟨rfl, hb, ho⟩

set_option maxRecDepth 100000 in
set_option maxHeartbeats 400000 in
theorem heldLitS_c (l h : Nat) (v : Value) (c : List Lt) (k : Nat) (w : World) (hx : sumC c ≤ 1048576) (hk : k ≤ 1073741824) (hv : SlC l h w v (marksC k c)) :
    Calls Tryz.prog 20 #[v, .int .i64 k] w (RetV w (.int .i64 ((k + sumC c : Nat) : Int))) := by
  obtain ⟨ad, cap, rfl⟩ := hv.form
  have hml := marksC_len k c
  rw [hml]
  go_enter Tryz.func20, Tryz.ntmps20
  go_wp2_with fail
  go_loopw [1, 5] (fun m i wr => ∃ j : Nat, j ≤ c.length ∧ i = .int .i64 j ∧ m = .int .i64 ((k + sumC (c.take j) : Nat) : Int) ∧ Bel w wr) (fun _ i _ => c.length - (intOf i).toNat)
  case atStart => exact ⟨0, Nat.zero_le _, rfl, by simp [sumC], Bel.rfl' _⟩
  case round =>
    obtain ⟨j, hj, rfl, rfl, hb⟩ := hrel
    by_cases hlt : j < c.length
    · have hst := sumC_take c j hlt
      have hsl := sumC_get c j hlt
      have hcl := sumC_len c
      obtain ⟨b, off, u1, u2, rfl, -, c1, c2, c3, s1, s2⟩ := hv.at hb j (by rw [hml]; exact hlt)
      rw [marksC_get k c j hlt] at c1 s1 s2
      have hin1 : (j : Int) < c.length := by omega
      have hwd : wC (c.getD j lt0) = 1 + (c.getD j lt0).2.1.length + (c.getD j lt0).2.2.length := rfl
      have hkj : k + sumC (c.take j) ≤ 1073741824 + 1048576 := by have := sumC_le c j; omega
      generalize hz0 : k + sumC (c.take j) = z0 at *
      unfold mark1 at c1 s1 s2
      generalize c.getD j lt0 = x at *
      obtain ⟨p, xl, xr⟩ := x
      simp only at c1 c2 c3 s1 s2 hwd
      have hdec : (((z0 : Nat) : Int) % 3 == 0) = decide (z0 % 3 = 0) := by rw [Bool.eq_iff_iff]; simp; omega
      have hrem : Int.tmod (z0 : Int) 3 = ((z0 % 3 : Nat) : Int) := by rw [Int.tmod_eq_emod_of_nonneg (by omega)]; omega
      rw [← hdec] at c1
      have hne : ((((z0 : Nat) : Int) % 3 == 0) != (((z0 : Nat) : Int) % 3 == 0)) = false := by simp
      have HC := Lib.hid (fun (w' : World) (hq : Bel wr w') => heldIntS_z _ _ u1 xl.length ((z0 : Int) + 1) (z0 + 1) w' (by omega) (by omega) (by omega) (s1.below hq))
      have HD := Lib.hid (fun (w' : World) (hq : Bel wr w') => heldIntS_z _ _ u2 xr.length ((z0 + 1 + xl.length : Nat) : Int) (z0 + 1 + xl.length) w' rfl (by omega) (by omega) (s2.below hq))
      have HS := Lib.hid (And.intro hst hwd)
      have B1 := World.block_lt_of_cell? wr ⟨b, _, none⟩ c1
      have hn1 : decide (((z0 + 1 + xl.length : Nat) : Int) < 0) = false := by simp; omega
      have hn2 : decide (((z0 + 1 + xl.length + xr.length : Nat) : Int) < 0) = false := by simp; omega
      clear hv s1 s2 hst hwd hdec
      go_wp2_with fail
      refine (HC.out _ (Bel.rfl' _)).mono ?_; rintro e w1 ⟨rfl, hb1⟩
      have d3 := hb1.at (World.block_lt_of_cell? wr ⟨b, _, none⟩ c3) c3
      go_wp2_with fail
      refine (HD.out _ hb1).mono ?_; rintro e w2 ⟨rfl, hb2⟩
      go_wp2_with fail
      go_roundw
      case rel =>
        obtain ⟨h3, h4⟩ := HS.out
        exact ⟨j+1, by omega, by go_num, by rw [h3, h4, ← Nat.add_assoc, hz0]; exact congrArg (Value.int .i64) (by omega), (hb.step hb1).step hb2⟩
      case measure => simp [intOf]; omega
    · rw [sumC_all c j hlt]
      go_wp2_with fail
      go_ret
      exact ⟨rfl, hb⟩
end Go.Proofs.YtikllmdmifecpaaGreatDoor
end
section
/- The arguments of a law, opened: slices of ints, a struct of one, strings, ints. -/
namespace Go.Proofs.YtikllmdmifecpaaGreatDoor
open Go.ChangeShapes Go.WideShapes Go.ChangeAt Go.RowKit
open Go.ChangeMaps (open_string shut_string)
set_option linter.unusedVariables false
set_option maxRecDepth 100000

theorem Row.own : ownKnob Tryz.prog.godebug = none := by kernel_rfl
theorem Row.laidOut : laidOutB Tryz.prog = true := by kernel_rfl

/-- A slice of ints that came in. -/
theorem op_slI {H : Type} {enc : TypeId × Value → H} {W : World} {fuel : Nat} {v : Value} {x : DataW H × List MemPlace}
    (h : DataW.trod enc Tryz.prog W 0 (fun _ => true) true fuel 22 [v] = some x) :
    ∃ xs : List Int, xs.length ≤ 9223372036854775807 ∧ SlI 0 W.heap.size W v xs ∧ ∀ n ∈ xs, (Lit.int .i64 n).wf = true := by
  rcases open_ints Tryz.underlying22 Tryz.underlying3 (by kernel_rfl) h with ⟨hcs, _⟩ | ⟨a, l, c, zs, hcs, _, hl, hm, hz, _, hcell, hwz⟩
  · simp at hcs
    subst hcs
    exact ⟨[], by simp, SlI.nil _ _ _, by simp⟩
  · simp at hcs
    subst hcs
    have hz' : zs.length = c := by simpa using hz
    have hlen : (zs.take l).length = l := by simp; omega
    refine ⟨zs.take l, by rw [hlen]; have : maxLen = 9223372036854775807 := rfl; omega, ⟨some a, c, by rw [hlen], by rw [hlen]; exact hl, ⟨hm, fun h => by simp at h⟩, fun hp => ?_⟩, fun n hn => hwz n (List.mem_of_mem_take hn)⟩
    rw [hlen] at hp
    obtain ⟨b, off, spot⟩ := a
    have h0 := hcell 0 (by omega)
    have hspot : spot = none := by simpa [Addr.add] using World.cell?_spot h0
    subst hspot
    refine ⟨b, off, rfl, Nat.zero_le _, World.block_lt_of_cell? W ⟨b, off + 0, none⟩ h0, fun j hj => ?_⟩
    rw [hlen] at hj
    rw [← add_plain, hcell j (by omega)]
    simp [List.getD, hj]

theorem op_int {H : Type} {enc : TypeId × Value → H} {W : World} {v : Value} {d : DataW H} {p : List MemPlace} {base : Nat} (hv : Value.okWide Tryz.prog W .any base 3 v)
    (h : DataW.Trod enc Tryz.prog W 0 (fun _ => true) true 3 v d p) : ∃ n : Int, v = .int .i64 n ∧ -9223372036854775808 ≤ n ∧ n ≤ 9223372036854775807 := by
  obtain ⟨n, rfl, rfl, rfl, wf⟩ := open_int Tryz.underlying3 hv h
  have h1 : IntKind.i64.min = -9223372036854775808 := rfl
  have h2 : IntKind.i64.max = 9223372036854775807 := rfl
  simp only [Lit.wf, Bool.and_eq_true, decide_eq_true_eq] at wf
  exact ⟨n, rfl, by omega, by omega⟩

theorem op_ints {H : Type} {enc : TypeId × Value → H} {W : World} {v : Value} {d : DataW H} {p : List MemPlace} {base : Nat} (hv : Value.okWide Tryz.prog W .any base 22 v)
    (h : DataW.Trod enc Tryz.prog W 0 (fun _ => true) true 22 v d p) : ∃ xs : List Int, xs.length ≤ 9223372036854775807 ∧ SlI 0 W.heap.size W v xs ∧ ∀ n ∈ xs, (Lit.int .i64 n).wf = true := by
  obtain ⟨a, n, c, rfl⟩ := okWide_slice Tryz.underlying22 hv
  obtain ⟨fuel, hf⟩ := h
  exact op_slI (x := (d, p)) (by simpa [Value.cells] using hf)

theorem op_sign {H : Type} {enc : TypeId × Value → H} {W : World} {v : Value} {d : DataW H} {p : List MemPlace} {base : Nat} (hv : Value.okWide Tryz.prog W .any base 24 v)
    (h : DataW.Trod enc Tryz.prog W 0 (fun _ => true) true 24 v d p) : ∃ u, v = .agg #[u] ∧ ∃ xs : List Int, xs.length ≤ 9223372036854775807 ∧ SlI 0 W.heap.size W u xs ∧ ∀ n ∈ xs, (Lit.int .i64 n).wf = true := by
  obtain ⟨cs, rfl, hsz⟩ := okWide_struct Tryz.underlying24 hv
  have hC : Tryz.prog.cellsOf 24 = 1 := by kernel_rfl
  obtain ⟨u, rfl⟩ : ∃ u, cs = #[u] := by
    rw [hC] at hsz
    match cs, hsz with
    | ⟨[u]⟩, _ => exact ⟨u, rfl⟩
  obtain ⟨fuel, hf⟩ := h
  obtain ⟨y0, n, hx, _, h0⟩ := trod_struct1 Tryz.underlying24 hf
  exact ⟨u, rfl, op_slI (x := y0) (by simpa [Value.cells, show Tryz.prog.cellsOf 22 = 1 from by kernel_rfl] using h0)⟩

theorem op_string {H : Type} {enc : TypeId × Value → H} {W : World} {v : Value} {d : DataW H} {p : List MemPlace} {base : Nat} (hv : Value.okWide Tryz.prog W .any base 9 v)
    (h : DataW.Trod enc Tryz.prog W 0 (fun _ => true) true 9 v d p) : ∃ s : ByteArray, v = .string s ∧ s.size ≤ 9223372036854775807 := by
  obtain ⟨s, rfl, rfl, rfl, hs⟩ := open_string Tryz.underlying9 hv h
  exact ⟨s, rfl, hs⟩

theorem op_lt {H : Type} {enc : TypeId × Value → H} {W : World} {t : TypeId} {v : Value} {d : DataW H} {p : List MemPlace}
    (h : DataW.Trod enc Tryz.prog W 0 (fun _ => true) true t v d p) : ∀ x ∈ p, x.block < W.heap.size := by
  obtain ⟨m, hm⟩ := h; exact DataW.trod_lt m _ _ _ hm

end Go.Proofs.YtikllmdmifecpaaGreatDoor
end
section
/- A literal that came in, and a slice of literals, opened. -/
namespace Go.Proofs.YtikllmdmifecpaaGreatDoor
open Go.ChangeShapes Go.WideShapes Go.ChangeAt Go.RowKit
set_option linter.unusedVariables false
set_option maxRecDepth 100000

theorem op_litcells {H : Type} {enc : TypeId × Value → H} {W : World} {fuel : Nat} {cs : List Value} {x : DataW H × List MemPlace}
    (h : DataW.trod enc Tryz.prog W 0 (fun _ => true) true fuel 81 cs = some x) :
    ∃ (p : Bool) (u1 u2 : Value) (l r : List Int), cs = [.bool p, u1, u2] ∧ SlI 0 W.heap.size W u1 l ∧ l.length ≤ 9223372036854775807 ∧ SlI 0 W.heap.size W u2 r ∧ r.length ≤ 9223372036854775807 := by
  have hC : Tryz.prog.cellsOf 81 = 3 := by kernel_rfl
  obtain ⟨y0, y1, y2, n, _, hl, h0, h1, h2⟩ := Go.Deep.trod_struct3 Tryz.underlying81 h
  rw [hC] at hl
  match cs, hl with
  | [v0, v1, v2], _ =>
    have c0 : Tryz.prog.cellsOf 4 = 1 := by kernel_rfl
    have c1 : Tryz.prog.cellsOf 22 = 1 := by kernel_rfl
    simp only [c0, c1] at h0 h1 h2
    obtain ⟨p, e0, _⟩ := DataW.trod_bool Tryz.underlying4 (by simpa using h0)
    obtain ⟨l, hl, s1, _⟩ := op_slI (v := v1) (by simpa using h1)
    obtain ⟨r, hr, s2, _⟩ := op_slI (v := v2) (by simpa using h2)
    refine ⟨p, v1, v2, l, r, ?_, s1, hl, s2, hr⟩
    simp at e0
    rw [e0]

theorem op_lit {H : Type} {enc : TypeId × Value → H} {W : World} {v : Value} {d : DataW H} {p : List MemPlace} {base : Nat} (hv : Value.okWide Tryz.prog W .any base 81 v)
    (h : DataW.Trod enc Tryz.prog W 0 (fun _ => true) true 81 v d p) : ∃ (p : Bool) (u1 u2 : Value) (l r : List Int), v = .agg #[.bool p, u1, u2] ∧ SlI 0 W.heap.size W u1 l ∧ l.length ≤ 9223372036854775807 ∧ SlI 0 W.heap.size W u2 r ∧ r.length ≤ 9223372036854775807 := by
  obtain ⟨cs, rfl, hsz⟩ := okWide_struct Tryz.underlying81 hv
  obtain ⟨fuel, hf⟩ := h
  obtain ⟨p, u1, u2, l, r, e, s1, hl, s2, hr⟩ := op_litcells (x := (d, p)) (cs := cs.toList) (by simpa [Value.cells] using hf)
  exact ⟨p, u1, u2, l, r, by rw [← e], s1, hl, s2, hr⟩

theorem op_lits {H : Type} {enc : TypeId × Value → H} {W : World} {v : Value} {d : DataW H} {p : List MemPlace} {base : Nat} (hv : Value.okWide Tryz.prog W .any base 25 v)
    (h : DataW.Trod enc Tryz.prog W 0 (fun _ => true) true 25 v d p) : ∃ c : List Lt, SlC 0 W.heap.size W v c := by
  obtain ⟨a, n, k, rfl⟩ := okWide_slice Tryz.underlying25 hv
  have hC : Tryz.prog.cellsOf 81 = 3 := by kernel_rfl
  obtain ⟨fuel, hf⟩ := h
  rcases Go.Deep.open_slice Tryz.underlying25 (by simpa [Value.cells] using hf) with ⟨hcs, _⟩ | ⟨ad, len, cap, m, n', D, Pl, hcs, _, hl, hm, hmm, _, hx⟩
  · simp at hcs
    obtain ⟨rfl, rfl, rfl⟩ := hcs
    exact ⟨[], SlC.nil _ _ _⟩
  · simp at hcs
    obtain ⟨rfl, rfl, rfl⟩ := hcs
    simp at hmm
    subst hmm
    have each : ∀ i, i < n → ∃ q : Bool × Value × Value × List Int × List Int, W.cell? (ad.add (i * 3)) = some (.bool q.1) ∧ W.cell? (ad.add (i * 3 + 1)) = some q.2.1 ∧ W.cell? (ad.add (i * 3 + 2)) = some q.2.2.1 ∧ SlI 0 W.heap.size W q.2.1 q.2.2.2.1 ∧ SlI 0 W.heap.size W q.2.2.1 q.2.2.2.2 := fun i hi => by
      obtain ⟨cs', h1, h2⟩ := hx i (by omega)
      rw [hC] at h1
      obtain ⟨_, hlen, hcell⟩ := World.cells?_some h1
      obtain ⟨p, u1, u2, l, r, rfl, s1, _, s2, _⟩ := op_litcells h2
      have e0 := hcell 0 (by omega)
      have e1 := hcell 1 (by omega)
      have e2 := hcell 2 (by omega)
      rw [Go.Deep.add_add] at e0 e1 e2
      exact ⟨(p, u1, u2, l, r), by simpa using e0, by simpa using e1, by simpa using e2, s1, s2⟩
    obtain ⟨Z, hZ⟩ := Go.Deep.choose_lt each
    have hlen : ((List.range n).map fun i => ((Z i).1, (Z i).2.2.2.1, (Z i).2.2.2.2)).length = n := by simp
    refine ⟨(List.range n).map fun i => ((Z i).1, (Z i).2.2.2.1, (Z i).2.2.2.2), some ad, _, by rw [hlen], by rw [hlen]; exact hl, ⟨hm, fun h => by simp at h⟩, fun hp => ?_⟩
    rw [hlen] at hp
    obtain ⟨b, off, spot⟩ := ad
    have h0 := (hZ 0 (by omega)).1
    have hspot : spot = none := by simpa [Addr.add] using World.cell?_spot h0
    subst hspot
    refine ⟨b, off, rfl, Nat.zero_le _, World.block_lt_of_cell? W ⟨b, off + 0 * 3, none⟩ (by rw [← add_plain]; exact h0), fun j hj => ?_⟩
    rw [hlen] at hj
    obtain ⟨z0, z1, z2, z3, z4⟩ := hZ j hj
    refine ⟨(Z j).2.1, (Z j).2.2.1, ?_, ?_, ?_, ?_, ?_⟩
    · rw [← add_plain]; simpa [List.getD, hj] using z0
    · rw [Nat.add_assoc, ← add_plain]; exact z1
    · rw [Nat.add_assoc, ← add_plain]; exact z2
    · simpa [List.getD, hj] using z3
    · simpa [List.getD, hj] using z4
end Go.Proofs.YtikllmdmifecpaaGreatDoor
end
