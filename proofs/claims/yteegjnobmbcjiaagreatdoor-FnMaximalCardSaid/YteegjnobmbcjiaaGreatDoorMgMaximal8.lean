/- Texts merged, part 8. -/
import Derived.Laws.BytesString
import Derived.Maps.AppendAt
import Derived.Deep.AppendLies
import Derived.Laws.AppendOwnNone
import Derived.Deep.RegionHeldLaw
import Derived.Test.YteegjnobmbcjiaaGreatDoorMgMaximal7
section
/- Chapter 4, the program: the keys of literals. -/
namespace Go.Proofs.YteegjnobmbcjiaaGreatDoor
open Go.RowKit

theorem Tryz.info5 : (Tryz.prog.info? 5).map (fun i => (i.zero, i.size, i.bytes)) = some (some (.int .u8 0), 1, 1) := by kernel_rfl
theorem convN (W : World) (b n cap : Nat) (ns : List Int) (hn : n = ns.length) (h : ∀ j, j < ns.length → W.cell? ⟨b, j, none⟩ = some (.int .u8 (ns.getD j 0))) :
    (convert 43 9 (.slice (some ⟨b, 0, none⟩) n cap)).run Tryz.prog W = .ok (.string (bytesOf ns)) W := by
  subst hn
  rw [run_convert_bytes_string _ 43 9 5 _ _ _ Tryz.underlying43 Tryz.underlying5 Tryz.underlying9]
  rw [run_bytesToString _ _ ns.length cap ns ?_]
  · rfl
  · have := run_loadCells_list (P := Tryz.prog) (w := W) ⟨b, 0, none⟩ (ns.map (Value.int .u8)) (fun j v hj => by
      have hlt : j < ns.length := by simpa using (List.getElem?_eq_some_iff.1 hj).1
      rw [addr_add, Nat.zero_add, h j hlt]
      rw [List.getElem?_map, List.getElem?_eq_getElem hlt] at hj
      simpa [List.getD, hlt] using hj)
    simpa using this

set_option maxRecDepth 100000 in
set_option maxHeartbeats 1000000 in
theorem termKey_c (l h : Nat) (v : Value) (t : List Int) (w : World) (ht : t.length ≤ 40) (hlow : ∀ k, k < t.length → -12 ≤ t.getD k 0 ∧ t.getD k 0 ≤ 9) (hv : SlI l h w v t) :
    Calls Tryz.prog 143 #[v] w (RetV w (.string (keyT t))) := by
  obtain ⟨ad, cap, rfl, -, -, hr⟩ := hv
  obtain ⟨i0, hi, hz0, hz1, hz2⟩ := info_parts Tryz.info5
  go_enter Tryz.func143, Tryz.ntmps143
  go_wp2_with (at_make; refine wpList_make_full _ rfl _ _ 43 rfl w.heap.size 5 i0 (.int .u8 0) 1 Tryz.underlying43 hi hz0 hz1 _ _ _ _ t.length rfl rfl rfl rfl (by rw [hz2]; omega) (by unfold maxLen; omega) (Nat.le_refl _) ?_; intro w1 hown hg)
  have hz3 : (madeCells (Value.int .u8 0).cells (t.length * 1)).toList = ((t.take 0).map (· + 12)).map (Value.int .u8) ++ List.replicate (t.length - 0) (.int .u8 0) := by
    rw [Nat.mul_one]; show (madeCells #[_] _).toList = _; rw [toList_madeCells_one]; simp
  rw [hz3] at hown
  have hb0 : Bel w w1 := (Bel.rfl' w).grown hg (by simp)
  clear hg hz3
  go_loopw [11] (fun i wr => ∃ k : Nat, k ≤ t.length ∧ i = .int .i64 k ∧ wr.ownsRow w.heap.size 5 1 (.slice (some ⟨w.heap.size, 0, none⟩) t.length t.length) t.length (((t.take k).map (· + 12)).map (Value.int .u8) ++ List.replicate (t.length - k) (.int .u8 0)) ∧ Bel w wr) (fun i _ => t.length - (intOf i).toNat)
  case atStart => exact ⟨0, Nat.zero_le _, rfl, hown, hb0⟩
  case round =>
    obtain ⟨k, hk, rfl, ho, hb⟩ := hrel
    by_cases hlt : k < t.length
    · obtain ⟨b, off, rfl, -, hc⟩ := rd hr hb k hlt
      obtain ⟨hx1, hx2⟩ := hlow k hlt
      have HTK : Hid (((t.take (k+1)).map (· + 12)).map (Value.int .u8) = ((t.take k).map (· + 12)).map (Value.int .u8) ++ [.int .u8 (t.getD k 0 + 12)]) := by show _ = _; rw [List.take_succ_eq_append_getElem hlt, List.map_append, List.map_append]; simp [List.getD, hlt]
      have hin1 : (k : Int) < t.length := by omega
      have hcell := ho.cellAt k (by omega)
      have hfr := ho.frozenAt k
      rw [List.getElem?_append_right (by simp; omega)] at hcell
      rw [show k - (((t.take k).map (· + 12)).map (Value.int .u8)).length = 0 from by simp; omega, List.getElem?_replicate, if_pos (by omega)] at hcell
      have hst := Lib.hid (ho.stored k (.int .u8 (t.getD k 0 + 12))).1
      generalize t.getD k 0 = x at *
      have hw1 := IntWalk.i64_in (x + 12) (by omega)
      have hw2 : IntKind.u8.wrap (x + 12) = x + 12 := by simp [IntKind.wrap, IntKind.bits, IntKind.signed]; omega
      clear hr hlow hown ho
      go_wp2_with fail
      go_roundw
      case rel =>
        refine ⟨k+1, by omega, by go_num, ?_, hb.set (Nat.le_refl _) _⟩
        have h2 := hst.out
        rw [List.set_append_right _ _ (by simp; omega), show k - (((t.take k).map (· + 12)).map (Value.int .u8)).length = 0 from by simp; omega, show t.length - k = (t.length - (k+1)) + 1 from by omega, List.replicate_succ, List.set_cons_zero] at h2
        rw [HTK.out]
        simpa using h2
      case measure => simp [intOf]; omega
    · rw [show t.length - k = 0 from by omega, List.replicate_zero, List.append_nil, List.take_of_length_le (by omega)] at ho
      have hconv := convN wr w.heap.size t.length t.length (t.map (· + 12)) (by simp) (fun j hj => by
        have hj' : j < t.length := by simpa using hj
        rw [ho.cellAt j (by omega), List.getElem?_map, List.getElem?_eq_getElem (by simpa using hj')]
        simp [List.getD, hj'])
      clear hown ho hr hlow
      go_wp2_with fail
      go_ret
      exact ⟨rfl, hb⟩

set_option maxRecDepth 100000 in
set_option maxHeartbeats 1000000 in
theorem keyOf_c (l h : Nat) (p : Bool) (u1 u2 : Value) (xl xr : List Int) (w : World) (hl : xl.length ≤ 40) (hr : xr.length ≤ 40) (hll : ∀ k, k < xl.length → -12 ≤ xl.getD k 0 ∧ xl.getD k 0 ≤ 9) (hlr : ∀ k, k < xr.length → -12 ≤ xr.getD k 0 ∧ xr.getD k 0 ≤ 9) (h1 : SlI l h w u1 xl) (h2 : SlI l h w u2 xr) :
    Calls Tryz.prog 119 #[.agg #[.bool p, u1, u2]] w (RetV w (.agg #[.bool p, .string (Lib.minS (keyT xl) (keyT xr)), .string (Lib.maxS (keyT xl) (keyT xr))])) := by
  have HB0 : Bel w ((w.alloc (.cells #[.bool p, u1, u2] 53)).alloc (.cells #[.bool false, .string ⟨#[]⟩, .string ⟨#[]⟩] 141)).drew := (Bel.alloc2 _ _ _).drew
  have k1 : ((w.alloc (.cells #[.bool p, u1, u2] 53)).alloc (.cells #[.bool false, .string ⟨#[]⟩, .string ⟨#[]⟩] 141)).drew.cell? ⟨w.heap.size, 1, none⟩ = some u1 := boxc (Bel.alloc0 _ _).drew 1 _ rfl
  have k2 : ((w.alloc (.cells #[.bool p, u1, u2] 53)).alloc (.cells #[.bool false, .string ⟨#[]⟩, .string ⟨#[]⟩] 141)).drew.cell? ⟨w.heap.size, 2, none⟩ = some u2 := boxc (Bel.alloc0 _ _).drew 2 _ rfl
  have HL := Lib.hid (fun (w' : World) (hq : Bel w w') => termKey_c l h u1 xl w' hl hll (h1.below hq))
  have HR := Lib.hid (fun (w' : World) (hq : Bel w w') => termKey_c l h u2 xr w' hr hlr (h2.below hq))
  clear h1 h2
  generalize keyT xl = a at *
  generalize keyT xr = b at *
  have hmin := fun (W : World) => Lib.run_min_strs (P := Tryz.prog) W #[9, 9] 9 a b
  have hmax := fun (W : World) => Lib.run_max_strs (P := Tryz.prog) W #[9, 9] 9 a b
  generalize Lib.minS a b = lo at *
  generalize Lib.maxS a b = hi at *
  go_enter Tryz.func119, Tryz.ntmps119
  go_wp2_with fail
  go_region_held3 (fun w' => w'.cell? ⟨w.heap.size, 1, none⟩ = some u1 ∧ w'.cell? ⟨w.heap.size, 2, none⟩ = some u2)
    (first | exact ⟨k14, k24⟩ | exact ⟨k13, k23⟩ | exact ⟨k1, k2⟩ | fail)
    (first
      | (go_at_call 143; refine (HR.out _ HB3).mono ?_; rintro e w4 ⟨rfl, hb4⟩; have HB4 := HB3.step hb4; have k14 := hb4.at (World.block_lt_of_cell? _ ⟨_, _, none⟩ k13) k13; have k24 := hb4.at (World.block_lt_of_cell? _ ⟨_, _, none⟩ k23) k23)
      | (go_at_call 143; refine (HL.out _ HB0).mono ?_; rintro e w3 ⟨rfl, hb3⟩; have HB3 := HB0.step hb3; have k13 := hb3.at (World.block_lt_of_cell? _ ⟨_, _, none⟩ k1) k1; have k23 := hb3.at (World.block_lt_of_cell? _ ⟨_, _, none⟩ k2) k2)
      | fail)
  have hbb := hb3.step hb4
  have e0 := hbb.at (b := w.heap.size) (off := 0) (by simp [World.drew]; omega) (show World.cell? _ _ = some (.bool p) from boxc (Bel.alloc0 _ _).drew 0 _ rfl)
  have y0 := hbb.at (b := w.heap.size + 1) (off := 0) (by simp [World.drew]) (show World.cell? _ _ = some (.bool false) from (Bel.drew0 _).at (by simp) (by simp [go_sem]))
  have y1 := hbb.at (b := w.heap.size + 1) (off := 1) (by simp [World.drew]) (show World.cell? _ _ = some (.string ⟨#[]⟩) from (Bel.drew0 _).at (by simp) (by simp [go_sem]))
  have y2 := hbb.at (b := w.heap.size + 1) (off := 2) (by simp [World.drew]) (show World.cell? _ _ = some (.string ⟨#[]⟩) from (Bel.drew0 _).at (by simp) (by simp [go_sem]))
  have g1 : ∀ i, w4.frozen? ⟨w.heap.size + 1, i, none⟩ = false := fun i => (hbb.frozen (p := ⟨w.heap.size + 1, i, none⟩) (by simp [World.drew])).trans (((Bel.drew0 _).frozen (p := ⟨w.heap.size + 1, i, none⟩) (by simp)).trans (by simp [go_sem]))
  go_wp2_with fail
  have HB5 := (((HB4.set (p := ⟨w.heap.size + 1, 0, none⟩) (by simp) (.bool p)).set (p := ⟨w.heap.size + 1, 1, none⟩) (by simp) (.string lo)).set (p := ⟨w.heap.size + 1, 2, none⟩) (by simp) (.string hi))
  refine bodyPost_ret (v := .agg #[.bool p, .string lo, .string hi]) (by simp [results, Tryz.results119, go_sem, y0, y1, y2]) rfl ⟨rfl, HB5⟩

set_option maxRecDepth 100000 in
set_option maxHeartbeats 1000000 in
theorem isSame_c (p : Bool) (x y : ByteArray) (w : World) :
    Calls Tryz.prog 120 #[.agg #[.bool p, .string x, .string y]] w (RetV w (.bool (decide (x = y)))) := by
  have e : (x.toList == y.toList) = decide (x = y) := by
    rw [Bool.eq_iff_iff]; simp [ba_inj]
  go_enter Tryz.func120, Tryz.ntmps120
  go_wp2_with fail
  go_ret
  exact ⟨rfl, Bel.alloc0 _ _⟩

def vK (k : Ky) : Value := .agg #[.bool k.1, .string k.2.1, .string k.2.2]
def cellsK (ks : List Ky) : List Value := ks.flatMap fun k => [.bool k.1, .string k.2.1, .string k.2.2]
theorem eqK (W : World) (a b : Ky) : (Op.equalIn 10000 141 (.agg #[.bool a.1, .string a.2.1, .string a.2.2]) (.agg #[.bool b.1, .string b.2.1, .string b.2.2])).run Tryz.prog W = .ok (decide (a = b)) W := by
  simp [go_sem, ba_inj]
  obtain ⟨p, x, y⟩ := a
  obtain ⟨q, x', y'⟩ := b
  simp only [Prod.mk.injEq]
  by_cases h1 : p = q
  · by_cases h2 : x = x'
    · by_cases h3 : y = y'
      · simp [h1, h2, h3]
      · simp [h1, h2, h3]
    · simp [h1, h2]
  · simp [h1]
theorem cellsK_len (ks : List Ky) : (cellsK ks).length = ks.length * 3 := by
  induction ks with
  | nil => rfl
  | cons x r ih => show (_ :: _ :: _ :: cellsK r).length = _; simp [ih]; omega
theorem cellsK_get (ks : List Ky) (j : Nat) (k : Ky) (h : ks[j]? = some k) : (cellsK ks)[j * 3]? = some (.bool k.1) ∧ (cellsK ks)[j * 3 + 1]? = some (.string k.2.1) ∧ (cellsK ks)[j * 3 + 2]? = some (.string k.2.2) := by
  induction ks generalizing j with
  | nil => simp at h
  | cons x r ih =>
    have e : cellsK (x :: r) = .bool x.1 :: .string x.2.1 :: .string x.2.2 :: cellsK r := rfl
    cases j with
    | zero => simp at h; subst h; rw [e]; simp
    | succ j =>
      rw [e, show (j + 1) * 3 = j * 3 + 1 + 1 + 1 from by omega]
      simpa using ih j (by simpa using h)
theorem cellsK_app (a b : List Ky) : cellsK (a ++ b) = cellsK a ++ cellsK b := by simp [cellsK]
/-- A row of keys of the call's own. -/
abbrev RowK (lo : Nat) (w : World) (v : Value) (ks : List Ky) : Prop := w.ownsRow lo 141 3 v ks.length (cellsK ks)
theorem RowK.nil (lo : Nat) (w : World) : RowK lo w (.slice none 0 0) [] := World.ownsRow_nil _ _ _ _
theorem RowK.form {lo : Nat} {w : World} {v : Value} {ks : List Ky} (h : RowK lo w v ks) : ∃ ad c, v = .slice ad ks.length c := by
  rcases h.2 with ⟨e1, h2⟩ | ⟨g, cap, cur, e1, _⟩
  · exact ⟨none, 0, by rw [e1, h2]⟩
  · exact ⟨_, _, e1⟩
theorem RowK.at {lo : Nat} {w : World} {ad : Option Addr} {n c : Nat} {ks : List Ky} (h : RowK lo w (.slice ad n c) ks) (j : Nat) (hj : j < ks.length) :
    ∃ g, ad = some ⟨g, 0, none⟩ ∧ w.cell? ⟨g, j * 3, none⟩ = some (.bool (ks.getD j (false, ByteArray.empty, ByteArray.empty)).1) ∧ w.cell? ⟨g, j * 3 + 1, none⟩ = some (.string (ks.getD j (false, ByteArray.empty, ByteArray.empty)).2.1) ∧ w.cell? ⟨g, j * 3 + 2, none⟩ = some (.string (ks.getD j (false, ByteArray.empty, ByteArray.empty)).2.2) := by
  have h0 := h
  rcases h.2 with ⟨e1, h2⟩ | ⟨g, cap, cur, e1, _⟩
  · omega
  · simp only [Value.slice.injEq] at e1
    obtain ⟨rfl, rfl, rfl⟩ := e1
    obtain ⟨t0, t1, t2⟩ := cellsK_get ks j _ (List.getElem?_eq_getElem hj)
    have e : ks.getD j (false, ByteArray.empty, ByteArray.empty) = ks[j] := by simp [List.getD, hj]
    rw [e]
    exact ⟨g, rfl, (h0.cellAt _ (by omega)).trans t0, (h0.cellAt _ (by omega)).trans t1, (h0.cellAt _ (by omega)).trans t2⟩

set_option maxRecDepth 100000 in
set_option maxHeartbeats 1000000 in
theorem indexK_c (lo : Nat) (v : Value) (ks : List Ky) (key : Ky) (w : World) (hl : ks.length ≤ 1048576) (hv : RowK lo w v ks) :
    Calls Tryz.prog 144 #[v, .agg #[.bool key.1, .string key.2.1, .string key.2.2]] w (fun e w' => (∃ z : Int, e = .returned (.int .i64 z) ∧ (decide (0 ≤ z) = ks.any (fun y => decide (key = y))) ∧ -1 ≤ z ∧ z ≤ 1048576) ∧ Bel w w') := by
  obtain ⟨ad, cap, rfl⟩ := hv.form
  have k0 : ∀ w', Bel (w.alloc (.cells #[.bool key.1, .string key.2.1, .string key.2.2] 141)) w' → w'.cell? ⟨w.heap.size, 0, none⟩ = some (.bool key.1) ∧ w'.cell? ⟨w.heap.size, 1, none⟩ = some (.string key.2.1) ∧ w'.cell? ⟨w.heap.size, 2, none⟩ = some (.string key.2.2) := fun w' hb => ⟨boxc hb 0 _ rfl, boxc hb 1 _ rfl, boxc hb 2 _ rfl⟩
  have K0 := Lib.hid k0
  clear k0
  go_enter Tryz.func144, Tryz.ntmps144
  go_wp2_with fail
  go_loopw [8] (fun i wr => ∃ k : Nat, k ≤ ks.length ∧ i = .int .i64 k ∧ ((ks.take k).any (fun y => decide (key = y)) = false) ∧ Bel (w.alloc (.cells #[.bool key.1, .string key.2.1, .string key.2.2] 141)) wr) (fun i _ => ks.length - (intOf i).toNat)
  case atStart => exact ⟨0, Nat.zero_le _, rfl, by simp, Bel.rfl' _⟩
  case round =>
    obtain ⟨k, hk, rfl, hno, hb⟩ := hrel
    obtain ⟨e0, e1, e2⟩ := K0.out _ (hb.drew)
    by_cases hlt : k < ks.length
    · obtain ⟨g, rfl, c0, c1, c2⟩ := RowK.at (ownsRow_bel hv hb.of_alloc) k hlt
      have hq := fun W => eqK W key (ks.getD k (false, ByteArray.empty, ByteArray.empty))
      have c0 := (Bel.drew0 wr).at (World.block_lt_of_cell? _ ⟨_, _, none⟩ c0) c0
      have c1 := (Bel.drew0 wr).at (World.block_lt_of_cell? _ ⟨_, _, none⟩ c1) c1
      have c2 := (Bel.drew0 wr).at (World.block_lt_of_cell? _ ⟨_, _, none⟩ c2) c2
      have hin1 : (k : Int) < ks.length := by omega
      have HTK : Hid (ks.take (k+1) = ks.take k ++ [ks.getD k (false, ByteArray.empty, ByteArray.empty)]) := by show _ = _; rw [List.take_succ_eq_append_getElem hlt]; simp [List.getD, hlt]
      have hmem := mem_getD ks (false, ByteArray.empty, ByteArray.empty) k hlt
      generalize ks.getD k (false, ByteArray.empty, ByteArray.empty) = y at *
      clear hv
      by_cases he : key = y
      · simp only [decide_eq_true he] at hq
        have HM : Hid (decide ((0 : Int) ≤ (k : Int)) = ks.any (fun y => decide (key = y))) := by show _ = _; rw [decide_eq_true (by omega)]; exact (List.any_eq_true.2 ⟨y, hmem, by simp [he]⟩).symm
        clear he hmem hno
        go_wp2_with fail
        go_region_held3 (fun w' => (w'.cell? ⟨w.heap.size, 0, none⟩ = some (.bool key.1) ∧ w'.cell? ⟨w.heap.size, 1, none⟩ = some (.string key.2.1) ∧ w'.cell? ⟨w.heap.size, 2, none⟩ = some (.string key.2.2)) ∧ w'.cell? ⟨g, k * 3, none⟩ = some (.bool y.1) ∧ w'.cell? ⟨g, k * 3 + 1, none⟩ = some (.string y.2.1) ∧ w'.cell? ⟨g, k * 3 + 2, none⟩ = some (.string y.2.2))
          (first | exact ⟨⟨e0, e1, e2⟩, c0, c1, c2⟩ | fail)
          (first | fail)
        go_wp2_with fail
        go_ret
        exact ⟨⟨_, rfl, HM.out, by omega, by omega⟩, hb.of_alloc.drew⟩
      · simp only [decide_eq_false he] at hq
        have HN : Hid ((ks.take (k+1)).any (fun y => decide (key = y)) = false) := by show _ = _; rw [HTK.out, List.any_append, hno]; simp [he]
        clear he hmem hno
        go_wp2_with fail
        go_region_held3 (fun w' => (w'.cell? ⟨w.heap.size, 0, none⟩ = some (.bool key.1) ∧ w'.cell? ⟨w.heap.size, 1, none⟩ = some (.string key.2.1) ∧ w'.cell? ⟨w.heap.size, 2, none⟩ = some (.string key.2.2)) ∧ w'.cell? ⟨g, k * 3, none⟩ = some (.bool y.1) ∧ w'.cell? ⟨g, k * 3 + 1, none⟩ = some (.string y.2.1) ∧ w'.cell? ⟨g, k * 3 + 2, none⟩ = some (.string y.2.2))
          (first | exact ⟨⟨e0, e1, e2⟩, c0, c1, c2⟩ | fail)
          (first | fail)
        go_wp2_with fail
        go_roundw
        case rel => exact ⟨k+1, by omega, by go_num, HN.out, hb.drew⟩
        case measure => simp [intOf]; omega
    · rw [List.take_of_length_le (by omega)] at hno
      have HM : Hid (decide ((0 : Int) ≤ -1) = ks.any (fun y => decide (key = y))) := by show _ = _; rw [hno]; rfl
      clear hno hv
      go_wp2_with fail
      go_ret
      exact ⟨⟨_, rfl, HM.out, by omega, by omega⟩, hb.of_alloc⟩
end Go.Proofs.YteegjnobmbcjiaaGreatDoor
end
section
/- Chapter 4, the program: keys among keys, tautologies. -/
namespace Go.Proofs.YteegjnobmbcjiaaGreatDoor
open Go.RowKit

set_option maxRecDepth 100000 in
set_option maxHeartbeats 1000000 in
theorem containsK_c (lo : Nat) (v : Value) (ks : List Ky) (key : Ky) (w : World) (hl : ks.length ≤ 1048576) (hv : RowK lo w v ks) :
    Calls Tryz.prog 121 #[v, .agg #[.bool key.1, .string key.2.1, .string key.2.2]] w (RetV w (.bool (ks.any fun y => decide (key = y)))) := by
  have HC := Lib.hid (fun (w' : World) (hb : Bel w w') => indexK_c lo v ks key w' hl (ownsRow_bel hv hb))
  obtain ⟨ad, cap, rfl⟩ := hv.form
  clear hv
  generalize (ks.any fun y => decide (key = y)) = q at *
  go_enter Tryz.func121, Tryz.ntmps121
  go_wp2_with fail
  refine (HC.out _ (Bel.alloc0 _ _)).mono ?_; rintro e w1 ⟨⟨z, rfl, hz, hz1, hz2⟩, hb1⟩
  go_wp2_with fail
  go_ret
  exact ⟨by rw [← hz]; rfl, hb1.of_alloc⟩

set_option maxRecDepth 100000 in
set_option maxHeartbeats 1000000 in
theorem news_key (w : World) (k : Ky) (t : TypeId) (g : Nat) (hg : g = w.heap.size) : ∀ j u, [Value.bool k.1, .string k.2.1, .string k.2.2][j]? = some u → (w.alloc (.cells #[.bool k.1, .string k.2.1, .string k.2.2] t)).cell? ((⟨g, 0, none⟩ : Addr).add j) = some u := by
  subst hg
  intro j u hj
  match j, hj with
  | 0, hj => simp at hj; subst hj; rw [show (⟨w.heap.size, 0, none⟩ : Addr).add 0 = ⟨w.heap.size, 0, none⟩ from rfl, World.cell?_alloc_new w]; rfl
  | 1, hj => simp at hj; subst hj; rw [addr_add, World.cell?_alloc_new w]; rfl
  | 2, hj => simp at hj; subst hj; rw [addr_add, World.cell?_alloc_new w]; rfl
theorem one_key (k : Ky) : ∀ u ∈ [Value.bool k.1, .string k.2.1, .string k.2.2], u.oneCell' = true := by
  intro u hu; simp at hu; rcases hu with rfl | rfl | rfl <;> rfl
theorem Tryz.info141 : (Tryz.prog.info? 141).map (fun i => (i.zero, i.size, i.bytes)) = some (some (.agg #[.bool false, .string ⟨#[]⟩, .string ⟨#[]⟩]), 3, 40) := by kernel_rfl
theorem keyOf_k (l h : Nat) (x : Lt) (u1 u2 : Value) (w : World) (hl : x.2.1.length ≤ 40) (hr : x.2.2.length ≤ 40) (hk : inKeyL x) (h1 : SlI l h w u1 x.2.1) (h2 : SlI l h w u2 x.2.2) :
    Calls Tryz.prog 119 #[.agg #[.bool x.1, u1, u2]] w (RetV w (.agg #[.bool (keyL x).1, .string (keyL x).2.1, .string (keyL x).2.2])) :=
  keyOf_c l h x.1 u1 u2 x.2.1 x.2.2 w hl hr (inKey_get hk.1) (inKey_get hk.2) h1 h2
/-- A tautology, told by the keys. -/
def tautK (ks : List Ky) : Bool := ks.any fun k => (k.1 && decide (k.2.1 = k.2.2)) || ks.any fun y => decide ((!k.1, k.2) = y)

end Go.Proofs.YteegjnobmbcjiaaGreatDoor
end
section
/- A row of literals of the call's own beside another row that grows too. -/
namespace Go.Proofs.YteegjnobmbcjiaaGreatDoor
open Go.RowKit

def RowCA (base : Nat) (w : World) (v : Value) (c : List Lt) (a : Option Nat) : Prop :=
  ∃ (zs : List LV) (bs : Nat → Nat), RowC base w v zs ∧ zs.map (·.1) = c.map (·.1) ∧ Ins base w.heap.size (rowBlk w v) w (rowsC zs) (flatC c) bs ∧
    ∀ g, a = some g → v.ownBlock ≠ some g ∧ ∀ j, j < (flatC c).length → 0 < ((flatC c).getD j []).length → bs j ≠ g
theorem RowCA.nil (base : Nat) (w : World) (a : Option Nat) : RowCA base w (.slice none 0 0) [] a :=
  ⟨[], _, RowC.nil _ _, rfl, (Ins.none _ _ _ _).mono (Nat.le_refl _) (Nat.le_refl _), fun g _ => ⟨by simp [Value.ownBlock], fun j hj => absurd hj (by simp [flatC])⟩⟩
theorem RowCA.co {base : Nat} {w : World} {v : Value} {c : List Lt} {a : Option Nat} (h : RowCA base w v c a) : RowCO base w v c := by
  obtain ⟨zs, bs, h1, h2, h3, _⟩ := h
  exact ⟨zs, bs, h1, h2, h3⟩
theorem RowCA.ne {base : Nat} {w : World} {v : Value} {c : List Lt} {a : Option Nat} (h : RowCA base w v c a) : a = none ∨ a ≠ v.ownBlock := by
  obtain ⟨_, _, _, _, _, h4⟩ := h
  cases a with
  | none => exact .inl rfl
  | some g => exact .inr (fun e => (h4 g rfl).1 e.symm)
theorem RowCA.bel {base : Nat} {w w' : World} {v : Value} {c : List Lt} {a : Option Nat} (h : RowCA base w v c a) (hb : Bel w w') : RowCA base w' v c a := by
  obtain ⟨zs, bs, ho, hp, hi, ha⟩ := h
  refine ⟨zs, bs, ownsRow_bel ho hb, hp, ((hi.below hb).mono (Nat.le_refl _) hb.size).blk fun j hj hpos => ?_, ha⟩
  have hr := hi.rng j hj hpos
  unfold rowBlk at hr ⊢
  cases hv : v.ownBlock with
  | none => have := hb.size; simp only [Option.getD_none]; omega
  | some g => rw [hv] at hr; simp only [Option.getD_some] at hr ⊢; exact hr.2.2
/-- The other row grows. -/
theorem RowCA.seen {base : Nat} {w w' : World} {v : Value} {c : List Lt} {a a' : Option Nat} (h : RowCA base w v c a) (hg : w.grownBy w' a) (ha' : a' = a ∨ a' = some w.heap.size) : RowCA base w' v c a' := by
  obtain ⟨zs, bs, ho, hp, hi, ha⟩ := h
  have hlt := ho.lt
  have hne : v.ownBlock = none ∨ v.ownBlock ≠ a := by
    cases a with
    | none => cases hv : v.ownBlock with
      | none => exact .inl rfl
      | some g => exact .inr (by simp)
    | some g => exact .inr (ha g rfl).1
  have hi2 : Ins base w.heap.size (rowBlk w v) w' (rowsC zs) (flatC c) bs := by
    refine ⟨hi.len, hi.rng, hi.inj, fun j u hj => ?_⟩
    have hoj := hi.own j u hj
    have hjl : j < (flatC c).length := by rw [← hi.len]; exact (List.getElem?_eq_some_iff.1 hj).1
    by_cases hpos : 0 < ((flatC c).getD j []).length
    · have hr := hi.rng j hjl hpos
      refine hoj.same fun x h1 h2 h3 => hg.block x h3 fun e => ?_
      have := (ha x e.symm).2 j hjl hpos
      omega
    · rw [len0 hpos] at hoj ⊢; exact hoj.empty
  refine ⟨zs, bs, ho.kept hg hne, hp, (hi2.mono (Nat.le_refl _) hg.size).blk fun j hj hpos => ?_, fun g hga => ?_⟩
  · have hr := hi.rng j hj hpos
    unfold rowBlk at hr ⊢
    cases hv : v.ownBlock with
    | none => have := hg.size; simp only [Option.getD_none]; omega
    | some g => rw [hv] at hr; simp only [Option.getD_some] at hr ⊢; exact hr.2.2
  · rcases ha' with e | e
    · exact ha g (by rw [← e]; exact hga)
    · rw [e] at hga
      simp only [Option.some.injEq] at hga
      subst hga
      exact ⟨fun e2 => Nat.lt_irrefl _ (hlt _ e2).2, fun j hj hpos => by have := hi.rng j hj hpos; omega⟩
theorem RowCA.blk {base : Nat} {w : World} {v : Value} {c : List Lt} {a : Option Nat} (h : RowCA base w v c a) : ∀ g, v.ownBlock = some g → base ≤ g ∧ g < w.heap.size := h.co.blk
theorem RowCA.step {base l1 h1 l2 h2 : Nat} {w0 w1 w2 : World} {v u1 u2 : Value} {c : List Lt} {t1 t2 : List Int} {a : Option Nat} (h : RowCA base w0 v c a) (hal : ∀ g, a = some g → g < w0.heap.size) (hb1 : Bel w0 w1) (hb2 : Bel w1 w2) (o1 : OwnI l1 h1 w1 u1 t1) (o2 : OwnI l2 h2 w1 u2 t2)
    (r1 : w0.heap.size ≤ l1) (r2 : w0.heap.size ≤ l2) (q1 : h1 ≤ w1.heap.size) (q2 : h2 ≤ w1.heap.size) (hd : h1 ≤ l2 ∨ h2 ≤ l1) (hbase : base ≤ w0.heap.size) (p : Bool) :
    ∃ zs : List LV, RowC base w2 v zs ∧ zs.length = c.length ∧ ∀ w3 v', RowC base w3 v' (zs ++ [(p, u1, u2)]) → w2.grownBy w3 v.ownBlock → (v'.ownBlock = v.ownBlock ∨ v'.ownBlock = some w2.heap.size) → RowCA base w3 v' (c ++ [(p, t1, t2)]) a := by
  obtain ⟨zs, bs, hw, hp, hi, ha⟩ := h
  have hlt := hw.lt
  have hz1 := hb1.size
  have hz2 := hb2.size
  have hzl : zs.length = c.length := by simpa using congrArg List.length hp
  refine ⟨zs, ownsRow_bel hw (hb1.step hb2), hzl, fun w3 v' hown hg hat => ?_⟩
  have hz3 := hg.size
  obtain ⟨b', hb'⟩ : ∃ b', v'.ownBlock = some b' := by
    rcases hown.2 with ⟨_, hn⟩ | ⟨g, cap, cur, rfl, _⟩
    · simp at hn
    · exact ⟨g, by simp [Value.ownBlock]⟩
  have hrb : rowBlk w3 v' = b' := by unfold rowBlk; rw [hb']; rfl
  have hi2 := hi.below (hb1.step hb2)
  have hi3 : Ins base w0.heap.size (rowBlk w0 v) w3 (rowsC zs) (flatC c) bs := by
    refine hi2.but fun x hx _ hxl hx2 => hg.block x hx2 fun e => hx ?_
    unfold rowBlk; rw [← e]; rfl
  have hbb : b' < w0.heap.size ∨ w2.heap.size ≤ b' := by
    rcases hat with e | e
    · rw [hb'] at e; exact .inl (hlt b' e.symm).2
    · rw [hb'] at e; simp at e; exact .inr (by omega)
  have hne : ∀ j, j < (flatC c).length → 0 < ((flatC c).getD j []).length → bs j ≠ b' := by
    intro j hj hpos
    have hr := hi.rng j hj hpos
    rcases hat with e | e
    · unfold rowBlk at hr; rw [← e, hb'] at hr; exact hr.2.2
    · rw [hb'] at e; simp at e; omega
  have ho1 : OwnI l1 h1 w3 u1 t1 := (o1.below hb2).same fun x hx1 hx2 hx3 => hg.block x hx3 fun e => by have := (hlt x e.symm).2; omega
  have ho2 : OwnI l2 h2 w3 u2 t2 := (o2.below hb2).same fun x hx1 hx2 hx3 => hg.block x hx3 fun e => by have := (hlt x e.symm).2; omega
  have hi4 := hi3.blk hne
  obtain ⟨bs1, hf1, hsame, hnew⟩ := hi4.snocG ho1 (fun j hj hpos => by have := hi4.rng j hj hpos; omega) (by omega) (by omega) (hi2 := w1.heap.size) (by omega) (by omega)
  obtain ⟨bs2, hf2, hsame2, hnew2⟩ := hf1.snocG ho2 (fun j hj hpos => by
    by_cases e : j = (flatC c).length
    · subst e
      have : 0 < t1.length := by simpa [List.getD] using hpos
      have := hnew this
      omega
    · have hjl : j < (flatC c).length := by simp at hj; omega
      have hp' : 0 < ((flatC c).getD j []).length := by simpa [List.getD, List.getElem?_append_left hjl] using hpos
      have := hi4.rng j hjl hp'
      rw [hsame j hjl]
      omega) (by omega) (by omega) (hi2 := w3.heap.size) (by omega) (by omega)
  have hff : flatC (c ++ [(p, t1, t2)]) = flatC c ++ [t1] ++ [t2] := by rw [flatC_app]; simp [flatC]
  refine ⟨zs ++ [(p, u1, u2)], bs2, hown, by rw [List.map_append, List.map_append, hp]; rfl, ?_, fun g hga => ⟨fun e => ?_, fun j hj hpos => ?_⟩⟩
  · rw [hrb, rowsC_app, hff]
    simpa [rowsC] using hf2
  · rcases hat with e2 | e2
    · exact (ha g hga).1 (by rw [← e2]; exact e)
    · rw [e2] at e; simp at e; have := hal g hga; omega
  · rw [hff] at hj hpos
    have hg0 := hal g hga
    by_cases e1 : j = (flatC c ++ [t1]).length
    · subst e1
      have hpos2 : 0 < t2.length := by simpa [List.getD] using hpos
      have := hnew2 hpos2
      omega
    · have hj1 : j < (flatC c ++ [t1]).length := by simp at hj ⊢; simp at e1; omega
      rw [hsame2 j hj1]
      by_cases e2 : j = (flatC c).length
      · subst e2
        have hpos2 : 0 < t1.length := by simpa [List.getD] using hpos
        have := hnew hpos2
        omega
      · have hjl : j < (flatC c).length := by simp at hj1; omega
        rw [hsame j hjl]
        have hp' : 0 < ((flatC c).getD j []).length := by simpa [List.getD, List.getElem?_append_left hjl, List.getElem?_append_left hj1] using hpos
        exact (ha g hga).2 j hjl hp'
end Go.Proofs.YteegjnobmbcjiaaGreatDoor
end
section
/- Chapter 4, the reference: literals of the same terms. -/
namespace Go.Proofs.YteegjnobmbcjiaaGreatDoor
open Go.RowKit

theorem l1Same_w (l h l' h' : Nat) (v u : Value) (xs ys : List Int) (q : Bool) (w : World) (hq : decide (xs = ys) = q) (hx : xs.length ≤ 1048576) (hy : ys.length ≤ 1048576) (hv : SlI l h w v xs) (hu : SlI l' h' w u ys) :
    Calls Tryz.prog 128 #[v, u] w (RetV w (.bool q)) := by subst hq; exact l1Same_c l h l' h' v u xs ys w hx hy hv hu

set_option maxRecDepth 100000 in
set_option maxHeartbeats 2000000 in
theorem l4SameTerms_c (l h l' h' : Nat) (x y : Lt) (u1 u2 q1 q2 : Value) (w : World) (h1 : x.2.1.length ≤ 1048576) (h2 : x.2.2.length ≤ 1048576) (h3 : y.2.1.length ≤ 1048576) (h4 : y.2.2.length ≤ 1048576)
    (s1 : SlI l h w u1 x.2.1) (s2 : SlI l h w u2 x.2.2) (t1 : SlI l' h' w q1 y.2.1) (t2 : SlI l' h' w q2 y.2.2) :
    Calls Tryz.prog 138 #[.agg #[.bool x.1, u1, u2], .agg #[.bool y.1, q1, q2]] w (RetV w (.bool (sameTs x y))) := by
  obtain ⟨p, xl, xr⟩ := x
  obtain ⟨q, yl, yr⟩ := y
  simp only at *
  unfold sameTs
  simp only
  have HB : Bel w ((w.alloc (.cells #[.bool p, u1, u2] 53)).alloc (.cells #[.bool q, q1, q2] 53)) := Bel.alloc2 _ _ _
  have HK : Hid (∀ w', Bel ((w.alloc (.cells #[.bool p, u1, u2] 53)).alloc (.cells #[.bool q, q1, q2] 53)) w' → (w'.cell? ⟨w.heap.size, 1, none⟩ = some u1 ∧ w'.cell? ⟨w.heap.size, 2, none⟩ = some u2) ∧ w'.cell? ⟨w.heap.size + 1, 1, none⟩ = some q1 ∧ w'.cell? ⟨w.heap.size + 1, 2, none⟩ = some q2) := fun w' hb =>
    ⟨⟨hb.at (by simp; omega) (by simp [go_sem]), hb.at (by simp; omega) (by simp [go_sem])⟩, hb.at (by simp) (by simp [go_sem]), hb.at (by simp) (by simp [go_sem])⟩
  have H1 := fun (r : Bool) (hr : decide (xl = yl) = r) (w' : World) (hb : Bel w w') => l1Same_w _ _ _ _ _ _ xl yl r w' hr h1 h3 (s1.below hb) (t1.below hb)
  have H2 := fun (r : Bool) (hr : decide (xr = yr) = r) (w' : World) (hb : Bel w w') => l1Same_w _ _ _ _ _ _ xr yr r w' hr h2 h4 (s2.below hb) (t2.below hb)
  have H3 := fun (r : Bool) (hr : decide (xl = yr) = r) (w' : World) (hb : Bel w w') => l1Same_w _ _ _ _ _ _ xl yr r w' hr h1 h4 (s1.below hb) (t2.below hb)
  have H4 := fun (r : Bool) (hr : decide (xr = yl) = r) (w' : World) (hb : Bel w w') => l1Same_w _ _ _ _ _ _ xr yl r w' hr h2 h3 (s2.below hb) (t1.below hb)
  clear s1 s2 t1 t2
  generalize decide (xl = yl) = e1 at *
  generalize decide (xr = yr) = e2 at *
  generalize decide (xl = yr) = e3 at *
  generalize decide (xr = yl) = e4 at *
  have H1 := Lib.hid (H1 e1 rfl)
  have H2 := Lib.hid (H2 e2 rfl)
  have H3 := Lib.hid (H3 e3 rfl)
  have H4 := Lib.hid (H4 e4 rfl)
  cases e1 with
  | false =>
    cases e3 with
    | false =>
      go_enter Tryz.func138, Tryz.ntmps138
      go_wp2_with fail
      refine (H1.out _ HB).mono ?_; rintro e w1 ⟨rfl, hb1⟩
      have B1 := HB.step hb1
      have G1 := hb1
      obtain ⟨⟨x11, x21⟩, y11, y21⟩ := HK.out _ G1
      go_wp2_with fail
      refine (H3.out _ B1).mono ?_; rintro e w2 ⟨rfl, hb2⟩
      have B2 := B1.step hb2
      have G2 := G1.step hb2
      obtain ⟨⟨x12, x22⟩, y12, y22⟩ := HK.out _ G2
      go_wp2_with fail
      go_ret
      exact ⟨rfl, B2⟩
    | true =>
      cases e4 with
      | false =>
        go_enter Tryz.func138, Tryz.ntmps138
        go_wp2_with fail
        refine (H1.out _ HB).mono ?_; rintro e w1 ⟨rfl, hb1⟩
        have B1 := HB.step hb1
        have G1 := hb1
        obtain ⟨⟨x11, x21⟩, y11, y21⟩ := HK.out _ G1
        go_wp2_with fail
        refine (H3.out _ B1).mono ?_; rintro e w2 ⟨rfl, hb2⟩
        have B2 := B1.step hb2
        have G2 := G1.step hb2
        obtain ⟨⟨x12, x22⟩, y12, y22⟩ := HK.out _ G2
        go_wp2_with fail
        refine (H4.out _ B2).mono ?_; rintro e w3 ⟨rfl, hb3⟩
        have B3 := B2.step hb3
        have G3 := G2.step hb3
        obtain ⟨⟨x13, x23⟩, y13, y23⟩ := HK.out _ G3
        go_wp2_with fail
        go_ret
        exact ⟨rfl, B3⟩
      | true =>
        go_enter Tryz.func138, Tryz.ntmps138
        go_wp2_with fail
        refine (H1.out _ HB).mono ?_; rintro e w1 ⟨rfl, hb1⟩
        have B1 := HB.step hb1
        have G1 := hb1
        obtain ⟨⟨x11, x21⟩, y11, y21⟩ := HK.out _ G1
        go_wp2_with fail
        refine (H3.out _ B1).mono ?_; rintro e w2 ⟨rfl, hb2⟩
        have B2 := B1.step hb2
        have G2 := G1.step hb2
        obtain ⟨⟨x12, x22⟩, y12, y22⟩ := HK.out _ G2
        go_wp2_with fail
        refine (H4.out _ B2).mono ?_; rintro e w3 ⟨rfl, hb3⟩
        have B3 := B2.step hb3
        have G3 := G2.step hb3
        obtain ⟨⟨x13, x23⟩, y13, y23⟩ := HK.out _ G3
        go_wp2_with fail
        go_ret
        exact ⟨rfl, B3⟩
  | true =>
    cases e2 with
    | false =>
      cases e3 with
      | false =>
        go_enter Tryz.func138, Tryz.ntmps138
        go_wp2_with fail
        refine (H1.out _ HB).mono ?_; rintro e w1 ⟨rfl, hb1⟩
        have B1 := HB.step hb1
        have G1 := hb1
        obtain ⟨⟨x11, x21⟩, y11, y21⟩ := HK.out _ G1
        go_wp2_with fail
        refine (H2.out _ B1).mono ?_; rintro e w2 ⟨rfl, hb2⟩
        have B2 := B1.step hb2
        have G2 := G1.step hb2
        obtain ⟨⟨x12, x22⟩, y12, y22⟩ := HK.out _ G2
        go_wp2_with fail
        refine (H3.out _ B2).mono ?_; rintro e w3 ⟨rfl, hb3⟩
        have B3 := B2.step hb3
        have G3 := G2.step hb3
        obtain ⟨⟨x13, x23⟩, y13, y23⟩ := HK.out _ G3
        go_wp2_with fail
        go_ret
        exact ⟨rfl, B3⟩
      | true =>
        cases e4 with
        | false =>
          go_enter Tryz.func138, Tryz.ntmps138
          go_wp2_with fail
          refine (H1.out _ HB).mono ?_; rintro e w1 ⟨rfl, hb1⟩
          have B1 := HB.step hb1
          have G1 := hb1
          obtain ⟨⟨x11, x21⟩, y11, y21⟩ := HK.out _ G1
          go_wp2_with fail
          refine (H2.out _ B1).mono ?_; rintro e w2 ⟨rfl, hb2⟩
          have B2 := B1.step hb2
          have G2 := G1.step hb2
          obtain ⟨⟨x12, x22⟩, y12, y22⟩ := HK.out _ G2
          go_wp2_with fail
          refine (H3.out _ B2).mono ?_; rintro e w3 ⟨rfl, hb3⟩
          have B3 := B2.step hb3
          have G3 := G2.step hb3
          obtain ⟨⟨x13, x23⟩, y13, y23⟩ := HK.out _ G3
          go_wp2_with fail
          refine (H4.out _ B3).mono ?_; rintro e w4 ⟨rfl, hb4⟩
          have B4 := B3.step hb4
          have G4 := G3.step hb4
          obtain ⟨⟨x14, x24⟩, y14, y24⟩ := HK.out _ G4
          go_wp2_with fail
          go_ret
          exact ⟨rfl, B4⟩
        | true =>
          go_enter Tryz.func138, Tryz.ntmps138
          go_wp2_with fail
          refine (H1.out _ HB).mono ?_; rintro e w1 ⟨rfl, hb1⟩
          have B1 := HB.step hb1
          have G1 := hb1
          obtain ⟨⟨x11, x21⟩, y11, y21⟩ := HK.out _ G1
          go_wp2_with fail
          refine (H2.out _ B1).mono ?_; rintro e w2 ⟨rfl, hb2⟩
          have B2 := B1.step hb2
          have G2 := G1.step hb2
          obtain ⟨⟨x12, x22⟩, y12, y22⟩ := HK.out _ G2
          go_wp2_with fail
          refine (H3.out _ B2).mono ?_; rintro e w3 ⟨rfl, hb3⟩
          have B3 := B2.step hb3
          have G3 := G2.step hb3
          obtain ⟨⟨x13, x23⟩, y13, y23⟩ := HK.out _ G3
          go_wp2_with fail
          refine (H4.out _ B3).mono ?_; rintro e w4 ⟨rfl, hb4⟩
          have B4 := B3.step hb4
          have G4 := G3.step hb4
          obtain ⟨⟨x14, x24⟩, y14, y24⟩ := HK.out _ G4
          go_wp2_with fail
          go_ret
          exact ⟨rfl, B4⟩
    | true =>
      go_enter Tryz.func138, Tryz.ntmps138
      go_wp2_with fail
      refine (H1.out _ HB).mono ?_; rintro e w1 ⟨rfl, hb1⟩
      have B1 := HB.step hb1
      have G1 := hb1
      obtain ⟨⟨x11, x21⟩, y11, y21⟩ := HK.out _ G1
      go_wp2_with fail
      refine (H2.out _ B1).mono ?_; rintro e w2 ⟨rfl, hb2⟩
      have B2 := B1.step hb2
      have G2 := G1.step hb2
      obtain ⟨⟨x12, x22⟩, y12, y22⟩ := HK.out _ G2
      go_wp2_with fail
      go_ret
      exact ⟨rfl, B2⟩
end Go.Proofs.YteegjnobmbcjiaaGreatDoor
end
section
/- Chapter 4, the reference: ApplyClause. -/
namespace Go.Proofs.YteegjnobmbcjiaaGreatDoor
open Go.RowKit

set_option maxRecDepth 100000 in
set_option maxHeartbeats 1000000 in
theorem l4Apply_c (l h l' h' : Nat) (v u : Value) (b : List (List Int)) (c : List Lt) (w : World) (hlen : b.length = 12) (hb40 : lens40 b) (hx : c.length ≤ 1048576) (ht : ∀ t ∈ flatC c, t.length ≤ 1024 ∧ ∀ k, k < t.length → -12 ≤ t.getD k 0) (hu : SlS l' h' w u b) (hv : SlC l h w v c) :
    Calls Tryz.prog 62 #[u, v] w (RetC w (applyC b c)) := by
  obtain ⟨ad, cap, rfl⟩ := hv.form
  obtain ⟨au, cu, rfl⟩ := hu.form
  have HLEN := Lib.hid hlen
  clear hlen
  go_enter Tryz.func62, Tryz.ntmps62
  go_wp2_with fail
  go_loopw [5, 10] (fun o i wr => ∃ k : Nat, k ≤ c.length ∧ i = .int .i64 k ∧ RowCO w.heap.size wr o ((c.take k).map (fun x => (x.1, appT b x.2.1, appT b x.2.2))) ∧ Bel w wr) (fun _ i _ => c.length - (intOf i).toNat)
  case atStart => exact ⟨0, Nat.zero_le _, rfl, RowCO.nil _ _, Bel.rfl' _⟩
  case round =>
    obtain ⟨k, hk, rfl, hrow, hb⟩ := hrel
    by_cases hlt : k < c.length
    · obtain ⟨b1, off, u1, u2, rfl, hbs, c1, c2, c3, s1, s2⟩ := hv.at hb k hlt
      have HTK := Lib.hid (show (c.take (k+1)).map (fun x => (x.1, appT b x.2.1, appT b x.2.2)) = (c.take k).map (fun x => (x.1, appT b x.2.1, appT b x.2.2)) ++ [((c.getD k lt0).1, appT b (c.getD k lt0).2.1, appT b (c.getD k lt0).2.2)] by rw [List.take_succ_eq_append_getElem hlt, List.map_append]; simp [List.getD, hlt])
      have hlen0 := Lib.hid (show ((c.take k).map (fun x => (x.1, appT b x.2.1, appT b x.2.2))).length = k by simp; omega)
      obtain ⟨ht1, ht2⟩ := And.intro (ht _ (List.mem_flatMap.2 ⟨_, mem_getD c lt0 k hlt, by simp⟩ : (c.getD k lt0).2.1 ∈ flatC c)) (ht _ (List.mem_flatMap.2 ⟨_, mem_getD c lt0 k hlt, by simp⟩ : (c.getD k lt0).2.2 ∈ flatC c))
      have hin1 : (k : Int) < c.length := by omega
      have HROW := Lib.hid hrow
      have hbz := hb.size
      have HBK := hrow.blk
      generalize c.getD k lt0 = x at *
      obtain ⟨p, xl, xr⟩ := x
      simp only at *
      obtain ⟨a1, d1, rfl⟩ := s1.form
      obtain ⟨a2, d2, rfl⟩ := s2.form
      have HL := Lib.hid (fun (w' : World) (hq : Bel wr w') => l2Apply_c _ _ _ _ _ _ b _ w' HLEN.out hb40 ht1.1 ht1.2 (hu.below (hb.step hq)) (s1.below hq))
      have HR := Lib.hid (fun (w' : World) (hq : Bel wr w') => l2Apply_c _ _ _ _ _ _ b _ w' HLEN.out hb40 ht2.1 ht2.2 (hu.below (hb.step hq)) (s2.below hq))
      generalize appT b xl = tl at *
      generalize appT b xr = tr at *
      have HB0 : Bel wr (wr.alloc (.cells #[.bool p, .slice a1 xl.length d1, .slice a2 xr.length d2] 53)).drew := (Bel.alloc0 _ _).drew
      have HZ0 : wr.heap.size ≤ (wr.alloc (.cells #[.bool p, .slice a1 xl.length d1, .slice a2 xr.length d2] 53)).drew.heap.size := HB0.size
      have k1 : (wr.alloc (.cells #[.bool p, .slice a1 xl.length d1, .slice a2 xr.length d2] 53)).drew.cell? ⟨wr.heap.size, 0, none⟩ = some (.bool p) := boxc ((Bel.rfl' _).drew) 0 _ rfl
      have k2 : (wr.alloc (.cells #[.bool p, .slice a1 xl.length d1, .slice a2 xr.length d2] 53)).drew.cell? ⟨wr.heap.size, 1, none⟩ = some (.slice a1 xl.length d1) := boxc ((Bel.rfl' _).drew) 1 _ rfl
      have k3 : (wr.alloc (.cells #[.bool p, .slice a1 xl.length d1, .slice a2 xr.length d2] 53)).drew.cell? ⟨wr.heap.size, 2, none⟩ = some (.slice a2 xr.length d2) := boxc ((Bel.rfl' _).drew) 2 _ rfl
      clear hv s1 s2 hrow hu ht
      go_wp2_with fail
      go_region_held_law (fun w' => w'.cell? ⟨wr.heap.size, 0, none⟩ = some (.bool p) ∧ w'.cell? ⟨wr.heap.size, 1, none⟩ = some (.slice a1 xl.length d1) ∧ w'.cell? ⟨wr.heap.size, 2, none⟩ = some (.slice a2 xr.length d2))
        (first | exact ⟨t1, t2, t3⟩ | exact ⟨m1, m2, m3⟩ | exact ⟨k14, k24, k34⟩ | exact ⟨k13, k23, k33⟩ | exact ⟨k1, k2, k3⟩ | fail)
        (first
          | (refine step_append_litO rfl (.tmp 14) (.tmp 26) 27 rfl rfl w.heap.size _ zs rfl hown w4.heap.size p (a3, n3, q3) (a4, n4, q4) rfl HN (by rw [hzl, hlen0.out]; omega) HZ4 ?_; intro b5 k5 w5 R5 hg5 hat5; have HR5 := hnext w5 _ R5 hg5 hat5; have t1 := hg5.cell m1 (fun e => Nat.lt_irrefl _ (HBK _ e.symm).2); have t2 := hg5.cell m2 (fun e => Nat.lt_irrefl _ (HBK _ e.symm).2); have t3 := hg5.cell m3 (fun e => Nat.lt_irrefl _ (HBK _ e.symm).2); have HB5 := (hb.step (HB4.step HA4)).grown hg5 (fun q hq => (HBK q hq).1))
          | (go_at_call 70; refine (HR.out _ HB3).mono ?_; rintro e w4 ⟨a4, n4, q4, rfl, r2, g4⟩; obtain ⟨LA, HA, LB, HB, O1, O2, RA, RB, QA, QB, HD⟩ : ∃ la ha lb hb, OwnI la ha w4 (.slice a3 n3 q3) tl ∧ OwnI lb hb w4 (.slice a4 n4 q4) tr ∧ wr.heap.size ≤ la ∧ wr.heap.size ≤ lb ∧ ha ≤ w4.heap.size ∧ hb ≤ w4.heap.size ∧ (ha ≤ lb ∨ hb ≤ la) := ⟨_, _, _, _, r1.below g4, r2, HZ0, HZ3, g4.size, Nat.le_refl _, .inl (Nat.le_refl _)⟩; have HB4 := HB3.step g4; have HA4 := Bel.alloc0 w4 (.cells #[.bool p, .slice a3 n3 q3, .slice a4 n4 q4] 53); obtain ⟨zs, hown, hzl, hnext⟩ := HROW.out.step HB4 HA4 O1 O2 RA RB QA QB HD hbz p; have HZ4 : w.heap.size ≤ (w4.alloc (.cells #[.bool p, .slice a3 n3 q3, .slice a4 n4 q4] 53)).heap.size := Nat.le_trans hbz (HB4.step HA4).size; have HN := news_lit w4 (.bool p) (encS (a3, n3, q3)) (encS (a4, n4, q4)) 53 w4.heap.size rfl; have k14 := g4.at (World.block_lt_of_cell? _ ⟨_, _, none⟩ k13) k13; have k24 := g4.at (World.block_lt_of_cell? _ ⟨_, _, none⟩ k23) k23; have k34 := g4.at (World.block_lt_of_cell? _ ⟨_, _, none⟩ k33) k33; have m1 := HA4.at (World.block_lt_of_cell? _ ⟨_, _, none⟩ k14) k14; have m2 := HA4.at (World.block_lt_of_cell? _ ⟨_, _, none⟩ k24) k24; have m3 := HA4.at (World.block_lt_of_cell? _ ⟨_, _, none⟩ k34) k34)
          | (go_at_call 70; refine (HL.out _ HB3).mono ?_; rintro e w4 ⟨a3, n3, q3, rfl, r1, g4⟩; obtain ⟨LA, HA, LB, HB, O1, O2, RA, RB, QA, QB, HD⟩ : ∃ la ha lb hb, OwnI la ha w4 (.slice a3 n3 q3) tl ∧ OwnI lb hb w4 (.slice a4 n4 q4) tr ∧ wr.heap.size ≤ la ∧ wr.heap.size ≤ lb ∧ ha ≤ w4.heap.size ∧ hb ≤ w4.heap.size ∧ (ha ≤ lb ∨ hb ≤ la) := ⟨_, _, _, _, r1, r2.below g4, HZ3, HZ0, Nat.le_refl _, g4.size, .inr (Nat.le_refl _)⟩; have HB4 := HB3.step g4; have HA4 := Bel.alloc0 w4 (.cells #[.bool p, .slice a3 n3 q3, .slice a4 n4 q4] 53); obtain ⟨zs, hown, hzl, hnext⟩ := HROW.out.step HB4 HA4 O1 O2 RA RB QA QB HD hbz p; have HZ4 : w.heap.size ≤ (w4.alloc (.cells #[.bool p, .slice a3 n3 q3, .slice a4 n4 q4] 53)).heap.size := Nat.le_trans hbz (HB4.step HA4).size; have HN := news_lit w4 (.bool p) (encS (a3, n3, q3)) (encS (a4, n4, q4)) 53 w4.heap.size rfl; have k14 := g4.at (World.block_lt_of_cell? _ ⟨_, _, none⟩ k13) k13; have k24 := g4.at (World.block_lt_of_cell? _ ⟨_, _, none⟩ k23) k23; have k34 := g4.at (World.block_lt_of_cell? _ ⟨_, _, none⟩ k33) k33; have m1 := HA4.at (World.block_lt_of_cell? _ ⟨_, _, none⟩ k14) k14; have m2 := HA4.at (World.block_lt_of_cell? _ ⟨_, _, none⟩ k24) k24; have m3 := HA4.at (World.block_lt_of_cell? _ ⟨_, _, none⟩ k34) k34)
          | (go_at_call 70; refine (HL.out _ HB0).mono ?_; rintro e w3 ⟨a3, n3, q3, rfl, r1, g3⟩; have HB3 := HB0.step g3; have HZ3 := Nat.le_trans HZ0 g3.size; have k13 := g3.at (World.block_lt_of_cell? _ ⟨_, _, none⟩ k1) k1; have k23 := g3.at (World.block_lt_of_cell? _ ⟨_, _, none⟩ k2) k2; have k33 := g3.at (World.block_lt_of_cell? _ ⟨_, _, none⟩ k3) k3)
          | (go_at_call 70; refine (HR.out _ HB0).mono ?_; rintro e w3 ⟨a4, n4, q4, rfl, r2, g3⟩; have HB3 := HB0.step g3; have HZ3 := Nat.le_trans HZ0 g3.size; have k13 := g3.at (World.block_lt_of_cell? _ ⟨_, _, none⟩ k1) k1; have k23 := g3.at (World.block_lt_of_cell? _ ⟨_, _, none⟩ k2) k2; have k33 := g3.at (World.block_lt_of_cell? _ ⟨_, _, none⟩ k3) k3)
          | fail)
      all_goals
        go_wp2_with fail
        go_roundw
        case rel => exact ⟨k+1, by omega, by go_num, by rw [HTK.out]; have e := hzl.trans hlen0.out; rw [e] at HR5; exact HR5, HB5⟩
        case measure => simp [intOf]; omega
    · have ek : c.take k = c := List.take_of_length_le (by omega)
      rw [ek] at hrow
      obtain ⟨a5, c5, rfl⟩ := hrow.form
      have HO := Lib.hid hrow.own
      clear hrow
      go_wp2_with fail
      go_ret
      exact ⟨_, _, _, rfl, HO.out, hb⟩

set_option maxRecDepth 100000 in
set_option maxHeartbeats 1000000 in
theorem l4Own_c (l h : Nat) (v : Value) (c : List Lt) (w : World) (hx : shortC c) (hv : SlC l h w v c) :
    Calls Tryz.prog 69 #[v] w (RetC w c) := by
  obtain ⟨ad, cap, rfl⟩ := hv.form
  go_enter Tryz.func69, Tryz.ntmps69
  have hx0 := hx.1
  go_wp2_with fail
  go_loopw [3, 8] (fun o i wr => ∃ k : Nat, k ≤ c.length ∧ i = .int .i64 k ∧ RowCO w.heap.size wr o (c.take k) ∧ Bel w wr) (fun _ i _ => c.length - (intOf i).toNat)
  case atStart => exact ⟨0, Nat.zero_le _, rfl, RowCO.nil _ _, Bel.rfl' _⟩
  case round =>
    obtain ⟨k, hk, rfl, hrow, hb⟩ := hrel
    by_cases hlt : k < c.length
    · obtain ⟨b1, off, u1, u2, rfl, hbs, c1, c2, c3, s1, s2⟩ := hv.at hb k hlt
      have HTK := Lib.hid (show c.take (k+1) = c.take k ++ [c.getD k lt0] by rw [List.take_succ_eq_append_getElem hlt]; simp [List.getD, hlt])
      have hlen0 := Lib.hid (show (c.take k).length = k by simp; omega)
      obtain ⟨hm1, hm2⟩ := hx.2 k hlt
      have hin1 : (k : Int) < c.length := by omega
      have HROW := Lib.hid hrow
      have hbz := hb.size
      have HBK := hrow.blk
      generalize c.getD k lt0 = x at *
      obtain ⟨p, xl, xr⟩ := x
      simp only at *
      obtain ⟨a1, d1, rfl⟩ := s1.form
      obtain ⟨a2, d2, rfl⟩ := s2.form
      have HL := Lib.hid (fun (w' : World) (hq : Bel wr w') => l1Own_c _ _ _ _ w' hm1 (s1.below hq))
      have HR := Lib.hid (fun (w' : World) (hq : Bel wr w') => l1Own_c _ _ _ _ w' hm2 (s2.below hq))
      obtain ⟨tl, htl⟩ : ∃ tl, tl = xl := ⟨_, rfl⟩
      obtain ⟨tr, htr⟩ : ∃ tr, tr = xr := ⟨_, rfl⟩
      rw [← htl, ← htr] at HTK
      have HL2 : Hid (∀ w', Bel wr w' → Calls Tryz.prog 102 #[.slice a1 xl.length d1] w' (RetI w' tl)) := by rw [htl]; exact HL
      have HR2 : Hid (∀ w', Bel wr w' → Calls Tryz.prog 102 #[.slice a2 xr.length d2] w' (RetI w' tr)) := by rw [htr]; exact HR
      clear HL HR htl htr
      have HL := HL2
      have HR := HR2
      clear HL2 HR2
      have HB0 : Bel wr (wr.alloc (.cells #[.bool p, .slice a1 xl.length d1, .slice a2 xr.length d2] 53)).drew := (Bel.alloc0 _ _).drew
      have HZ0 : wr.heap.size ≤ (wr.alloc (.cells #[.bool p, .slice a1 xl.length d1, .slice a2 xr.length d2] 53)).drew.heap.size := HB0.size
      have k1 : (wr.alloc (.cells #[.bool p, .slice a1 xl.length d1, .slice a2 xr.length d2] 53)).drew.cell? ⟨wr.heap.size, 0, none⟩ = some (.bool p) := boxc ((Bel.rfl' _).drew) 0 _ rfl
      have k2 : (wr.alloc (.cells #[.bool p, .slice a1 xl.length d1, .slice a2 xr.length d2] 53)).drew.cell? ⟨wr.heap.size, 1, none⟩ = some (.slice a1 xl.length d1) := boxc ((Bel.rfl' _).drew) 1 _ rfl
      have k3 : (wr.alloc (.cells #[.bool p, .slice a1 xl.length d1, .slice a2 xr.length d2] 53)).drew.cell? ⟨wr.heap.size, 2, none⟩ = some (.slice a2 xr.length d2) := boxc ((Bel.rfl' _).drew) 2 _ rfl
      clear hv s1 s2 hrow 
      go_wp2_with fail
      go_region_held_law (fun w' => w'.cell? ⟨wr.heap.size, 0, none⟩ = some (.bool p) ∧ w'.cell? ⟨wr.heap.size, 1, none⟩ = some (.slice a1 xl.length d1) ∧ w'.cell? ⟨wr.heap.size, 2, none⟩ = some (.slice a2 xr.length d2))
        (first | exact ⟨t1, t2, t3⟩ | exact ⟨m1, m2, m3⟩ | exact ⟨k14, k24, k34⟩ | exact ⟨k13, k23, k33⟩ | exact ⟨k1, k2, k3⟩ | fail)
        (first
          | (refine step_append_litO rfl (.tmp 12) (.tmp 22) 23 rfl rfl w.heap.size _ zs rfl hown w4.heap.size p (a3, n3, q3) (a4, n4, q4) rfl HN (by rw [hzl, hlen0.out]; omega) HZ4 ?_; intro b5 k5 w5 R5 hg5 hat5; have HR5 := hnext w5 _ R5 hg5 hat5; have t1 := hg5.cell m1 (fun e => Nat.lt_irrefl _ (HBK _ e.symm).2); have t2 := hg5.cell m2 (fun e => Nat.lt_irrefl _ (HBK _ e.symm).2); have t3 := hg5.cell m3 (fun e => Nat.lt_irrefl _ (HBK _ e.symm).2); have HB5 := (hb.step (HB4.step HA4)).grown hg5 (fun q hq => (HBK q hq).1))
          | (go_at_call 102; refine (HR.out _ HB3).mono ?_; rintro e w4 ⟨a4, n4, q4, rfl, r2, g4⟩; obtain ⟨LA, HA, LB, HB, O1, O2, RA, RB, QA, QB, HD⟩ : ∃ la ha lb hb, OwnI la ha w4 (.slice a3 n3 q3) tl ∧ OwnI lb hb w4 (.slice a4 n4 q4) tr ∧ wr.heap.size ≤ la ∧ wr.heap.size ≤ lb ∧ ha ≤ w4.heap.size ∧ hb ≤ w4.heap.size ∧ (ha ≤ lb ∨ hb ≤ la) := ⟨_, _, _, _, r1.below g4, r2, HZ0, HZ3, g4.size, Nat.le_refl _, .inl (Nat.le_refl _)⟩; have HB4 := HB3.step g4; have HA4 := Bel.alloc0 w4 (.cells #[.bool p, .slice a3 n3 q3, .slice a4 n4 q4] 53); obtain ⟨zs, hown, hzl, hnext⟩ := HROW.out.step HB4 HA4 O1 O2 RA RB QA QB HD hbz p; have HZ4 : w.heap.size ≤ (w4.alloc (.cells #[.bool p, .slice a3 n3 q3, .slice a4 n4 q4] 53)).heap.size := Nat.le_trans hbz (HB4.step HA4).size; have HN := news_lit w4 (.bool p) (encS (a3, n3, q3)) (encS (a4, n4, q4)) 53 w4.heap.size rfl; have k14 := g4.at (World.block_lt_of_cell? _ ⟨_, _, none⟩ k13) k13; have k24 := g4.at (World.block_lt_of_cell? _ ⟨_, _, none⟩ k23) k23; have k34 := g4.at (World.block_lt_of_cell? _ ⟨_, _, none⟩ k33) k33; have m1 := HA4.at (World.block_lt_of_cell? _ ⟨_, _, none⟩ k14) k14; have m2 := HA4.at (World.block_lt_of_cell? _ ⟨_, _, none⟩ k24) k24; have m3 := HA4.at (World.block_lt_of_cell? _ ⟨_, _, none⟩ k34) k34)
          | (go_at_call 102; refine (HL.out _ HB3).mono ?_; rintro e w4 ⟨a3, n3, q3, rfl, r1, g4⟩; obtain ⟨LA, HA, LB, HB, O1, O2, RA, RB, QA, QB, HD⟩ : ∃ la ha lb hb, OwnI la ha w4 (.slice a3 n3 q3) tl ∧ OwnI lb hb w4 (.slice a4 n4 q4) tr ∧ wr.heap.size ≤ la ∧ wr.heap.size ≤ lb ∧ ha ≤ w4.heap.size ∧ hb ≤ w4.heap.size ∧ (ha ≤ lb ∨ hb ≤ la) := ⟨_, _, _, _, r1, r2.below g4, HZ3, HZ0, Nat.le_refl _, g4.size, .inr (Nat.le_refl _)⟩; have HB4 := HB3.step g4; have HA4 := Bel.alloc0 w4 (.cells #[.bool p, .slice a3 n3 q3, .slice a4 n4 q4] 53); obtain ⟨zs, hown, hzl, hnext⟩ := HROW.out.step HB4 HA4 O1 O2 RA RB QA QB HD hbz p; have HZ4 : w.heap.size ≤ (w4.alloc (.cells #[.bool p, .slice a3 n3 q3, .slice a4 n4 q4] 53)).heap.size := Nat.le_trans hbz (HB4.step HA4).size; have HN := news_lit w4 (.bool p) (encS (a3, n3, q3)) (encS (a4, n4, q4)) 53 w4.heap.size rfl; have k14 := g4.at (World.block_lt_of_cell? _ ⟨_, _, none⟩ k13) k13; have k24 := g4.at (World.block_lt_of_cell? _ ⟨_, _, none⟩ k23) k23; have k34 := g4.at (World.block_lt_of_cell? _ ⟨_, _, none⟩ k33) k33; have m1 := HA4.at (World.block_lt_of_cell? _ ⟨_, _, none⟩ k14) k14; have m2 := HA4.at (World.block_lt_of_cell? _ ⟨_, _, none⟩ k24) k24; have m3 := HA4.at (World.block_lt_of_cell? _ ⟨_, _, none⟩ k34) k34)
          | (go_at_call 102; refine (HL.out _ HB0).mono ?_; rintro e w3 ⟨a3, n3, q3, rfl, r1, g3⟩; have HB3 := HB0.step g3; have HZ3 := Nat.le_trans HZ0 g3.size; have k13 := g3.at (World.block_lt_of_cell? _ ⟨_, _, none⟩ k1) k1; have k23 := g3.at (World.block_lt_of_cell? _ ⟨_, _, none⟩ k2) k2; have k33 := g3.at (World.block_lt_of_cell? _ ⟨_, _, none⟩ k3) k3)
          | (go_at_call 102; refine (HR.out _ HB0).mono ?_; rintro e w3 ⟨a4, n4, q4, rfl, r2, g3⟩; have HB3 := HB0.step g3; have HZ3 := Nat.le_trans HZ0 g3.size; have k13 := g3.at (World.block_lt_of_cell? _ ⟨_, _, none⟩ k1) k1; have k23 := g3.at (World.block_lt_of_cell? _ ⟨_, _, none⟩ k2) k2; have k33 := g3.at (World.block_lt_of_cell? _ ⟨_, _, none⟩ k3) k3)
          | fail)
      all_goals
        go_wp2_with fail
        go_roundw
        case rel => exact ⟨k+1, by omega, by go_num, by rw [HTK.out]; have e := hzl.trans hlen0.out; rw [e] at HR5; exact HR5, HB5⟩
        case measure => simp [intOf]; omega
    · have ek : c.take k = c := List.take_of_length_le (by omega)
      rw [ek] at hrow
      obtain ⟨a5, c5, rfl⟩ := hrow.form
      have HO := Lib.hid hrow.own
      clear hrow
      go_wp2_with fail
      go_ret
      exact ⟨_, _, _, rfl, HO.out, hb⟩
end Go.Proofs.YteegjnobmbcjiaaGreatDoor
end
section
/- A row of literals of the call's own, whose terms lie in older memory. -/
namespace Go.Proofs.YteegjnobmbcjiaaGreatDoor
open Go.RowKit

def RowCV (W wr : World) (v : Value) (c : List Lt) : Prop :=
  ∃ zs : List LV, RowC W.heap.size wr v zs ∧ zs.length = c.length ∧ ∀ j z, zs[j]? = some z → z.1 = (c.getD j lt0).1 ∧ SlI 0 W.heap.size W z.2.1 (c.getD j lt0).2.1 ∧ SlI 0 W.heap.size W z.2.2 (c.getD j lt0).2.2
theorem RowCV.nil (W wr : World) : RowCV W wr (.slice none 0 0) [] := ⟨[], RowC.nil _ _, rfl, fun j z h => by simp at h⟩
theorem RowCV.bel {W wr w2 : World} {v : Value} {c : List Lt} (h : RowCV W wr v c) (hb : Bel wr w2) : RowCV W w2 v c := by
  obtain ⟨zs, ho, h1, h2⟩ := h
  exact ⟨zs, ownsRow_bel ho hb, h1, h2⟩
theorem RowCV.form {W wr : World} {v : Value} {c : List Lt} (h : RowCV W wr v c) : ∃ ad k, v = .slice ad c.length k := by
  obtain ⟨zs, ho, h1, h2⟩ := h
  obtain ⟨ad, n, k, rfl⟩ := own_form ho
  exact ⟨ad, k, by rw [row_len3 ho, h1]⟩
theorem RowCV.slc {W wr : World} {v : Value} {c : List Lt} (h : RowCV W wr v c) (hb : Bel W wr) : SlC 0 wr.heap.size wr v c := by
  obtain ⟨zs, ho, h1, h2⟩ := h
  have h0 := ho
  rcases ho.2 with ⟨rfl, hn⟩ | ⟨g, cap, cur, rfl, hg, hh, hn, hc, hs, ht⟩
  · obtain rfl : c = [] := List.length_eq_zero_iff.1 (by omega)
    exact SlC.nil _ _ _
  · have hgs : g < wr.heap.size := (Array.getElem?_eq_some_iff.1 hh).1
    refine ⟨_, cap, by rw [h1], by omega, ⟨hc, fun h => by simp at h⟩, fun hp => ⟨g, 0, rfl, Nat.zero_le _, hgs, fun j hj => ?_⟩⟩
    have hz : zs[j]? = some zs[j] := List.getElem?_eq_getElem (by omega)
    obtain ⟨e1, s1, s2⟩ := h2 j _ hz
    obtain ⟨t0, t1, t2⟩ := cellsC_get zs j _ hz
    refine ⟨zs[j].2.1, zs[j].2.2, ?_, ?_, ?_, (s1.below hb).mono (Nat.le_refl _) hb.size, (s2.below hb).mono (Nat.le_refl _) hb.size⟩
    · rw [Nat.zero_add, h0.cellAt _ (by omega), t0, e1]
    · rw [Nat.zero_add, h0.cellAt _ (by omega), t1]
    · rw [Nat.zero_add, h0.cellAt _ (by omega), t2]
theorem RowCV.snoc {W wr : World} {v' : Value} {zs : List LV} {c : List Lt} {z : LV} {x : Lt} (h1 : zs.length = c.length) (h2 : ∀ j z, zs[j]? = some z → z.1 = (c.getD j lt0).1 ∧ SlI 0 W.heap.size W z.2.1 (c.getD j lt0).2.1 ∧ SlI 0 W.heap.size W z.2.2 (c.getD j lt0).2.2)
    (hz : z.1 = x.1 ∧ SlI 0 W.heap.size W z.2.1 x.2.1 ∧ SlI 0 W.heap.size W z.2.2 x.2.2) (ho : RowC W.heap.size wr v' (zs ++ [z])) : RowCV W wr v' (c ++ [x]) := by
  refine ⟨zs ++ [z], ho, by simp [h1], fun j y hj => ?_⟩
  by_cases e : j < zs.length
  · rw [List.getElem?_append_left e] at hj
    have := h2 j y hj
    rwa [show (c ++ [x]).getD j lt0 = c.getD j lt0 from by simp [List.getD, List.getElem?_append_left (show j < c.length by omega)]]
  · have hlt := (List.getElem?_eq_some_iff.1 hj).1
    simp at hlt
    obtain rfl : j = zs.length := by omega
    rw [List.getElem?_append_right (Nat.le_refl _), Nat.sub_self] at hj
    simp at hj
    subst hj
    rwa [show (c ++ [x]).getD zs.length lt0 = x from by rw [h1]; simp [List.getD]]
end Go.Proofs.YteegjnobmbcjiaaGreatDoor
end
section
/- Chapter 4, the reference: TidyClause. -/
namespace Go.Proofs.YteegjnobmbcjiaaGreatDoor
open Go.RowKit

theorem tidyStep_len1 (out : List Lt) (x : Lt) : (tidyStep out x).length ≤ out.length + 1 ∧ ∀ y ∈ tidyStep out x, y ∈ out ∨ y = x := by
  unfold tidyStep
  split
  · exact ⟨by omega, fun y h => .inl h⟩
  · split
    · exact ⟨by omega, fun y h => .inl h⟩
    · exact ⟨by simp, fun y h => by simpa using h⟩
theorem tidy_all (c : List Lt) (k : Nat) (hk : k ≤ c.length) : (tidyC (c.take k)).length ≤ k ∧ ∀ y ∈ tidyC (c.take k), y ∈ c := by
  induction k with
  | zero => simp [tidyC]
  | succ k ih =>
    obtain ⟨h1, h2⟩ := ih (by omega)
    rw [tidyC_snoc c k (by omega)]
    obtain ⟨g1, g2⟩ := tidyStep_len1 (tidyC (c.take k)) (c.getD k lt0)
    refine ⟨by omega, fun y hy => ?_⟩
    rcases g2 y hy with h | rfl
    · exact h2 y h
    · exact mem_getD c lt0 k (by omega)
theorem tidy_all' (c : List Lt) (k : Nat) : (tidyC (c.take k)).length ≤ c.length ∧ ∀ y ∈ tidyC (c.take k), y ∈ c := by
  by_cases h : k ≤ c.length
  · obtain ⟨h1, h2⟩ := tidy_all c k h
    exact ⟨by omega, h2⟩
  · have e : c.take k = c.take c.length := by rw [List.take_length, List.take_of_length_le (by omega)]
    rw [e]
    exact tidy_all c c.length (Nat.le_refl _)
theorem tidy_len (c : List Lt) (k : Nat) : (tidyC (c.take k)).length ≤ c.length := (tidy_all' c k).1
theorem tidy_short {c : List Lt} (hx : shortC c) (k : Nat) : ∀ j, j < (tidyC (c.take k)).length → ((tidyC (c.take k)).getD j lt0).2.1.length ≤ 1048576 ∧ ((tidyC (c.take k)).getD j lt0).2.2.length ≤ 1048576 := fun j hj => by
  have hm := (tidy_all' c k).2 _ (mem_getD _ lt0 j hj)
  obtain ⟨i, hi, e⟩ := List.getElem_of_mem hm
  have := hx.2 i hi
  rwa [show c.getD i lt0 = (tidyC (c.take k)).getD j lt0 from by rw [← e]; simp [List.getD, hi]] at this

set_option maxRecDepth 100000 in
set_option maxHeartbeats 2000000 in
theorem l4Tidy_c (l h : Nat) (v : Value) (c : List Lt) (w : World) (hx : shortC c) (hv : SlC l h w v c) :
    Calls Tryz.prog 109 #[v] w (RetC w (tidyC c)) := by
  obtain ⟨i0, hi0, hz0, hz1, hz2⟩ := info_parts Tryz.info53
  obtain ⟨ad, cap, rfl⟩ := hv.form
  have hx0 := hx.1
  go_enter Tryz.func109, Tryz.ntmps109
  go_wp2_with fail
  go_loopw [3, 11] (fun o i wr => ∃ k : Nat, k ≤ c.length ∧ i = .int .i64 k ∧ RowCV w wr o (tidyC (c.take k)) ∧ Bel w wr) (fun _ i _ => c.length - (intOf i).toNat)
  case atStart => exact ⟨0, Nat.zero_le _, rfl, RowCV.nil _ _, Bel.rfl' _⟩
  case round =>
    obtain ⟨k, hk, rfl, hrow, hb⟩ := hrel
    by_cases hlt : k < c.length
    · obtain ⟨b, off, u1, u2, rfl, hbs, e0, e1', e2', s1, s2⟩ := hv.at (Bel.rfl' w) k hlt
      have c1 := hb.at (World.block_lt_of_cell? _ ⟨_, _, none⟩ e0) e0
      have c2 := hb.at (World.block_lt_of_cell? _ ⟨_, _, none⟩ e1') e1'
      have c3 := hb.at (World.block_lt_of_cell? _ ⟨_, _, none⟩ e2') e2'
      obtain ⟨hm1, hm2⟩ := hx.2 k hlt
      have hin1 : (k : Int) < c.length := by omega
      have HSTEP := Lib.hid (tidyC_snoc c k hlt)
      have hdl := tidy_len c k
      have hds := tidy_short hx k
      generalize tidyC (c.take k) = d at *
      obtain ⟨a1, d1, rfl⟩ := s1.form
      obtain ⟨a2, d2, rfl⟩ := s2.form
      have HSM := Lib.hid (fun (w' : World) (hq : Bel wr w') (y : Lt) (q1 q2 : Value) (g3 : y.2.1.length ≤ 1048576) (g4 : y.2.2.length ≤ 1048576) (t1 : SlI 0 w'.heap.size w' q1 y.2.1) (t2 : SlI 0 w'.heap.size w' q2 y.2.2) =>
        l4SameTerms_c l h _ _ (c.getD k lt0) y _ _ q1 q2 w' hm1 hm2 g3 g4 (s1.below (hb.step hq)) (s2.below (hb.step hq)) t1 t2)
      have HL1 := Lib.hid (fun (q : Bool) (hq : decide ((c.getD k lt0).2.1 = (c.getD k lt0).2.2) = q) (w' : World) (hb' : Bel wr w') => l1Same_w l h l h _ _ _ _ q w' hq hm1 hm2 (s1.below (hb.step hb')) (s2.below (hb.step hb')))
      have HS1 := Lib.hid s1.in'
      have HS2 := Lib.hid s2.in'
      have HROW : Hid (∀ w', Bel wr w' → RowCV w w' _ d) := fun w' hq => hrow.bel hq
      obtain ⟨ao, co, rfl⟩ := hrow.form
      generalize c.getD k lt0 = x at *
      obtain ⟨p, xl, xr⟩ := x
      simp only at c1 c2 c3 hm1 hm2 HSM HL1 HS1 HS2
      have HK : Hid (∀ w', Bel (wr.alloc (.cells #[.bool p, .slice a1 xl.length d1, .slice a2 xr.length d2] 53)) w' → w'.cell? ⟨wr.heap.size, 0, none⟩ = some (.bool p) ∧ w'.cell? ⟨wr.heap.size, 1, none⟩ = some (.slice a1 xl.length d1) ∧ w'.cell? ⟨wr.heap.size, 2, none⟩ = some (.slice a2 xr.length d2)) := fun w' hb => ⟨boxc hb 0 _ rfl, boxc hb 1 _ rfl, boxc hb 2 _ rfl⟩
      clear s1 s2 hrow e0 e1' e2' hv
      cases p with
      | true =>
        have HSTEP : tidyC (c.take (k+1)) = if d.any (eqvL (true, xl, xr)) then d else d ++ [(true, xl, xr)] := HSTEP.out
        clear HL1
        obtain ⟨y0, y1, y2⟩ := HK.out _ (Bel.rfl' _)
        go_wp2_with fail
        go_loopw [6, 27] (fun th i w6 => ∃ j : Nat, j ≤ d.length ∧ i = .int .i64 j ∧ th = .bool ((d.take j).any (eqvL (true, xl, xr))) ∧ Bel (wr.alloc (.cells #[.bool true, .slice a1 xl.length d1, .slice a2 xr.length d2] 53)) w6) (fun _ i _ => d.length - (intOf i).toNat)
        case atStart => exact ⟨0, Nat.zero_le _, rfl, by simp, Bel.rfl' _⟩
        case round =>
          obtain ⟨j, hj, rfl, rfl, h0⟩ := hrel
          have hrV := HROW.out _ h0.of_alloc
          by_cases hjk : j < d.length
          · obtain ⟨b', off', v1, v2, eb, hbs', f0, f1', f2', r1, r2⟩ := (hrV.slc (hb.step h0.of_alloc)).at (Bel.rfl' _) j hjk
            obtain ⟨hn1, hn2⟩ := hds j hjk
            subst eb
            have hin3 : (j : Int) < d.length := by omega
            have HTK : Hid ((d.take (j+1)).any (eqvL (true, xl, xr)) = ((d.take j).any (eqvL (true, xl, xr)) || eqvL (true, xl, xr) (d.getD j lt0))) := by
              show _ = _
              rw [List.take_succ_eq_append_getElem hjk, List.any_append]
              simp [List.getD, hjk]
            generalize d.getD j lt0 = y at *
            obtain ⟨q, yl, yr⟩ := y
            simp only at f0 f1' f2' r1 r2 hn1 hn2
            obtain ⟨g1, f1, rfl⟩ := r1.form
            obtain ⟨g2, f2, rfl⟩ := r2.form
            have hcall := fun (w' : World) (hq : Bel wr w') => HSM.out w' (h0.of_alloc.step hq) (q, yl, yr) _ _ hn1 hn2 (r1.below hq).in' (r2.below hq).in'
            obtain ⟨x0, x1, x2⟩ := HK.out _ (h0.alloc (.cells #[.bool q, .slice g1 yl.length f1, .slice g2 yr.length f2] 53))
            generalize (d.take j).any (eqvL (true, xl, xr)) = th at *
            cases th with
            | true =>
              have E : Hid ((d.take (j+1)).any (eqvL (true, xl, xr)) = true) := by show _ = _; rw [HTK.out]; rfl
              clear hcall r1 r2 hrV HTK
              go_wp2_with fail
              go_roundw
              case rel => exact ⟨j+1, by omega, by go_num, by rw [E.out], h0.alloc _⟩
              case measure => simp [intOf]; omega
            | false =>
              cases q with
              | false =>
                have E : Hid ((d.take (j+1)).any (eqvL (true, xl, xr)) = false) := by show _ = _; rw [HTK.out]; rfl
                clear hcall r1 r2 hrV HTK
                go_wp2_with fail
                go_roundw
                case rel => exact ⟨j+1, by omega, by go_num, by rw [E.out], h0.alloc _⟩
                case measure => simp [intOf]; omega
              | true =>
                have E : Hid ((d.take (j+1)).any (eqvL (true, xl, xr)) = sameTs (true, xl, xr) (true, yl, yr)) := by show _ = _; rw [HTK.out]; show (false || ((_ == _) && _)) = _; simp
                generalize sameTs (true, xl, xr) (true, yl, yr) = r at *
                have HC := Lib.hid hcall
                clear hcall r1 r2 hrV HTK
                go_wp2_with fail
                refine (HC.out _ (Bel.alloc0 _ _)).mono ?_; rintro e w5 ⟨rfl, hb5⟩
                go_wp2_with fail
                go_roundw
                case rel => exact ⟨j+1, by omega, by go_num, by rw [E.out], h0.step hb5.of_alloc⟩
                case measure => simp [intOf]; omega
          · have ed : d.take j = d := List.take_of_length_le (by omega)
            rw [ed]
            have hjj : j = d.length := by omega
            clear ed
            obtain ⟨zs, hzo, hzl, hze⟩ := hrV
            have hHR := HROW.out
            obtain ⟨x0, x1, x2⟩ := HK.out _ h0
            have HST2 : Hid (tidyC (c.take (k+1)) = if d.any (eqvL (true, xl, xr)) then d else d ++ [(true, xl, xr)]) := HSTEP
            generalize d.any (eqvL (true, xl, xr)) = th at *
            cases th with
            | true =>
              have HR2 := Lib.hid (hHR _ h0.of_alloc)
              clear hHR hzo hze
              go_wp2_with fail
              go_roundw
              case rel => exact ⟨k+1, by omega, by go_num, by rw [HST2.out]; exact HR2.out, hb.step h0.of_alloc⟩
              case measure => simp [intOf]; omega
            | false =>
              have hown : RowC w.heap.size (wr.alloc (.cells #[.bool true, .slice a1 xl.length d1, .slice a2 xr.length d2] 53)) _ zs := ownsRow_bel hzo (Bel.alloc0 _ _)
              have hbz := (hb.step h0.of_alloc).size
              have HZE := Lib.hid hze
              clear hHR hzo hze
              go_wp2_with (at_builtin; refine wpList_append_own _ rfl _ _ 30 rfl w.heap.size 53 i0 (.agg #[.bool false, .slice none 0 0, .slice none 0 0]) 3 56 Tryz.underlying30 hi0 hz0 hz1 hz2 rfl (by decide) _ _ _ rfl hown _ _ _ [.bool true, .slice a1 xl.length d1, .slice a2 xr.length d2] rfl rfl (news_lit _ _ _ _ _ _ rfl) (one_lit _ _ _ _ _ _ _) (by unfold maxLen; omega) (by omega) (by simp; omega) ?_; intro v' w4 hown' hgrow _)
              go_roundw
              case rel =>
                refine ⟨k+1, by omega, by go_num, ?_, ((hb.step h0.of_alloc).alloc _).grown hgrow (fun q hq => own_base hown q hq)⟩
                rw [HST2.out]
                refine RowCV.snoc (z := (true, .slice a1 xl.length d1, .slice a2 xr.length d2)) hzl HZE.out ⟨rfl, HS1.out, HS2.out⟩ ?_
                show World.ownsRow _ _ _ _ _ _ _
                rw [cellsC_app, List.length_append]
                exact hown'
              case measure => simp [intOf]; omega
      | false =>
        have HL := HL1.out _ rfl
        have HST0 : Hid (tidyC (c.take (k+1)) = if decide (xl = xr) then d else if d.any (eqvL (false, xl, xr)) then d else d ++ [(false, xl, xr)]) := HSTEP
        clear HL1 HSTEP
        generalize decide (xl = xr) = e1 at *
        have HLL := Lib.hid HL
        clear HL
        cases e1 with
        | true =>
          have E : Hid (tidyC (c.take (k+1)) = d) := by show _ = _; rw [HST0.out]; rfl
          clear HST0 HSM
          go_wp2_with fail
          refine (HLL.out _ (Bel.alloc0 _ _)).mono ?_; rintro e w1 ⟨rfl, hb1⟩
          go_wp2_with fail
          go_roundw
          case rel => exact ⟨k+1, by omega, by go_num, by rw [E.out]; exact HROW.out _ hb1.of_alloc, hb.step hb1.of_alloc⟩
          case measure => simp [intOf]; omega
        | false =>
          have HSTEP : tidyC (c.take (k+1)) = if d.any (eqvL (false, xl, xr)) then d else d ++ [(false, xl, xr)] := HST0.out
          go_wp2_with fail
          refine (HLL.out _ (Bel.alloc0 _ _)).mono ?_; rintro e w1 ⟨rfl, hb1⟩
          clear HLL HST0
          go_wp2_with fail
          go_loopw [6, 27] (fun th i w6 => ∃ j : Nat, j ≤ d.length ∧ i = .int .i64 j ∧ th = .bool ((d.take j).any (eqvL (false, xl, xr))) ∧ Bel (wr.alloc (.cells #[.bool false, .slice a1 xl.length d1, .slice a2 xr.length d2] 53)) w6) (fun _ i _ => d.length - (intOf i).toNat)
          case atStart => exact ⟨0, Nat.zero_le _, rfl, by simp, hb1⟩
          case round =>
            obtain ⟨j, hj, rfl, rfl, h0⟩ := hrel
            have hrV := HROW.out _ h0.of_alloc
            by_cases hjk : j < d.length
            · obtain ⟨b', off', v1, v2, eb, hbs', f0, f1', f2', r1, r2⟩ := (hrV.slc (hb.step h0.of_alloc)).at (Bel.rfl' _) j hjk
              obtain ⟨hn1, hn2⟩ := hds j hjk
              subst eb
              have hin3 : (j : Int) < d.length := by omega
              have HTK : Hid ((d.take (j+1)).any (eqvL (false, xl, xr)) = ((d.take j).any (eqvL (false, xl, xr)) || eqvL (false, xl, xr) (d.getD j lt0))) := by
                show _ = _
                rw [List.take_succ_eq_append_getElem hjk, List.any_append]
                simp [List.getD, hjk]
              generalize d.getD j lt0 = y at *
              obtain ⟨q, yl, yr⟩ := y
              simp only at f0 f1' f2' r1 r2 hn1 hn2
              obtain ⟨g1, f1, rfl⟩ := r1.form
              obtain ⟨g2, f2, rfl⟩ := r2.form
              have hcall := fun (w' : World) (hq : Bel wr w') => HSM.out w' (h0.of_alloc.step hq) (q, yl, yr) _ _ hn1 hn2 (r1.below hq).in' (r2.below hq).in'
              obtain ⟨x0, x1, x2⟩ := HK.out _ (h0.alloc (.cells #[.bool q, .slice g1 yl.length f1, .slice g2 yr.length f2] 53))
              generalize (d.take j).any (eqvL (false, xl, xr)) = th at *
              cases th with
              | true =>
                have E : Hid ((d.take (j+1)).any (eqvL (false, xl, xr)) = true) := by show _ = _; rw [HTK.out]; rfl
                clear hcall r1 r2 hrV HTK
                go_wp2_with fail
                go_roundw
                case rel => exact ⟨j+1, by omega, by go_num, by rw [E.out], h0.alloc _⟩
                case measure => simp [intOf]; omega
              | false =>
                cases q with
                | true =>
                  have E : Hid ((d.take (j+1)).any (eqvL (false, xl, xr)) = false) := by show _ = _; rw [HTK.out]; rfl
                  clear hcall r1 r2 hrV HTK
                  go_wp2_with fail
                  go_roundw
                  case rel => exact ⟨j+1, by omega, by go_num, by rw [E.out], h0.alloc _⟩
                  case measure => simp [intOf]; omega
                | false =>
                  have E : Hid ((d.take (j+1)).any (eqvL (false, xl, xr)) = sameTs (false, xl, xr) (false, yl, yr)) := by show _ = _; rw [HTK.out]; show (false || ((_ == _) && _)) = _; simp
                  generalize sameTs (false, xl, xr) (false, yl, yr) = r at *
                  have HC := Lib.hid hcall
                  clear hcall r1 r2 hrV HTK
                  go_wp2_with fail
                  refine (HC.out _ (Bel.alloc0 _ _)).mono ?_; rintro e w5 ⟨rfl, hb5⟩
                  go_wp2_with fail
                  go_roundw
                  case rel => exact ⟨j+1, by omega, by go_num, by rw [E.out], h0.step hb5.of_alloc⟩
                  case measure => simp [intOf]; omega
            · have ed : d.take j = d := List.take_of_length_le (by omega)
              rw [ed]
              have hjj : j = d.length := by omega
              clear ed
              obtain ⟨zs, hzo, hzl, hze⟩ := hrV
              have hHR := HROW.out
              obtain ⟨x0, x1, x2⟩ := HK.out _ h0
              have HST2 : Hid (tidyC (c.take (k+1)) = if d.any (eqvL (false, xl, xr)) then d else d ++ [(false, xl, xr)]) := HSTEP
              generalize d.any (eqvL (false, xl, xr)) = th at *
              cases th with
              | true =>
                have HR2 := Lib.hid (hHR _ h0.of_alloc)
                clear hHR hzo hze
                go_wp2_with fail
                go_roundw
                case rel => exact ⟨k+1, by omega, by go_num, by rw [HST2.out]; exact HR2.out, hb.step h0.of_alloc⟩
                case measure => simp [intOf]; omega
              | false =>
                have hown : RowC w.heap.size (wr.alloc (.cells #[.bool false, .slice a1 xl.length d1, .slice a2 xr.length d2] 53)) _ zs := ownsRow_bel hzo (Bel.alloc0 _ _)
                have hbz := (hb.step h0.of_alloc).size
                have HZE := Lib.hid hze
                clear hHR hzo hze
                go_wp2_with (at_builtin; refine wpList_append_own _ rfl _ _ 30 rfl w.heap.size 53 i0 (.agg #[.bool false, .slice none 0 0, .slice none 0 0]) 3 56 Tryz.underlying30 hi0 hz0 hz1 hz2 rfl (by decide) _ _ _ rfl hown _ _ _ [.bool false, .slice a1 xl.length d1, .slice a2 xr.length d2] rfl rfl (news_lit _ _ _ _ _ _ rfl) (one_lit _ _ _ _ _ _ _) (by unfold maxLen; omega) (by omega) (by simp; omega) ?_; intro v' w4 hown' hgrow _)
                go_roundw
                case rel =>
                  refine ⟨k+1, by omega, by go_num, ?_, ((hb.step h0.of_alloc).alloc _).grown hgrow (fun q hq => own_base hown q hq)⟩
                  rw [HST2.out]
                  refine RowCV.snoc (z := (false, .slice a1 xl.length d1, .slice a2 xr.length d2)) hzl HZE.out ⟨rfl, HS1.out, HS2.out⟩ ?_
                  show World.ownsRow _ _ _ _ _ _ _
                  rw [cellsC_app, List.length_append]
                  exact hown'
                case measure => simp [intOf]; omega
    · have ek : c.take k = c := List.take_of_length_le (by omega)
      rw [ek] at hrow
      have hown := fun (w' : World) (hq : Bel wr w') => l4Own_c 0 _ _ (tidyC c) w' (by have := tidy_short hx c.length; have h2 := tidy_len c c.length; rw [List.take_length] at this h2; exact ⟨by omega, this⟩) ((hrow.slc hb).below hq)
      have HO := Lib.hid hown
      obtain ⟨ao, co, rfl⟩ := hrow.form
      generalize tidyC c = r at *
      clear hrow hv hown ek
      go_wp2_with fail
      refine (HO.out _ (Bel.rfl' _)).mono ?_; rintro e w1 ⟨a2, n2, c2, rfl, o2, hb1⟩
      go_wp2_with fail
      go_ret
      exact ⟨_, _, _, rfl, o2.mono hb.size (Nat.le_refl _), hb.step hb1⟩
end Go.Proofs.YteegjnobmbcjiaaGreatDoor
end
section
/- Chapter 4, the reference: tautologies. -/
namespace Go.Proofs.YteegjnobmbcjiaaGreatDoor
open Go.RowKit

theorem taut_out {c : List Lt} {k : Nat} (hk : k < c.length) (h : tautAt c k = true) : tautC c = true := List.any_eq_true.2 ⟨k, by simpa using hk, h⟩
theorem taut_none {c : List Lt} (h : ∀ k, k < c.length → tautAt c k = false) : tautC c = false := by
  unfold tautC
  rw [List.any_eq_false]
  intro k hk
  simp [h k (by simpa using hk)]

end Go.Proofs.YteegjnobmbcjiaaGreatDoor
end
section
/- Chapter 4: IsTautology, both sides. -/
namespace Go.Proofs.YteegjnobmbcjiaaGreatDoor
open Go.RowKit

theorem sameTs_symm {x y : Lt} (h : sameTs x y = true) : sameTs y x = true := by
  simp only [sameTs, Bool.or_eq_true, Bool.and_eq_true, decide_eq_true_iff] at *
  rcases h with ⟨a, b⟩ | ⟨a, b⟩
  · exact .inl ⟨a.symm, b.symm⟩
  · exact .inr ⟨b.symm, a.symm⟩
theorem take_mem {c : List Lt} {i j : Nat} (hij : i < j) (hj : j < c.length) : c.getD i lt0 ∈ c.take j := by
  have : (c.take j)[i]? = some (c.getD i lt0) := by rw [List.getElem?_take, if_pos hij, List.getElem?_eq_getElem (by omega)]; simp [List.getD, show i < c.length by omega]
  exact List.mem_of_getElem? this
theorem taut_pair {c : List Lt} {i j : Nat} (hi : i < c.length) (hj : j < c.length) (hp : (c.getD i lt0).1 ≠ (c.getD j lt0).1) (hs : sameTs (c.getD i lt0) (c.getD j lt0) = true) : tautC c = true := by
  rcases Nat.lt_trichotomy i j with h | h | h
  · refine taut_out hj ?_
    unfold tautAt
    rw [Bool.or_eq_true]
    refine .inr (List.any_eq_true.2 ⟨_, take_mem h hj, ?_⟩)
    rw [sameTs_symm hs, Bool.and_true]; exact bne_iff_ne.2 (Ne.symm hp)
  · subst h; exact absurd rfl hp
  · refine taut_out hi ?_
    unfold tautAt
    rw [Bool.or_eq_true]
    refine .inr (List.any_eq_true.2 ⟨_, take_mem h hi, ?_⟩)
    rw [hs, Bool.and_true]; exact bne_iff_ne.2 hp
theorem taut_keys {c : List Lt} (hk : ∀ x ∈ c, inKeyL x) : tautK (c.map keyL) = tautC c := by
  have hidx : ∀ x ∈ c, ∃ i, i < c.length ∧ c.getD i lt0 = x := fun x hx => by
    obtain ⟨i, hi, rfl⟩ := List.getElem_of_mem hx
    exact ⟨i, hi, by simp [List.getD, hi]⟩
  rw [Bool.eq_iff_iff]
  constructor
  · intro h
    obtain ⟨k, hkm, hc⟩ := List.any_eq_true.1 h
    obtain ⟨x, hx, rfl⟩ := List.mem_map.1 hkm
    rw [Bool.or_eq_true] at hc
    obtain ⟨i, hi, rfl⟩ := hidx x hx
    rcases hc with hc | hc
    · refine taut_out hi ?_
      unfold tautAt
      rw [Bool.or_eq_true]
      rw [keyL_triv (hk _ hx)] at hc
      exact .inl hc
    · obtain ⟨y', hym, hc⟩ := List.any_eq_true.1 hc
      obtain ⟨y, hy, rfl⟩ := List.mem_map.1 hym
      obtain ⟨j, hj, rfl⟩ := hidx y hy
      have hc := of_decide_eq_true hc
      have h1 : (!(c.getD i lt0).1) = (c.getD j lt0).1 := by have := congrArg Prod.fst hc; exact this
      have h2 : (keyL (c.getD i lt0)).2 = (keyL (c.getD j lt0)).2 := by have := congrArg Prod.snd hc; exact this
      have h3 := keyL_same (hk _ hx) (hk _ hy)
      rw [decide_eq_true h2] at h3
      exact taut_pair hi hj (by rw [← h1]; simp) h3.symm
  · intro h
    unfold tautC at h
    obtain ⟨i, hi, hc⟩ := List.any_eq_true.1 h
    have hi : i < c.length := by simpa using hi
    have hx := mem_getD c lt0 i hi
    unfold tautAt at hc
    rw [Bool.or_eq_true] at hc
    refine List.any_eq_true.2 ⟨keyL (c.getD i lt0), List.mem_map.2 ⟨_, hx, rfl⟩, ?_⟩
    rw [Bool.or_eq_true]
    rcases hc with hc | hc
    · exact .inl (by rw [keyL_triv (hk _ hx)]; exact hc)
    · obtain ⟨y, hy, hc⟩ := List.any_eq_true.1 hc
      have hy := List.mem_of_mem_take hy
      simp only [Bool.and_eq_true] at hc
      refine .inr (List.any_eq_true.2 ⟨keyL y, List.mem_map.2 ⟨_, hy, rfl⟩, decide_eq_true ?_⟩)
      have h3 := keyL_same (hk _ hx) (hk _ hy)
      rw [hc.2] at h3
      refine Prod.ext ?_ (of_decide_eq_true h3)
      show (!(c.getD i lt0).1) = y.1
      have := bne_iff_ne.1 hc.1
      revert this
      generalize (c.getD i lt0).1 = p
      generalize y.1 = q
      intro this
      cases p <;> cases q <;> simp_all
theorem goodSign_len10 {ar : List Int} (h : goodSign ar = true) : ar.length ≤ 10 := by
  simp [goodSign, inB] at h
  omega
theorem good_keys {ar : List Int} {c : List Lt} (h : goodClause ar c = true) : ∀ x ∈ c, inKeyL x ∧ x.2.1.length ≤ 40 ∧ x.2.2.length ≤ 40 := fun x hx => by
  obtain ⟨h1, _, h3⟩ := goodClause_iff.1 h
  have hl := goodSign_len10 h1
  have := okLit_iff.1 (h3 x hx)
  exact ⟨ok_inKeyL hl (h3 x hx), (okTerm_len this.1).2, (okTerm_len this.2).2⟩

end Go.Proofs.YteegjnobmbcjiaaGreatDoor
end
section
/- Chapter 4, the program: TidyClause. -/
namespace Go.Proofs.YteegjnobmbcjiaaGreatDoor
open Go.RowKit

theorem any_congr {α : Type} {l : List α} {f g : α → Bool} (h : ∀ y ∈ l, f y = g y) : l.any f = l.any g := by
  induction l with
  | nil => rfl
  | cons x r ih => rw [List.any_cons, List.any_cons, h x (by simp), ih fun y hy => h y (by simp [hy])]
theorem key_box {w w' : World} {p : Bool} {lo hi : ByteArray} {t : TypeId} (hb : Bel (w.alloc (.cells #[.bool p, .string lo, .string hi] t)) w') : w'.cell? ⟨w.heap.size, 0, none⟩ = some (.bool p) ∧ w'.cell? ⟨w.heap.size, 1, none⟩ = some (.string lo) ∧ w'.cell? ⟨w.heap.size, 2, none⟩ = some (.string hi) :=
  ⟨boxc hb 0 _ rfl, boxc hb 1 _ rfl, boxc hb 2 _ rfl⟩

set_option maxRecDepth 100000 in
set_option maxHeartbeats 2000000 in
theorem tidied_c (l h : Nat) (v : Value) (c : List Lt) (w : World) (hx : c.length ≤ 8) (hok : ∀ x ∈ c, inKeyL x ∧ x.2.1.length ≤ 40 ∧ x.2.2.length ≤ 40) (hv : SlC l h w v c) :
    Calls Tryz.prog 81 #[v] w (RetC w (tidyC c)) := by
  obtain ⟨i1, hi1, hy0, hy1, hy2⟩ := info_parts Tryz.info141
  obtain ⟨ad, cap, rfl⟩ := hv.form
  go_enter Tryz.func81, Tryz.ntmps81
  go_wp2_with fail
  go_loopw [3, 4, 10] (fun o s i wr => ∃ k : Nat, k ≤ c.length ∧ i = .int .i64 k ∧ RowCA w.heap.size wr o (tidyC (c.take k)) s.ownBlock ∧ RowK w.heap.size wr s ((tidyC (c.take k)).map keyL) ∧ Bel w wr) (fun _ _ i _ => c.length - (intOf i).toNat)
  case atStart => exact ⟨0, Nat.zero_le _, rfl, RowCA.nil _ _ _, RowK.nil _ _, Bel.rfl' _⟩
  case round =>
    obtain ⟨k, hk, rfl, hra, hrk, hb⟩ := hrel
    by_cases hlt : k < c.length
    · obtain ⟨b, off, u1, u2, rfl, hbs, e0, e1', e2', s1, s2⟩ := hv.at (Bel.rfl' w) k hlt
      have c1 := hb.at (World.block_lt_of_cell? _ ⟨_, _, none⟩ e0) e0
      have c2 := hb.at (World.block_lt_of_cell? _ ⟨_, _, none⟩ e1') e1'
      have c3 := hb.at (World.block_lt_of_cell? _ ⟨_, _, none⟩ e2') e2'
      have hin1 : (k : Int) < c.length := by omega
      obtain ⟨ok1, ok2, ok3⟩ := hok _ (mem_getD c lt0 k hlt)
      have HSTEP := tidyC_snoc c k hlt
      have hdl := tidy_len c k
      have hANY : (((tidyC (c.take k)).map keyL).any fun y => decide (keyL (c.getD k lt0) = y)) = (tidyC (c.take k)).any (eqvL (c.getD k lt0)) := by
        rw [List.any_map]
        refine any_congr fun y hy => ?_
        exact keyL_eq ok1 (hok y ((tidy_all' c k).2 y hy)).1
      have hTRIV := keyL_triv ok1
      obtain ⟨ks, hks⟩ : ∃ ks, (tidyC (c.take k)).map keyL = ks := ⟨_, rfl⟩
      rw [hks] at hrk hANY
      have hkl : ks.length ≤ 8 := by rw [← hks, List.length_map]; omega
      generalize tidyC (c.take k) = d at *
      generalize c.getD k lt0 = x at *
      obtain ⟨p, xl, xr⟩ := x
      simp only at c1 c2 c3 s1 s2 ok2 ok3 hTRIV
      obtain ⟨lo, hi, hKX⟩ : ∃ lo hi, keyL (p, xl, xr) = (p, lo, hi) := ⟨_, _, rfl⟩
      have hkey := fun (w' : World) (hq : Bel wr w') => keyOf_k l h (p, xl, xr) u1 u2 w' ok2 ok3 ok1 (s1.below (hb.step hq)) (s2.below (hb.step hq))
      rw [hKX] at hkey hANY hTRIV
      simp only at hkey hTRIV
      obtain ⟨a1, d1, rfl⟩ := s1.form
      obtain ⟨a2, d2, rfl⟩ := s2.form
      have HKEY := Lib.hid hkey
      have HS1 := Lib.hid s1
      have HS2 := Lib.hid s2
      have HKS : Hid (d.map keyL = ks) := hks
      have hbz := hb.size
      have HC := Lib.hid (fun (w' : World) (hq : Bel wr w') => containsK_c w.heap.size _ ks (p, lo, hi) w' (by omega) (ownsRow_bel hrk hq))
      have hstep2 : tidyC (c.take (k+1)) = if !p && decide (xl = xr) then d else if d.any (eqvL (p, xl, xr)) then d else d ++ [(p, xl, xr)] := HSTEP
      rw [← hANY] at hstep2
      rw [← hTRIV] at hstep2
      clear s1 s2 hkey e0 e1' e2' hv HSTEP hok ok1 hANY hTRIV hks
      cases p with
      | true =>
        simp only [Bool.not_true, Bool.false_and, Bool.false_eq_true, if_false] at hstep2
        generalize (ks.any fun y => decide ((true, lo, hi) = y)) = q at *
        cases q with
        | true =>
          have E : Hid (tidyC (c.take (k+1)) = d) := hstep2
          have hrk0 := hrk
          go_wp2_with fail
          refine (HKEY.out _ (Bel.alloc0 _ _)).mono ?_; rintro e w1 ⟨rfl, hb1⟩
          go_wp2_with fail
          refine (HC.out _ (hb1.of_alloc.step (Bel.alloc0 _ _))).mono ?_; rintro e w2 ⟨rfl, hb2⟩
          go_wp2_with fail
          go_roundw
          case rel =>
            have hB := (hb1.of_alloc.step (Bel.alloc0 w1 (.cells #[.bool true, .string lo, .string hi] 141))).step hb2
            exact ⟨k+1, by omega, by go_num, by rw [E.out]; exact hra.bel hB, by rw [E.out, HKS.out]; exact ownsRow_bel hrk hB, hb.step hB⟩
          case measure => simp [intOf]; omega
        | false =>
          have HKEEP : tidyC (c.take (k+1)) = d ++ [(true, xl, xr)] := hstep2
          go_wp2_with fail
          refine (HKEY.out _ (Bel.alloc0 _ _)).mono ?_; rintro e w1 ⟨rfl, hb1⟩
          go_wp2_with fail
          refine (HC.out _ (hb1.of_alloc.step (Bel.alloc0 _ _))).mono ?_; rintro e w2 ⟨rfl, hb2⟩
          have hzz : Bel (w1.alloc (.cells #[.bool true, .string lo, .string hi] 141)) w2 := hb2
          have HE : Hid (tidyC (c.take (k+1)) = d ++ [(true, xl, xr)]) := HKEEP
          have HEK : Hid ((tidyC (c.take (k+1))).map keyL = ks ++ [(true, lo, hi)]) := by show _ = _; rw [HE.out, List.map_append, HKS.out]; exact congrArg (fun q => ks ++ [q]) hKX
          have Hwz := (hb1.of_alloc.step (Bel.alloc0 w1 (.cells #[.bool true, .string lo, .string hi] 141))).step hzz
          have z0 := boxc hzz 0 _ rfl
          have z1 := boxc hzz 1 _ rfl
          have z2 := boxc hzz 2 _ rfl
          have hr1 : RowK w.heap.size (w2.alloc (.cells #[.bool true, .string lo, .string hi] 141)) _ ks := ownsRow_bel hrk (Hwz.step (Bel.alloc0 _ _))
          have hzs := Hwz.size
          have HRA1 := Lib.hid (hra.bel (Hwz.step (Bel.alloc0 w2 (.cells #[.bool true, .string lo, .string hi] 141))))
          have hbk := hra.blk
          have hsk := hrk.lt
          have hbA : Bel (wr.alloc (.cells #[.bool true, .slice a1 xl.length d1, .slice a2 xr.length d2] 53)) (w2.alloc (.cells #[.bool true, .string lo, .string hi] 141)) := (hb1.step (Bel.alloc0 w1 (.cells #[.bool true, .string lo, .string hi] 141))).step (hzz.alloc (.cells #[.bool true, .string lo, .string hi] 141))
          clear hra HC
          go_wp2_with (at_builtin; refine wpList_append_own_at _ rfl _ _ 139 rfl w.heap.size 141 i1 (.agg #[.bool false, .string ⟨#[]⟩, .string ⟨#[]⟩]) 3 40 Tryz.underlying139 hi1 hy0 hy1 hy2 rfl (by decide) _ _ _ rfl hr1 _ _ _ [.bool true, .string lo, .string hi] rfl rfl (news_key _ (true, lo, hi) _ _ rfl) (one_key (true, lo, hi)) (by unfold maxLen; omega) (by omega) (by simp; omega) ?_; intro v' w6 hown' hgrow _ hat)
          have HRA6 := Lib.hid (HRA1.out.seen hgrow hat)
          have HRK6 : Hid (RowK w.heap.size w6 v' (ks ++ [(true, lo, hi)])) := by
            show World.ownsRow _ _ _ _ _ _ _
            rw [cellsK_app, List.length_append]
            exact hown'
          have hal : ∀ g, v'.ownBlock = some g → g < w6.heap.size := fun g hg => (hown'.lt g hg).2
          have HAL := Lib.hid hal
          have hBw6 := ((hb.step Hwz).alloc (.cells #[.bool true, .string lo, .string hi] 141)).grown hgrow (fun q hq => (hsk q hq).1)
          have hbz6 := hBw6.size
          have hbr6 : wr.heap.size ≤ w6.heap.size := Nat.le_trans (Hwz.step (Bel.alloc0 _ (.cells #[.bool true, .string lo, .string hi] 141))).size hgrow.size
          have hne6 : some wr.heap.size ≠ _ := fun e => Nat.lt_irrefl _ (hsk _ e.symm).2
          have q0 := hgrow.cell (boxc hbA 0 _ rfl) hne6
          have q1 := hgrow.cell (boxc hbA 1 _ rfl) hne6
          have q2 := hgrow.cell (boxc hbA 2 _ rfl) hne6
          have HL := Lib.hid (fun (w' : World) (hq : Bel w6 w') => clone_c _ _ _ xl w' (by omega) (HS1.out.below (hBw6.step hq)))
          have HR := Lib.hid (fun (w' : World) (hq : Bel w6 w') => clone_c _ _ _ xr w' (by omega) (HS2.out.below (hBw6.step hq)))
          obtain ⟨xl', hxl'⟩ : ∃ y, y = xl := ⟨_, rfl⟩
          obtain ⟨xr', hxr'⟩ : ∃ y, y = xr := ⟨_, rfl⟩
          have HL : Hid (∀ w', Bel w6 w' → Calls Tryz.prog 122 #[.slice a1 xl.length d1] w' (RetI w' xl')) := by rw [hxl']; exact HL
          have HR : Hid (∀ w', Bel w6 w' → Calls Tryz.prog 122 #[.slice a2 xr.length d2] w' (RetI w' xr')) := by rw [hxr']; exact HR
          rw [← hxl', ← hxr'] at HE
          have HB7 : Bel w6 w6.drew := Bel.drew0 _
          have HZ7 : w6.heap.size ≤ w6.drew.heap.size := HB7.size
          have k1 := HB7.at (World.block_lt_of_cell? _ ⟨_, _, none⟩ q0) q0
          have k2 := HB7.at (World.block_lt_of_cell? _ ⟨_, _, none⟩ q1) q1
          have k3 := HB7.at (World.block_lt_of_cell? _ ⟨_, _, none⟩ q2) q2
          clear hxl' hxr' hown' hal hr1 hrk q0 q1 q2 hbA HRA1 hgrow hat z0 z1 z2
          go_wp2_with fail
          go_region_held_law (fun w' => w'.cell? ⟨wr.heap.size, 0, none⟩ = some (.bool true) ∧ w'.cell? ⟨wr.heap.size, 1, none⟩ = some (.slice a1 xl.length d1) ∧ w'.cell? ⟨wr.heap.size, 2, none⟩ = some (.slice a2 xr.length d2))
            (first | exact ⟨t1, t2, t3⟩ | exact ⟨m1, m2, m3⟩ | exact ⟨k14, k24, k34⟩ | exact ⟨k13, k23, k33⟩ | exact ⟨k1, k2, k3⟩ | fail)
            (first
              | (refine step_append_litO rfl (.tmp 32) (.tmp 42) 43 rfl rfl w.heap.size _ zs rfl hown w9.heap.size true (a3, n3, q3) (a4, n4, q4) rfl HN (by omega) HZ9 ?_; intro b5 k5 w10 R5 hg5 hat5; have HR5 := hnext w10 _ R5 hg5 hat5; have HK10 := (ownsRow_bel HRK6.out (HB9.step HA9)).kept hg5 HRA6.out.ne; have t1 := hg5.cell m1 (fun e => Nat.lt_irrefl _ (hbk _ e.symm).2); have t2 := hg5.cell m2 (fun e => Nat.lt_irrefl _ (hbk _ e.symm).2); have t3 := hg5.cell m3 (fun e => Nat.lt_irrefl _ (hbk _ e.symm).2); have HB10 := (hBw6.step (HB9.step HA9)).grown hg5 (fun q hq => (hbk q hq).1))
              | (go_at_call 122; refine (HR.out _ HB8).mono ?_; rintro e w9 ⟨a4, n4, q4, rfl, r2, g9⟩; obtain ⟨LA, HA, LB, HB, O1, O2, RA, RB, QA, QB, HD⟩ : ∃ la ha lb hb, OwnI la ha w9 (.slice a3 n3 q3) xl' ∧ OwnI lb hb w9 (.slice a4 n4 q4) xr' ∧ w6.heap.size ≤ la ∧ w6.heap.size ≤ lb ∧ ha ≤ w9.heap.size ∧ hb ≤ w9.heap.size ∧ (ha ≤ lb ∨ hb ≤ la) := ⟨_, _, _, _, r1.below g9, r2, HZ7, HZ8, g9.size, Nat.le_refl _, .inl (Nat.le_refl _)⟩; have HB9 := HB8.step g9; have HA9 := Bel.alloc0 w9 (.cells #[.bool true, .slice a3 n3 q3, .slice a4 n4 q4] 53); obtain ⟨zs, hown, hzl, hnext⟩ := HRA6.out.step HAL.out HB9 HA9 O1 O2 RA RB QA QB HD hbz6 true; have HZ9 : w.heap.size ≤ (w9.alloc (.cells #[.bool true, .slice a3 n3 q3, .slice a4 n4 q4] 53)).heap.size := Nat.le_trans hbz6 (HB9.step HA9).size; have HN := news_lit w9 (.bool true) (encS (a3, n3, q3)) (encS (a4, n4, q4)) 53 w9.heap.size rfl; have k14 := g9.at (World.block_lt_of_cell? _ ⟨_, _, none⟩ k13) k13; have k24 := g9.at (World.block_lt_of_cell? _ ⟨_, _, none⟩ k23) k23; have k34 := g9.at (World.block_lt_of_cell? _ ⟨_, _, none⟩ k33) k33; have m1 := HA9.at (World.block_lt_of_cell? _ ⟨_, _, none⟩ k14) k14; have m2 := HA9.at (World.block_lt_of_cell? _ ⟨_, _, none⟩ k24) k24; have m3 := HA9.at (World.block_lt_of_cell? _ ⟨_, _, none⟩ k34) k34)
              | (go_at_call 122; refine (HL.out _ HB8).mono ?_; rintro e w9 ⟨a3, n3, q3, rfl, r1, g9⟩; obtain ⟨LA, HA, LB, HB, O1, O2, RA, RB, QA, QB, HD⟩ : ∃ la ha lb hb, OwnI la ha w9 (.slice a3 n3 q3) xl' ∧ OwnI lb hb w9 (.slice a4 n4 q4) xr' ∧ w6.heap.size ≤ la ∧ w6.heap.size ≤ lb ∧ ha ≤ w9.heap.size ∧ hb ≤ w9.heap.size ∧ (ha ≤ lb ∨ hb ≤ la) := ⟨_, _, _, _, r1, r2.below g9, HZ8, HZ7, Nat.le_refl _, g9.size, .inr (Nat.le_refl _)⟩; have HB9 := HB8.step g9; have HA9 := Bel.alloc0 w9 (.cells #[.bool true, .slice a3 n3 q3, .slice a4 n4 q4] 53); obtain ⟨zs, hown, hzl, hnext⟩ := HRA6.out.step HAL.out HB9 HA9 O1 O2 RA RB QA QB HD hbz6 true; have HZ9 : w.heap.size ≤ (w9.alloc (.cells #[.bool true, .slice a3 n3 q3, .slice a4 n4 q4] 53)).heap.size := Nat.le_trans hbz6 (HB9.step HA9).size; have HN := news_lit w9 (.bool true) (encS (a3, n3, q3)) (encS (a4, n4, q4)) 53 w9.heap.size rfl; have k14 := g9.at (World.block_lt_of_cell? _ ⟨_, _, none⟩ k13) k13; have k24 := g9.at (World.block_lt_of_cell? _ ⟨_, _, none⟩ k23) k23; have k34 := g9.at (World.block_lt_of_cell? _ ⟨_, _, none⟩ k33) k33; have m1 := HA9.at (World.block_lt_of_cell? _ ⟨_, _, none⟩ k14) k14; have m2 := HA9.at (World.block_lt_of_cell? _ ⟨_, _, none⟩ k24) k24; have m3 := HA9.at (World.block_lt_of_cell? _ ⟨_, _, none⟩ k34) k34)
              | (go_at_call 122; refine (HL.out _ HB7).mono ?_; rintro e w8 ⟨a3, n3, q3, rfl, r1, g8⟩; have HB8 := HB7.step g8; have HZ8 := Nat.le_trans HZ7 g8.size; have k13 := g8.at (World.block_lt_of_cell? _ ⟨_, _, none⟩ k1) k1; have k23 := g8.at (World.block_lt_of_cell? _ ⟨_, _, none⟩ k2) k2; have k33 := g8.at (World.block_lt_of_cell? _ ⟨_, _, none⟩ k3) k3)
              | (go_at_call 122; refine (HR.out _ HB7).mono ?_; rintro e w8 ⟨a4, n4, q4, rfl, r2, g8⟩; have HB8 := HB7.step g8; have HZ8 := Nat.le_trans HZ7 g8.size; have k13 := g8.at (World.block_lt_of_cell? _ ⟨_, _, none⟩ k1) k1; have k23 := g8.at (World.block_lt_of_cell? _ ⟨_, _, none⟩ k2) k2; have k33 := g8.at (World.block_lt_of_cell? _ ⟨_, _, none⟩ k3) k3)
              | fail)
          all_goals
            have hzd : zs.length = d.length := hzl
            go_wp2_with fail
            go_roundw
            case rel =>
              refine ⟨k+1, by omega, by go_num, ?_, ?_, HB10⟩
              · rw [HE.out]; first | exact HR5 | (rw [hzd] at HR5; exact HR5)
              · rw [HEK.out]; exact HK10
            case measure => simp [intOf]; omega
      | false =>
        simp only [Bool.not_false, Bool.true_and] at hstep2
        have HSA := Lib.hid (fun (w' : World) => isSame_c false lo hi w')
        generalize decide (lo = hi) = r at *
        cases r with
        | true =>
          have E : Hid (tidyC (c.take (k+1)) = d) := hstep2
          go_wp2_with fail
          refine (HKEY.out _ (Bel.alloc0 _ _)).mono ?_; rintro e w1 ⟨rfl, hb1⟩
          go_wp2_with fail
          refine (HSA.out _).mono ?_; rintro e w2 ⟨rfl, hb2⟩
          go_wp2_with fail
          go_roundw
          case rel =>
            have hB := (hb1.of_alloc.step (Bel.alloc0 w1 (.cells #[.bool false, .string lo, .string hi] 141))).step hb2
            exact ⟨k+1, by omega, by go_num, by rw [E.out]; exact hra.bel hB, by rw [E.out, HKS.out]; exact ownsRow_bel hrk hB, hb.step hB⟩
          case measure => simp [intOf]; omega
        | false =>
          simp only [Bool.false_eq_true, if_false] at hstep2
          generalize (ks.any fun y => decide ((false, lo, hi) = y)) = q at *
          cases q with
          | true =>
            have E : Hid (tidyC (c.take (k+1)) = d) := hstep2
            go_wp2_with fail
            refine (HKEY.out _ (Bel.alloc0 _ _)).mono ?_; rintro e w1 ⟨rfl, hb1⟩
            go_wp2_with fail
            refine (HSA.out _).mono ?_; rintro e w2 ⟨rfl, hb2⟩
            obtain ⟨z0, z1, z2⟩ := key_box hb2
            go_wp2_with fail
            refine (HC.out _ ((hb1.of_alloc.step (Bel.alloc0 _ _)).step hb2)).mono ?_; rintro e w3 ⟨rfl, hb3⟩
            go_wp2_with fail
            go_roundw
            case rel =>
              have hB := ((hb1.of_alloc.step (Bel.alloc0 w1 (.cells #[.bool false, .string lo, .string hi] 141))).step hb2).step hb3
              exact ⟨k+1, by omega, by go_num, by rw [E.out]; exact hra.bel hB, by rw [E.out, HKS.out]; exact ownsRow_bel hrk hB, hb.step hB⟩
            case measure => simp [intOf]; omega
          | false =>
            have HKEEP : tidyC (c.take (k+1)) = d ++ [(false, xl, xr)] := hstep2
            go_wp2_with fail
            refine (HKEY.out _ (Bel.alloc0 _ _)).mono ?_; rintro e w1 ⟨rfl, hb1⟩
            go_wp2_with fail
            refine (HSA.out _).mono ?_; rintro e w2 ⟨rfl, hb2⟩
            obtain ⟨z0, z1, z2⟩ := key_box hb2
            go_wp2_with fail
            refine (HC.out _ ((hb1.of_alloc.step (Bel.alloc0 _ _)).step hb2)).mono ?_; rintro e w3 ⟨rfl, hb3⟩
            clear z0 z1 z2
            have hzz : Bel (w1.alloc (.cells #[.bool false, .string lo, .string hi] 141)) w3 := hb2.step hb3
            have HE : Hid (tidyC (c.take (k+1)) = d ++ [(false, xl, xr)]) := HKEEP
            have HEK : Hid ((tidyC (c.take (k+1))).map keyL = ks ++ [(false, lo, hi)]) := by show _ = _; rw [HE.out, List.map_append, HKS.out]; exact congrArg (fun q => ks ++ [q]) hKX
            have Hwz := (hb1.of_alloc.step (Bel.alloc0 w1 (.cells #[.bool false, .string lo, .string hi] 141))).step hzz
            have z0 := boxc hzz 0 _ rfl
            have z1 := boxc hzz 1 _ rfl
            have z2 := boxc hzz 2 _ rfl
            have hr1 : RowK w.heap.size (w3.alloc (.cells #[.bool false, .string lo, .string hi] 141)) _ ks := ownsRow_bel hrk (Hwz.step (Bel.alloc0 _ _))
            have hzs := Hwz.size
            have HRA1 := Lib.hid (hra.bel (Hwz.step (Bel.alloc0 w3 (.cells #[.bool false, .string lo, .string hi] 141))))
            have hbk := hra.blk
            have hsk := hrk.lt
            have hbA : Bel (wr.alloc (.cells #[.bool false, .slice a1 xl.length d1, .slice a2 xr.length d2] 53)) (w3.alloc (.cells #[.bool false, .string lo, .string hi] 141)) := (hb1.step (Bel.alloc0 w1 (.cells #[.bool false, .string lo, .string hi] 141))).step (hzz.alloc (.cells #[.bool false, .string lo, .string hi] 141))
            clear hra HC
            go_wp2_with (at_builtin; refine wpList_append_own_at _ rfl _ _ 139 rfl w.heap.size 141 i1 (.agg #[.bool false, .string ⟨#[]⟩, .string ⟨#[]⟩]) 3 40 Tryz.underlying139 hi1 hy0 hy1 hy2 rfl (by decide) _ _ _ rfl hr1 _ _ _ [.bool false, .string lo, .string hi] rfl rfl (news_key _ (false, lo, hi) _ _ rfl) (one_key (false, lo, hi)) (by unfold maxLen; omega) (by omega) (by simp; omega) ?_; intro v' w6 hown' hgrow _ hat)
            have HRA6 := Lib.hid (HRA1.out.seen hgrow hat)
            have HRK6 : Hid (RowK w.heap.size w6 v' (ks ++ [(false, lo, hi)])) := by
              show World.ownsRow _ _ _ _ _ _ _
              rw [cellsK_app, List.length_append]
              exact hown'
            have hal : ∀ g, v'.ownBlock = some g → g < w6.heap.size := fun g hg => (hown'.lt g hg).2
            have HAL := Lib.hid hal
            have hBw6 := ((hb.step Hwz).alloc (.cells #[.bool false, .string lo, .string hi] 141)).grown hgrow (fun q hq => (hsk q hq).1)
            have hbz6 := hBw6.size
            have hbr6 : wr.heap.size ≤ w6.heap.size := Nat.le_trans (Hwz.step (Bel.alloc0 _ (.cells #[.bool false, .string lo, .string hi] 141))).size hgrow.size
            have hne6 : some wr.heap.size ≠ _ := fun e => Nat.lt_irrefl _ (hsk _ e.symm).2
            have q0 := hgrow.cell (boxc hbA 0 _ rfl) hne6
            have q1 := hgrow.cell (boxc hbA 1 _ rfl) hne6
            have q2 := hgrow.cell (boxc hbA 2 _ rfl) hne6
            have HL := Lib.hid (fun (w' : World) (hq : Bel w6 w') => clone_c _ _ _ xl w' (by omega) (HS1.out.below (hBw6.step hq)))
            have HR := Lib.hid (fun (w' : World) (hq : Bel w6 w') => clone_c _ _ _ xr w' (by omega) (HS2.out.below (hBw6.step hq)))
            obtain ⟨xl', hxl'⟩ : ∃ y, y = xl := ⟨_, rfl⟩
            obtain ⟨xr', hxr'⟩ : ∃ y, y = xr := ⟨_, rfl⟩
            have HL : Hid (∀ w', Bel w6 w' → Calls Tryz.prog 122 #[.slice a1 xl.length d1] w' (RetI w' xl')) := by rw [hxl']; exact HL
            have HR : Hid (∀ w', Bel w6 w' → Calls Tryz.prog 122 #[.slice a2 xr.length d2] w' (RetI w' xr')) := by rw [hxr']; exact HR
            rw [← hxl', ← hxr'] at HE
            have HB7 : Bel w6 w6.drew := Bel.drew0 _
            have HZ7 : w6.heap.size ≤ w6.drew.heap.size := HB7.size
            have k1 := HB7.at (World.block_lt_of_cell? _ ⟨_, _, none⟩ q0) q0
            have k2 := HB7.at (World.block_lt_of_cell? _ ⟨_, _, none⟩ q1) q1
            have k3 := HB7.at (World.block_lt_of_cell? _ ⟨_, _, none⟩ q2) q2
            clear hxl' hxr' hown' hal hr1 hrk q0 q1 q2 hbA HRA1 hgrow hat z0 z1 z2
            go_wp2_with fail
            go_region_held_law (fun w' => w'.cell? ⟨wr.heap.size, 0, none⟩ = some (.bool false) ∧ w'.cell? ⟨wr.heap.size, 1, none⟩ = some (.slice a1 xl.length d1) ∧ w'.cell? ⟨wr.heap.size, 2, none⟩ = some (.slice a2 xr.length d2))
              (first | exact ⟨t1, t2, t3⟩ | exact ⟨m1, m2, m3⟩ | exact ⟨k14, k24, k34⟩ | exact ⟨k13, k23, k33⟩ | exact ⟨k1, k2, k3⟩ | fail)
              (first
                | (refine step_append_litO rfl (.tmp 32) (.tmp 42) 43 rfl rfl w.heap.size _ zs rfl hown w9.heap.size false (a3, n3, q3) (a4, n4, q4) rfl HN (by omega) HZ9 ?_; intro b5 k5 w10 R5 hg5 hat5; have HR5 := hnext w10 _ R5 hg5 hat5; have HK10 := (ownsRow_bel HRK6.out (HB9.step HA9)).kept hg5 HRA6.out.ne; have t1 := hg5.cell m1 (fun e => Nat.lt_irrefl _ (hbk _ e.symm).2); have t2 := hg5.cell m2 (fun e => Nat.lt_irrefl _ (hbk _ e.symm).2); have t3 := hg5.cell m3 (fun e => Nat.lt_irrefl _ (hbk _ e.symm).2); have HB10 := (hBw6.step (HB9.step HA9)).grown hg5 (fun q hq => (hbk q hq).1))
                | (go_at_call 122; refine (HR.out _ HB8).mono ?_; rintro e w9 ⟨a4, n4, q4, rfl, r2, g9⟩; obtain ⟨LA, HA, LB, HB, O1, O2, RA, RB, QA, QB, HD⟩ : ∃ la ha lb hb, OwnI la ha w9 (.slice a3 n3 q3) xl' ∧ OwnI lb hb w9 (.slice a4 n4 q4) xr' ∧ w6.heap.size ≤ la ∧ w6.heap.size ≤ lb ∧ ha ≤ w9.heap.size ∧ hb ≤ w9.heap.size ∧ (ha ≤ lb ∨ hb ≤ la) := ⟨_, _, _, _, r1.below g9, r2, HZ7, HZ8, g9.size, Nat.le_refl _, .inl (Nat.le_refl _)⟩; have HB9 := HB8.step g9; have HA9 := Bel.alloc0 w9 (.cells #[.bool false, .slice a3 n3 q3, .slice a4 n4 q4] 53); obtain ⟨zs, hown, hzl, hnext⟩ := HRA6.out.step HAL.out HB9 HA9 O1 O2 RA RB QA QB HD hbz6 false; have HZ9 : w.heap.size ≤ (w9.alloc (.cells #[.bool false, .slice a3 n3 q3, .slice a4 n4 q4] 53)).heap.size := Nat.le_trans hbz6 (HB9.step HA9).size; have HN := news_lit w9 (.bool false) (encS (a3, n3, q3)) (encS (a4, n4, q4)) 53 w9.heap.size rfl; have k14 := g9.at (World.block_lt_of_cell? _ ⟨_, _, none⟩ k13) k13; have k24 := g9.at (World.block_lt_of_cell? _ ⟨_, _, none⟩ k23) k23; have k34 := g9.at (World.block_lt_of_cell? _ ⟨_, _, none⟩ k33) k33; have m1 := HA9.at (World.block_lt_of_cell? _ ⟨_, _, none⟩ k14) k14; have m2 := HA9.at (World.block_lt_of_cell? _ ⟨_, _, none⟩ k24) k24; have m3 := HA9.at (World.block_lt_of_cell? _ ⟨_, _, none⟩ k34) k34)
                | (go_at_call 122; refine (HL.out _ HB8).mono ?_; rintro e w9 ⟨a3, n3, q3, rfl, r1, g9⟩; obtain ⟨LA, HA, LB, HB, O1, O2, RA, RB, QA, QB, HD⟩ : ∃ la ha lb hb, OwnI la ha w9 (.slice a3 n3 q3) xl' ∧ OwnI lb hb w9 (.slice a4 n4 q4) xr' ∧ w6.heap.size ≤ la ∧ w6.heap.size ≤ lb ∧ ha ≤ w9.heap.size ∧ hb ≤ w9.heap.size ∧ (ha ≤ lb ∨ hb ≤ la) := ⟨_, _, _, _, r1, r2.below g9, HZ8, HZ7, Nat.le_refl _, g9.size, .inr (Nat.le_refl _)⟩; have HB9 := HB8.step g9; have HA9 := Bel.alloc0 w9 (.cells #[.bool false, .slice a3 n3 q3, .slice a4 n4 q4] 53); obtain ⟨zs, hown, hzl, hnext⟩ := HRA6.out.step HAL.out HB9 HA9 O1 O2 RA RB QA QB HD hbz6 false; have HZ9 : w.heap.size ≤ (w9.alloc (.cells #[.bool false, .slice a3 n3 q3, .slice a4 n4 q4] 53)).heap.size := Nat.le_trans hbz6 (HB9.step HA9).size; have HN := news_lit w9 (.bool false) (encS (a3, n3, q3)) (encS (a4, n4, q4)) 53 w9.heap.size rfl; have k14 := g9.at (World.block_lt_of_cell? _ ⟨_, _, none⟩ k13) k13; have k24 := g9.at (World.block_lt_of_cell? _ ⟨_, _, none⟩ k23) k23; have k34 := g9.at (World.block_lt_of_cell? _ ⟨_, _, none⟩ k33) k33; have m1 := HA9.at (World.block_lt_of_cell? _ ⟨_, _, none⟩ k14) k14; have m2 := HA9.at (World.block_lt_of_cell? _ ⟨_, _, none⟩ k24) k24; have m3 := HA9.at (World.block_lt_of_cell? _ ⟨_, _, none⟩ k34) k34)
                | (go_at_call 122; refine (HL.out _ HB7).mono ?_; rintro e w8 ⟨a3, n3, q3, rfl, r1, g8⟩; have HB8 := HB7.step g8; have HZ8 := Nat.le_trans HZ7 g8.size; have k13 := g8.at (World.block_lt_of_cell? _ ⟨_, _, none⟩ k1) k1; have k23 := g8.at (World.block_lt_of_cell? _ ⟨_, _, none⟩ k2) k2; have k33 := g8.at (World.block_lt_of_cell? _ ⟨_, _, none⟩ k3) k3)
                | (go_at_call 122; refine (HR.out _ HB7).mono ?_; rintro e w8 ⟨a4, n4, q4, rfl, r2, g8⟩; have HB8 := HB7.step g8; have HZ8 := Nat.le_trans HZ7 g8.size; have k13 := g8.at (World.block_lt_of_cell? _ ⟨_, _, none⟩ k1) k1; have k23 := g8.at (World.block_lt_of_cell? _ ⟨_, _, none⟩ k2) k2; have k33 := g8.at (World.block_lt_of_cell? _ ⟨_, _, none⟩ k3) k3)
                | fail)
            all_goals
              have hzd : zs.length = d.length := hzl
              go_wp2_with fail
              go_roundw
              case rel =>
                refine ⟨k+1, by omega, by go_num, ?_, ?_, HB10⟩
                · rw [HE.out]; first | exact HR5 | (rw [hzd] at HR5; exact HR5)
                · rw [HEK.out]; exact HK10
              case measure => simp [intOf]; omega
    · have ek : c.take k = c := List.take_of_length_le (by omega)
      rw [ek] at hra
      obtain ⟨ao, co, rfl⟩ := hra.co.form
      have HO := Lib.hid hra.co.own
      generalize tidyC c = r at *
      clear hra hrk hv ek
      go_wp2_with fail
      go_ret
      exact ⟨_, _, _, rfl, HO.out, hb⟩
end Go.Proofs.YteegjnobmbcjiaaGreatDoor
end
section
/- Chapter 4: TidyClause, both sides. -/
namespace Go.Proofs.YteegjnobmbcjiaaGreatDoor
open Go.RowKit

theorem good_sum {ar : List Int} {c : List Lt} (h8 : c.length ≤ 8) (h : ∀ x ∈ c, okLit ar x = true) : sumC c ≤ 1048576 := by
  rw [sumC_eq]
  unfold lenC
  have := sumL_le40 (flatC c) (fun t ht => (okTerm_len (flat_ok h ht)).2)
  rw [flatC_len] at this
  omega
theorem tidyAns_len (ar : List Int) (c : List Lt) : sumC (tidyAns ar c) ≤ 1048576 := by
  unfold tidyAns
  split
  · rename_i hg
    obtain ⟨_, h8, hok⟩ := goodClause_iff.1 hg
    have h1 := tidy_all' c c.length
    rw [List.take_length] at h1
    exact good_sum (ar := ar) (by omega) fun x hx => hok x (h1.2 x hx)
  · simp [sumC]
end Go.Proofs.YteegjnobmbcjiaaGreatDoor
end
section
/- Chapter 4, the program: a clause with other terms; RenameClause. -/
namespace Go.Proofs.YteegjnobmbcjiaaGreatDoor
open Go.RowKit

theorem ownsRow_base {w : World} {lo lo' e s n : Nat} {v : Value} {xs : List Value} (h : w.ownsRow lo e s v n xs) (hl : lo' ≤ lo) : w.ownsRow lo' e s v n xs := by
  refine ⟨h.1, ?_⟩
  rcases h.2 with h0 | ⟨g, cap, cur, e1, e2, r⟩
  · exact .inl h0
  · exact .inr ⟨g, cap, cur, e1, Nat.le_trans hl e2, r⟩
theorem OwnS.two {lo hi : Nat} {w : World} {u : Value} {ts : List (List Int)} (h : OwnS lo hi w u ts) (hhi : hi ≤ w.heap.size) : ∃ (ad : Option Addr) (cap : Nat) (us : List SV) (bs : Nat → Nat), u = .slice ad ts.length cap ∧ us.length = ts.length ∧
    (∀ j z, us[j]? = some z → ∃ b off, ad = some ⟨b, off, none⟩ ∧ b < w.heap.size ∧ w.cell? ⟨b, off + j, none⟩ = some (encS z)) ∧ (∀ g w', Bel w w' → w.heap.size ≤ g → Ins lo hi g w' (us.map encS) ts bs) := by
  obtain ⟨ad, cap, rfl, hc, hm, hr⟩ := h
  by_cases hp : 0 < ts.length
  · obtain ⟨b, off, us, bs, rfl, a1, a2, a3, hi'⟩ := hr hp
    have hl := hi'.len
    have hv : ∀ j, j < us.length → ∃ z : SV, us[j]? = some (encS z) := fun j hj => by
      have h1 : us[j]? = some us[j] := List.getElem?_eq_getElem hj
      obtain ⟨x, y, e⟩ := (hi'.sl j _ h1).form
      exact ⟨(x, _, y), by rw [h1, e]; rfl⟩
    obtain ⟨f, hf⟩ := skolem_lt hv
    have he : ((List.range us.length).map f).map encS = us := by
      apply List.ext_getElem?
      intro j
      by_cases hj : j < us.length
      · rw [hf j hj]; simp [hj]
      · simp [Nat.le_of_not_lt hj]
    refine ⟨some ⟨b, off, none⟩, cap, (List.range us.length).map f, bs, rfl, by simp [hl], fun j z hj => ?_, fun g w' hb hg => ?_⟩
    · have h2 : us[j]? = some (encS z) := by rw [← he, List.getElem?_map, hj]; rfl
      have h3 := a3 j _ h2
      exact ⟨b, off, rfl, World.block_lt_of_cell? w ⟨b, _, none⟩ h3, h3⟩
    · rw [he]
      have h4 := hi'.below hb
      exact ⟨h4.len, fun j hj hpj => by have := h4.rng j hj hpj; omega, h4.inj, h4.own⟩
  · obtain rfl : ts = [] := List.length_eq_zero_iff.1 (by omega)
    exact ⟨ad, cap, [], _, rfl, rfl, fun j z h => by simp at h, fun g w' _ _ => Ins.none _ _ _ _ |>.mono (Nat.le_refl _) (Nat.le_refl _)⟩

set_option maxRecDepth 100000 in
set_option maxHeartbeats 400000 in
theorem withTerms_c (l h lo hi : Nat) (v u : Value) (c : List Lt) (ts : List (List Int)) (w : World) (hx : c.length ≤ 1048576) (ht : ts.length = 2 * c.length) (hlo : lo ≤ w.heap.size) (hhi : hi ≤ w.heap.size) (hv : SlC l h w v c) (hu : OwnS lo hi w u ts) :
    Calls Tryz.prog 117 #[v, u] w (fun e w' => ∃ ad n k, e = .returned (.slice ad n k) ∧ OwnC lo w'.heap.size w' (.slice ad n k) (zipC c ts) ∧ Bel w w') := by
  obtain ⟨ad, cap, rfl⟩ := hv.form
  obtain ⟨au, cu, us, bs, rfl, hul, hcell, hIns⟩ := hu.two hhi
  have HTS := Lib.hid ht
  clear hu ht
  go_enter Tryz.func117, Tryz.ntmps117
  go_wp2_with fail
  go_loopw [5, 10] (fun o i wr => ∃ (k : Nat) (zs : List LV), k ≤ c.length ∧ i = .int .i64 k ∧ RowC w.heap.size wr o zs ∧ zs.map (·.1) = (c.take k).map (·.1) ∧ rowsC zs = (us.take (2 * k)).map encS ∧ Bel w wr) (fun _ i _ => c.length - (intOf i).toNat)
  case atStart => exact ⟨0, [], Nat.zero_le _, rfl, RowC.nil _ _, rfl, rfl, Bel.rfl' _⟩
  case round =>
    obtain ⟨k, zs, hk, rfl, hrow, hzp, hzr, hb⟩ := hrel
    have hzl : zs.length = k := by have := congrArg List.length hzp; simp at this; omega
    have ht := HTS.out
    by_cases hlt : k < c.length
    · obtain ⟨b, off, z1, z2, rfl, hbs, e1, e2, e3, -, -⟩ := hv.two k hlt
      have c1 := hb.at (World.block_lt_of_cell? _ ⟨_, _, none⟩ e1) e1
      have c2 := hb.at (World.block_lt_of_cell? _ ⟨_, _, none⟩ e2) e2
      have c3 := hb.at (World.block_lt_of_cell? _ ⟨_, _, none⟩ e3) e3
      have hu1 : us[2 * k]? = some us[2 * k] := List.getElem?_eq_getElem (by omega)
      have hu2 : us[2 * k + 1]? = some us[2 * k + 1] := List.getElem?_eq_getElem (by omega)
      have HTK : Hid ((us.take (2 * (k+1))).map encS = (us.take (2 * k)).map encS ++ [encS us[2 * k], encS us[2 * k + 1]]) := by
        show _ = _
        rw [show 2 * (k + 1) = 2 * k + 1 + 1 from by omega, List.take_succ_eq_append_getElem (show 2 * k + 1 < us.length by omega), List.take_succ_eq_append_getElem (show 2 * k < us.length by omega), List.map_append, List.map_append]
        simp only [List.append_assoc]
        rfl
      have HTP : Hid ((c.take (k+1)).map (·.1) = (c.take k).map (·.1) ++ [(c.getD k lt0).1]) := by show _ = _; rw [List.take_succ_eq_append_getElem hlt, List.map_append]; simp [List.getD, hlt]
      obtain ⟨b2, o2, rfl, hb2, d1⟩ := hcell _ _ hu1
      obtain ⟨b2', o2', eq2, -, d2⟩ := hcell _ _ hu2
      simp only [Option.some.injEq, Addr.mk.injEq, and_true] at eq2
      obtain ⟨rfl, rfl⟩ := eq2
      have d1 := hb.at hb2 d1
      have d2 := hb.at hb2 d2
      have hin1 : (k : Int) < c.length := by omega
      generalize (c.getD k lt0).1 = p at *
      generalize us[2 * k] = y1 at *
      generalize us[2 * k + 1] = y2 at *
      obtain ⟨a1, n1, q1⟩ := z1
      obtain ⟨a2, n2, q2⟩ := z2
      obtain ⟨a3, n3, q3⟩ := y1
      obtain ⟨a4, n4, q4⟩ := y2
      simp only [encS] at c2 c3 d1 d2
      have HROW := Lib.hid hrow
      have hin2 : 2 * (k : Int) < ts.length := by omega
      have hin3 : 2 * (k : Int) + 1 < ts.length := by omega
      have hw1 := IntWalk.i64_in (2 * (k : Int)) (by omega)
      have hw2 := IntWalk.i64_in (2 * (k : Int) + 1) (by omega)
      have B2 := World.block_lt_of_cell? wr ⟨b2, _, none⟩ d1
      have k1 : (wr.alloc (.cells #[.bool p, .slice a1 n1 q1, .slice a2 n2 q2] 53)).drew.cell? ⟨wr.heap.size, 0, none⟩ = some (.bool p) := boxc ((Bel.rfl' _).drew) 0 _ rfl
      have k2 := (Bel.alloc0 wr (.cells #[.bool p, .slice a1 n1 q1, .slice a2 n2 q2] 53)).drew.at B2 d1
      have k3 := (Bel.alloc0 wr (.cells #[.bool p, .slice a1 n1 q1, .slice a2 n2 q2] 53)).drew.at B2 d2
      have m1 : ((wr.alloc (.cells #[.bool p, .slice a1 n1 q1, .slice a2 n2 q2] 53)).alloc (.cells #[.bool p, .slice a3 n3 q3, .slice a4 n4 q4] 53)).drew.cell? ⟨wr.heap.size, 0, none⟩ = some (.bool p) := boxc (Bel.alloc0 _ _).drew 0 _ rfl
      have m2 := (Bel.alloc2 wr (.cells #[.bool p, .slice a1 n1 q1, .slice a2 n2 q2] 53) (.cells #[.bool p, .slice a3 n3 q3, .slice a4 n4 q4] 53)).drew.at B2 d1
      have m3 := (Bel.alloc2 wr (.cells #[.bool p, .slice a1 n1 q1, .slice a2 n2 q2] 53) (.cells #[.bool p, .slice a3 n3 q3, .slice a4 n4 q4] 53)).drew.at B2 d2
      have HB5 : Bel wr ((wr.alloc (.cells #[.bool p, .slice a1 n1 q1, .slice a2 n2 q2] 53)).alloc (.cells #[.bool p, .slice a3 n3 q3, .slice a4 n4 q4] 53)).drew := (Bel.alloc2 _ _ _).drew
      have R5 : RowC w.heap.size ((wr.alloc (.cells #[.bool p, .slice a1 n1 q1, .slice a2 n2 q2] 53)).alloc (.cells #[.bool p, .slice a3 n3 q3, .slice a4 n4 q4] 53)).drew _ zs := ownsRow_bel hrow HB5
      have HLT := hrow.lt
      have HZ5 : w.heap.size ≤ ((wr.alloc (.cells #[.bool p, .slice a1 n1 q1, .slice a2 n2 q2] 53)).alloc (.cells #[.bool p, .slice a3 n3 q3, .slice a4 n4 q4] 53)).drew.heap.size := Nat.le_trans hb.size HB5.size
      have HN : ∀ j u, [Value.bool p, encS (a3, n3, q3), encS (a4, n4, q4)][j]? = some u → ((wr.alloc (.cells #[.bool p, .slice a1 n1 q1, .slice a2 n2 q2] 53)).alloc (.cells #[.bool p, .slice a3 n3 q3, .slice a4 n4 q4] 53)).drew.cell? ((⟨wr.heap.size + 1, 0, none⟩ : Addr).add j) = some u := fun j u hj => by
        have := news_lit (wr.alloc (.cells #[.bool p, .slice a1 n1 q1, .slice a2 n2 q2] 53)) (.bool p) (.slice a3 n3 q3) (.slice a4 n4 q4) 53 (wr.heap.size + 1) (by simp) j u hj
        rw [addr_add] at this ⊢
        exact (Bel.drew0 _).at (World.block_lt_of_cell? _ ⟨_, _, none⟩ this) this
      clear hv e1 e2 e3 hcell hu1 hu2 hIns hrow ht
      go_wp2_with fail
      go_region_held_law (fun w' => w'.cell? ⟨wr.heap.size, 0, none⟩ = some (.bool p) ∧ w'.cell? ⟨b2, o2 + 2 * k, none⟩ = some (.slice a3 n3 q3) ∧ w'.cell? ⟨b2, o2 + (2 * k + 1), none⟩ = some (.slice a4 n4 q4))
        (first | exact ⟨k1, k2, k3⟩ | exact ⟨m1, m2, m3⟩ | exact ⟨t1, t2, t3⟩ | fail)
        (first
          | (refine step_append_lit rfl (.tmp 15) (.tmp 30) 31 rfl rfl w.heap.size _ zs rfl R5 (wr.heap.size + 1) p (a3, n3, q3) (a4, n4, q4) rfl HN (by omega) HZ5 ?_; intro a5 n5 c5 w5 R6 hg5; have t1 := hg5.cell m1 (fun e => Nat.lt_irrefl _ (HLT _ e.symm).2); have t2 := hg5.cell m2 (fun e => by have := (HLT _ e.symm).1; simp at this; omega); have t3 := hg5.cell m3 (fun e => by have := (HLT _ e.symm).1; simp at this; omega))
          | fail)
      all_goals
        have HB6 := (hb.step HB5).grown hg5 (fun q hq => own_base R5 q hq)
        go_wp2_with fail
        go_roundw
        case rel => exact ⟨k+1, _, by omega, by go_num, R6, by rw [List.map_append, hzp, HTP.out]; rfl, by rw [rowsC_app, hzr, HTK.out]; rfl, HB6⟩
        case measure => simp [intOf]; omega
    · obtain ⟨ad5, n5, c5, rfl⟩ := own_form hrow
      rw [List.take_of_length_le (by omega)] at hzp hzr
      have hfz := zipC_flat c ts ht
      have hlz := zipC_len c ts ht
      have hsz := zipC_signs c ts ht
      have hkc : k = c.length := by omega
      have HO : Hid (OwnC lo wr.heap.size wr (.slice ad5 n5 c5) (zipC c ts)) := by
        show OwnC _ _ _ _ _
        refine OwnC.of_row (base := lo) (e := 53) (zs := zs) (bs := bs) ?_ (Nat.le_refl _) (by rw [hsz]; exact hzp) (fun g hg => ?_)
        · rw [hlz, ← hkc, ← hzl]
          exact ownsRow_base hrow hlo
        · rw [hfz, hzr]
          exact (hIns g wr hb (own_base hrow g hg)).mono (Nat.le_refl _) (Nat.le_trans hhi hb.size)
      clear hrow hzp hzr hcell hIns hfz hlz hsz ht
      go_wp2_with fail
      go_ret
      exact ⟨_, _, _, rfl, HO.out, hb⟩
end Go.Proofs.YteegjnobmbcjiaaGreatDoor
end
section
/- Chapter 4: RenameClause, both sides. -/
namespace Go.Proofs.YteegjnobmbcjiaaGreatDoor
open Go.RowKit

theorem rows_flat {ar : List Int} {c : List Lt} (h : goodClause ar c = true) : rows40 (flatC c) := by
  obtain ⟨h1, h2, h3⟩ := goodClause_iff.1 h
  refine renameOk_rows (ar := ar) ?_
  unfold renameOk
  rw [h1, decide_eq_true (show (flatC c).length ≤ 20 by rw [flatC_len]; omega), flat_all]
  simpa using h3
theorem renC_len (c : List Lt) : (renS [] (flatC c)).length = 2 * c.length := by rw [renS_len, flatC_len]

set_option maxRecDepth 100000 in
set_option maxHeartbeats 400000 in
theorem renamedClause_c (l h : Nat) (v : Value) (c : List Lt) (w : World) (hx : c.length ≤ 1048576) (hr : rows40 (flatC c)) (hv : SlC l h w v c) :
    Calls Tryz.prog 80 #[v] w (RetC w (renC c)) := by
  have HT := Lib.hid (fun (w' : World) (hb : Bel w w') => termsIn_c l h v c w' hx (hv.below hb))
  have HW := Lib.hid (fun (w' : World) (u : Value) (hb : Bel w w') (hu : OwnS w.heap.size w'.heap.size w' u (renS [] (flatC c))) => withTerms_c l h _ _ v u c _ w' hx (renC_len c) hb.size (Nat.le_refl _) (hv.below hb) hu)
  clear hv
  go_enter Tryz.func80, Tryz.ntmps80
  go_wp2_with fail
  refine (HT.out _ (Bel.rfl' _)).mono ?_; rintro e w1 ⟨a1, n1, c1, rfl, hrow, hb1⟩
  go_wp2_with fail
  refine (renamed_c _ _ _ (flatC c) w1 hr (hrow.sls hb1)).mono ?_; rintro e w2 ⟨a2, n2, c2, rfl, ho, hb2⟩
  go_wp2_with fail
  refine (HW.out _ _ (hb1.step hb2) (ho.mono hb1.size (Nat.le_refl _))).mono ?_; rintro e w3 ⟨a3, n3, c3, rfl, hc, hb3⟩
  go_wp2_with fail
  go_ret
  exact ⟨_, _, _, rfl, hc, (hb1.step hb2).step hb3⟩

set_option maxRecDepth 100000 in
set_option maxHeartbeats 400000 in
theorem l4Rename_c (l h : Nat) (v : Value) (c : List Lt) (w : World) (hx : c.length ≤ 1048576) (hr : rows40 (flatC c)) (hv : SlC l h w v c) :
    Calls Tryz.prog 108 #[v] w (RetC w (renC c)) := by
  obtain ⟨ad, cap, rfl⟩ := hv.form
  unfold renC
  go_enter Tryz.func108, Tryz.ntmps108
  go_wp2_with fail
  refine (l4Terms_c l h _ c _ hx hv).mono ?_; rintro e w1 ⟨a1, n1, c1, rfl, hrow, hb1⟩
  go_wp2_with fail
  refine (l2Rename_c _ _ _ (flatC c) w1 hr (hrow.sls hb1)).mono ?_; rintro e w2 ⟨a2, n2, c2, rfl, ho, hb2⟩
  have hb12 := hb1.step hb2
  have hv2 := hv.below hb12
  have hlo := hb12.size
  have HTS := Lib.hid (renC_len c)
  have ho2 := ho.mono (lo' := w.heap.size) hb1.size (Nat.le_refl _)
  have hts := renC_len c
  clear ho hv hrow hr
  generalize renS [] (flatC c) = ts at *
  obtain ⟨au, cu, us, bs, e2, hul, hcell, hIns⟩ := ho2.two (Nat.le_refl _)
  simp only [Value.slice.injEq] at e2
  obtain ⟨rfl, rfl, rfl⟩ := e2
  have hv := hv2
  clear hv2
  have hhi := Nat.le_refl w2.heap.size
  clear ho2 hts
  go_wp2_with fail
  go_loopw [4, 12] (fun o i wr => ∃ (k : Nat) (zs : List LV), k ≤ c.length ∧ i = .int .i64 k ∧ RowC w2.heap.size wr o zs ∧ zs.map (·.1) = (c.take k).map (·.1) ∧ rowsC zs = (us.take (2 * k)).map encS ∧ Bel w2 wr) (fun _ i _ => c.length - (intOf i).toNat)
  case atStart => exact ⟨0, [], Nat.zero_le _, rfl, RowC.nil _ _, rfl, rfl, Bel.rfl' _⟩
  case round =>
    obtain ⟨k, zs, hk, rfl, hrow, hzp, hzr, hb⟩ := hrel
    have hzl : zs.length = k := by have := congrArg List.length hzp; simp at this; omega
    have ht := HTS.out
    by_cases hlt : k < c.length
    · obtain ⟨b, off, z1, z2, rfl, hbs, e1, e2, e3, -, -⟩ := hv.two k hlt
      have c1 := hb.at (World.block_lt_of_cell? _ ⟨_, _, none⟩ e1) e1
      have c2 := hb.at (World.block_lt_of_cell? _ ⟨_, _, none⟩ e2) e2
      have c3 := hb.at (World.block_lt_of_cell? _ ⟨_, _, none⟩ e3) e3
      have hu1 : us[2 * k]? = some us[2 * k] := List.getElem?_eq_getElem (by omega)
      have hu2 : us[2 * k + 1]? = some us[2 * k + 1] := List.getElem?_eq_getElem (by omega)
      have HTK : Hid ((us.take (2 * (k+1))).map encS = (us.take (2 * k)).map encS ++ [encS us[2 * k], encS us[2 * k + 1]]) := by
        show _ = _
        rw [show 2 * (k + 1) = 2 * k + 1 + 1 from by omega, List.take_succ_eq_append_getElem (show 2 * k + 1 < us.length by omega), List.take_succ_eq_append_getElem (show 2 * k < us.length by omega), List.map_append, List.map_append]
        simp only [List.append_assoc]
        rfl
      have HTP : Hid ((c.take (k+1)).map (·.1) = (c.take k).map (·.1) ++ [(c.getD k lt0).1]) := by show _ = _; rw [List.take_succ_eq_append_getElem hlt, List.map_append]; simp [List.getD, hlt]
      obtain ⟨b2, o2, rfl, hb2, d1⟩ := hcell _ _ hu1
      obtain ⟨b2', o2', eq2, -, d2⟩ := hcell _ _ hu2
      simp only [Option.some.injEq, Addr.mk.injEq, and_true] at eq2
      obtain ⟨rfl, rfl⟩ := eq2
      have d1 := hb.at hb2 d1
      have d2 := hb.at hb2 d2
      have hin1 : (k : Int) < c.length := by omega
      generalize (c.getD k lt0).1 = p at *
      generalize us[2 * k] = y1 at *
      generalize us[2 * k + 1] = y2 at *
      obtain ⟨a1, n1, q1⟩ := z1
      obtain ⟨a2, n2, q2⟩ := z2
      obtain ⟨a3, n3, q3⟩ := y1
      obtain ⟨a4, n4, q4⟩ := y2
      simp only [encS] at c2 c3 d1 d2
      have HROW := Lib.hid hrow
      have hin2 : 2 * (k : Int) < ts.length := by omega
      have hin3 : 2 * (k : Int) + 1 < ts.length := by omega
      have hw1 := IntWalk.i64_in (2 * (k : Int)) (by omega)
      have hw2 := IntWalk.i64_in (2 * (k : Int) + 1) (by omega)
      have B2 := World.block_lt_of_cell? wr ⟨b2, _, none⟩ d1
      have k1 : (wr.alloc (.cells #[.bool p, .slice a1 n1 q1, .slice a2 n2 q2] 53)).drew.cell? ⟨wr.heap.size, 0, none⟩ = some (.bool p) := boxc ((Bel.rfl' _).drew) 0 _ rfl
      have k2 := (Bel.alloc0 wr (.cells #[.bool p, .slice a1 n1 q1, .slice a2 n2 q2] 53)).drew.at B2 d1
      have k3 := (Bel.alloc0 wr (.cells #[.bool p, .slice a1 n1 q1, .slice a2 n2 q2] 53)).drew.at B2 d2
      have m1 : ((wr.alloc (.cells #[.bool p, .slice a1 n1 q1, .slice a2 n2 q2] 53)).alloc (.cells #[.bool p, .slice a3 n3 q3, .slice a4 n4 q4] 53)).drew.cell? ⟨wr.heap.size, 0, none⟩ = some (.bool p) := boxc (Bel.alloc0 _ _).drew 0 _ rfl
      have m2 := (Bel.alloc2 wr (.cells #[.bool p, .slice a1 n1 q1, .slice a2 n2 q2] 53) (.cells #[.bool p, .slice a3 n3 q3, .slice a4 n4 q4] 53)).drew.at B2 d1
      have m3 := (Bel.alloc2 wr (.cells #[.bool p, .slice a1 n1 q1, .slice a2 n2 q2] 53) (.cells #[.bool p, .slice a3 n3 q3, .slice a4 n4 q4] 53)).drew.at B2 d2
      have HB5 : Bel wr ((wr.alloc (.cells #[.bool p, .slice a1 n1 q1, .slice a2 n2 q2] 53)).alloc (.cells #[.bool p, .slice a3 n3 q3, .slice a4 n4 q4] 53)).drew := (Bel.alloc2 _ _ _).drew
      have R5 : RowC w2.heap.size ((wr.alloc (.cells #[.bool p, .slice a1 n1 q1, .slice a2 n2 q2] 53)).alloc (.cells #[.bool p, .slice a3 n3 q3, .slice a4 n4 q4] 53)).drew _ zs := ownsRow_bel hrow HB5
      have HLT := hrow.lt
      have HZ5 : w2.heap.size ≤ ((wr.alloc (.cells #[.bool p, .slice a1 n1 q1, .slice a2 n2 q2] 53)).alloc (.cells #[.bool p, .slice a3 n3 q3, .slice a4 n4 q4] 53)).drew.heap.size := Nat.le_trans hb.size HB5.size
      have HN : ∀ j u, [Value.bool p, encS (a3, n3, q3), encS (a4, n4, q4)][j]? = some u → ((wr.alloc (.cells #[.bool p, .slice a1 n1 q1, .slice a2 n2 q2] 53)).alloc (.cells #[.bool p, .slice a3 n3 q3, .slice a4 n4 q4] 53)).drew.cell? ((⟨wr.heap.size + 1, 0, none⟩ : Addr).add j) = some u := fun j u hj => by
        have := news_lit (wr.alloc (.cells #[.bool p, .slice a1 n1 q1, .slice a2 n2 q2] 53)) (.bool p) (.slice a3 n3 q3) (.slice a4 n4 q4) 53 (wr.heap.size + 1) (by simp) j u hj
        rw [addr_add] at this ⊢
        exact (Bel.drew0 _).at (World.block_lt_of_cell? _ ⟨_, _, none⟩ this) this
      clear hv e1 e2 e3 hcell hu1 hu2 hIns hrow ht
      go_wp2_with fail
      go_region_held_law (fun w' => w'.cell? ⟨wr.heap.size, 0, none⟩ = some (.bool p) ∧ w'.cell? ⟨b2, o2 + 2 * k, none⟩ = some (.slice a3 n3 q3) ∧ w'.cell? ⟨b2, o2 + (2 * k + 1), none⟩ = some (.slice a4 n4 q4))
        (first | exact ⟨k1, k2, k3⟩ | exact ⟨m1, m2, m3⟩ | exact ⟨t1, t2, t3⟩ | fail)
        (first
          | (refine step_append_lit rfl (.tmp 17) (.tmp 32) 33 rfl rfl w2.heap.size _ zs rfl R5 (wr.heap.size + 1) p (a3, n3, q3) (a4, n4, q4) rfl HN (by omega) HZ5 ?_; intro a5 n5 c5 w5 R6 hg5; have t1 := hg5.cell m1 (fun e => Nat.lt_irrefl _ (HLT _ e.symm).2); have t2 := hg5.cell m2 (fun e => by have := (HLT _ e.symm).1; simp at this; omega); have t3 := hg5.cell m3 (fun e => by have := (HLT _ e.symm).1; simp at this; omega))
          | fail)
      all_goals
        have HB6 := (hb.step HB5).grown hg5 (fun q hq => own_base R5 q hq)
        go_wp2_with fail
        go_roundw
        case rel => exact ⟨k+1, _, by omega, by go_num, R6, by rw [List.map_append, hzp, HTP.out]; rfl, by rw [rowsC_app, hzr, HTK.out]; rfl, HB6⟩
        case measure => simp [intOf]; omega
    · obtain ⟨ad5, n5, c5, rfl⟩ := own_form hrow
      rw [List.take_of_length_le (by omega)] at hzp hzr
      have hfz := zipC_flat c ts ht
      have hlz := zipC_len c ts ht
      have hsz := zipC_signs c ts ht
      have hkc : k = c.length := by omega
      have HO : Hid (OwnC w.heap.size wr.heap.size wr (.slice ad5 n5 c5) (zipC c ts)) := by
        show OwnC _ _ _ _ _
        refine OwnC.of_row (base := w.heap.size) (e := 53) (zs := zs) (bs := bs) ?_ (Nat.le_refl _) (by rw [hsz]; exact hzp) (fun g hg => ?_)
        · rw [hlz, ← hkc, ← hzl]
          exact ownsRow_base hrow hlo
        · rw [hfz, hzr]
          exact (hIns g wr hb (own_base hrow g hg)).mono (Nat.le_refl _) (Nat.le_trans hhi hb.size)
      clear hrow hzp hzr hcell hIns hfz hlz hsz ht
      go_wp2_with fail
      go_ret
      exact ⟨_, _, _, rfl, HO.out, hb12.step hb⟩

theorem renCAns_len (ar : List Int) (c : List Lt) : sumC (renCAns ar c) ≤ 1048576 := by
  unfold renCAns
  split
  · rename_i hg
    obtain ⟨_, h8, hok⟩ := goodClause_iff.1 hg
    rw [sumC_eq]
    have hl := zipC_len c _ (renC_len c)
    have hf := zipC_flat c _ (renC_len c)
    unfold lenC renC
    rw [hl, hf]
    have h40 := renS_lens [] (flatC c) (fun t ht => (okTerm_len (flat_ok hok ht)).2)
    have := sumL_le40 _ h40
    rw [renC_len] at this
    omega
  · simp [sumC]
end Go.Proofs.YteegjnobmbcjiaaGreatDoor
end
section
/- append of a row of ints to a row of ints, at a step of a region that draws. -/
namespace Go.Proofs.YteegjnobmbcjiaaGreatDoor
open Go.RowKit

theorem step_append_row {w : World} {ops : Array Oper} {o : Oper} {a : Act} {K : Act → World → Prop} {Q : Exit → Act → World → Prop} {E : Prop} (hgd : o.guard = none) (s x : Operand) (d : Nat) (hd : o.dst = some d)
    (ho : o.op = .call { callee := .builtin .append, args := #[s, x], argTypes := #[22, 22] })
    (base base2 : Nat) (v y : Value) (xs ys : List Int) (hs : a.eval s = v) (hown : RowI base w v xs) (hx : a.eval x = y) (hy : RowI base2 w y ys)
    (hl : xs.length + ys.length ≤ 1099511627776) (hbase : base ≤ w.heap.size)
    (h : ∀ ad n c w', RowI base w' (.slice ad n c) (xs ++ ys) → w.grownBy w' v.ownBlock → K (a.put (some d) (.slice ad n c)) w') :
    if Region.wanted o (yielded ops a.tmps) = true then Oper.wp Tryz.prog o a w K Q else E := by
  obtain ⟨i0, hi0, hz0, hz1, hz2⟩ := info_parts Tryz.info3
  have hw : Region.wanted o (yielded ops a.tmps) = true := by simp [Region.wanted, hgd]
  rw [if_pos hw]
  rw [← hd] at h
  rcases hy.2 with ⟨rfl, hn⟩ | ⟨g, cap, cur, rfl, hg, hh, hn, hc, hsz, ht⟩
  · have he : ys = [] := List.length_eq_zero_iff.1 hn
    subst he
    obtain ⟨ad, n, c, rfl⟩ := own_form hown
    have hrun := run_append_owned_none (P := Tryz.prog) (w := w) base 22 o.type 3 i0 1 Tryz.underlying22 hi0 (.slice ad n c) xs.length (xs.map (Value.int .i64)) hown
    unfold Oper.wp
    simp [execOp, ho, resolve, invoke, builtin, hs, hx, hrun, Result.andThen]
    exact h ad n c w (by simpa using hown) (World.grownBy.refl _ _)
  · refine wp_append_own w s x 22 ho base 3 i0 (.int .i64 0) 1 8 Tryz.underlying22 hi0 hz0 hz1 hz2 rfl (by decide) v xs.length (xs.map (Value.int .i64)) hs hown
      ⟨g, 0, none⟩ ys.length cap (ys.map (Value.int .i64)) hx (by simp) (hy.cells rfl) (ones_int _) (by unfold maxLen; omega) (by omega) hbase (fun v' w' h1 h2 _ => ?_)
    obtain ⟨ad, n, c, rfl⟩ := own_form h1
    exact h ad n c w' (by simpa [RowI] using h1) h2
end Go.Proofs.YteegjnobmbcjiaaGreatDoor
end
section
/- Chapter 4, the reference: VarsIn. -/
namespace Go.Proofs.YteegjnobmbcjiaaGreatDoor
open Go.RowKit

theorem varsTo_congr {f g : Nat → Bool} (n : Nat) (h : ∀ j, j < n → f j = g j) : varsTo f n = varsTo g n := by
  unfold varsTo
  refine List.filter_congr fun j hj => h j (by simpa using hj)
theorem varsTo_mem {f : Nat → Bool} {n j : Nat} : j ∈ varsTo f n ↔ j < n ∧ f j = true := by simp [varsTo]
theorem mk_app (a b : List Int) (j : Nat) : mk (a ++ b) j = (mk a j || mk b j) := by
  unfold mk; rw [Bool.eq_iff_iff]; simp
/-- The numbers of two terms' variables. -/
def two12 (xl xr : List Int) : List Nat := varsTo (mk xl) 12 ++ varsTo (mk xr) 12
theorem two12_lt {xl xr : List Int} : ∀ m ∈ two12 xl xr, m < 12 := by
  intro m hm
  unfold two12 at hm
  rcases List.mem_append.1 hm with h | h <;> exact (varsTo_mem.1 h).1
theorem two12_len (xl xr : List Int) : (two12 xl xr).length ≤ 24 := by
  have h1 := varsTo_len (mk xl) 12
  have h2 := varsTo_len (mk xr) 12
  unfold two12; simp; omega
theorem two12_nats (xl xr : List Int) : natsI (varsTo (mk xl) 12) ++ natsI (varsTo (mk xr) 12) = natsI (two12 xl xr) := by simp [two12, natsI]
theorem two12_mem {A xl xr : List Int} {F G : Nat → Bool} (hF : ∀ j, j < 12 → F j = mk A j) (hG : ∀ j, j < 12 → G j = (F j || decide (j ∈ two12 xl xr))) : ∀ j, j < 12 → G j = mk (A ++ xl ++ xr) j := by
  intro j hj
  rw [hG j hj, hF j hj, mk_app, mk_app, Bool.or_assoc]
  congr 1
  rw [Bool.eq_iff_iff]
  simp [two12, varsTo_mem, hj]
theorem put_take {N : List Nat} {i : Nat} (hi : i < N.length) {F F0 : Nat → Bool} (h : ∀ j, j < 12 → F j = (F0 j || decide (j ∈ N.take i))) : ∀ j, j < 12 → setF F (N.getD i 0) j = (F0 j || decide (j ∈ N.take (i+1))) := by
  intro j hj
  have e : N.take (i+1) = N.take i ++ [N.getD i 0] := by rw [List.take_succ_eq_append_getElem hi]; simp [List.getD, hi]
  rw [e]
  unfold setF
  by_cases hq : j = N.getD i 0
  · rw [if_pos hq]; simp [hq]
  · rw [if_neg hq, h j hj]; simp [List.mem_append]; simp [List.getD] at hq; simp [hq]

theorem flat_low1 {ar : List Int} {c : List Lt} (h : goodClause ar c = true) : ∀ t ∈ flatC c, ∀ k, k < t.length → -12 ≤ t.getD k 0 :=
  fun _ ht => low_memC fun _ hn => ok_low (flat_ok (goodClause_iff.1 h).2.2 ht) hn

end Go.Proofs.YteegjnobmbcjiaaGreatDoor
end
section
/- Chapter 5: the value of a term; of an instance. No program. -/
namespace Go.Proofs.YteegjnobmbcjiaaGreatDoor
open Go.RowKit

/-- The entry of symbol n's table for the values vs. -/
def noOf (sz : Int) (vs : List Int) : Int := vs.foldl (fun no v => no * sz + v) 0
def entry (sz : Int) (tb : List (List Int)) (n : Int) (vs : List Int) : Int := (tb.getD n.toNat []).getD (noOf sz vs).toNat 0
def evF (ar t : List Int) (sz : Int) (tb : List (List Int)) (env : List Int) : Nat → Nat → Int
  | 0, _ => 0
  | f + 1, i => if t.getD i 0 < 0 then env.getD (-1 - t.getD i 0).toNat 0 else entry sz tb (t.getD i 0) ((argsOf ar t i).map (evF ar t sz tb env f))
def evT (ar : List Int) (sz : Int) (tb : List (List Int)) (env t : List Int) : Int := evF ar t sz tb env t.length 0

/-- The terms y have the values vs; none: one term; some m: m terms. -/
inductive Ev (ar : List Int) (sz : Int) (tb : List (List Int)) (env : List Int) : Option Nat → List Int → List Int → Prop
  | var (n : Int) : okSym ar n = true → n < 0 → Ev ar sz tb env none [n] [env.getD (-1 - n).toNat 0]
  | node (n : Int) (ys vs : List Int) : okSym ar n = true → 0 ≤ n → Ev ar sz tb env (some (arOf ar n)) ys vs → Ev ar sz tb env none (n :: ys) [entry sz tb n vs]
  | nil : Ev ar sz tb env (some 0) [] []
  | cons (m : Nat) (y ys : List Int) (v : Int) (vs : List Int) : Ev ar sz tb env none y [v] → Ev ar sz tb env (some m) ys vs → Ev ar sz tb env (some (m + 1)) (y ++ ys) (v :: vs)
section
variable {ar : List Int} {sz : Int} {tb : List (List Int)} {env : List Int}
theorem Ev.seq {s : Option Nat} {y vs : List Int} (h : Ev ar sz tb env s y vs) : seqT ar (match s with | none => 1 | some m => m) y := by
  induction h with
  | var n h1 h2 => exact seqT_cons.2 ⟨h1, by rw [arOf_neg h2]; rfl⟩
  | node n ys vs h1 h2 _ ih => exact seqT_cons.2 ⟨h1, by rw [Nat.zero_add]; exact ih⟩
  | nil => rfl
  | cons m y ys v vs _ _ ih1 ih2 =>
    have := seqT_append ih1 ih2
    rwa [Nat.add_comm] at this
theorem Ev.det {s : Option Nat} {y vs : List Int} (h : Ev ar sz tb env s y vs) : ∀ {z us : List Int}, Ev ar sz tb env s z us → z = y → us = vs := by
  induction h with
  | var n h1 h2 =>
    intro z us h' e
    cases h' with
    | var n' _ _ => simp at e; rw [e]
    | node n' ys' vs' _ h3 _ => simp at e; omega
  | node n ys vs h1 h2 _ ih =>
    intro z us h' e
    cases h' with
    | var n' _ h3 => simp at e; omega
    | node n' ys' vs' _ _ h4 =>
      simp at e
      obtain ⟨rfl, rfl⟩ := e
      rw [ih h4 rfl]
  | nil =>
    intro z us h' e
    cases h' with
    | nil => rfl
  | cons m y ys v vs hy hys ih1 ih2 =>
    intro z us h' e
    cases h' with
    | cons _ y' ys' v' vs' h3 h4 =>
      have e1 : y' = y := seq_prefix (show seqT ar 1 y' from h3.seq) (show seqT ar 1 y from hy.seq) e
      subst e1
      have e2 := List.append_cancel_left e
      subst e2
      have e3 := ih1 h3 rfl
      simp at e3
      rw [e3, ih2 h4 rfl]
theorem args_ev {t : List Int} {g : Nat → Int} : ∀ (k p e : Nat), endGo ar (t.drop p) k p = some e → (∀ a ∈ argsGo ar t k p, ∀ q, endOf ar t a = some q → Ev ar sz tb env none (partOf t a q) [g a]) → Ev ar sz tb env (some k) (partOf t p e) ((argsGo ar t k p).map g) := by
  intro k
  induction k with
  | zero =>
    intro p e h _
    rw [endGo_zero] at h
    simp at h
    subst h
    have : partOf t p p = [] := by simp [partOf]
    rw [this]
    exact Ev.nil
  | succ k ih =>
    intro p e h hp
    obtain ⟨q, hq, hr, h1, h2⟩ := ends_step ar t p k e h
    have hgo : argsGo ar t (k+1) p = p :: argsGo ar t k q := by rw [argsGo]; simp [hq]
    rw [hgo] at hp ⊢
    rw [part_split (Nat.le_of_lt h1) h2, List.map_cons]
    exact Ev.cons k _ _ _ _ (hp p List.mem_cons_self q hq) (ih q e hr (fun a ha => hp a (List.mem_cons_of_mem _ ha)))
theorem ev_at {t : List Int} (h : okTerm ar t = true) : ∀ (n i e : Nat), t.length - i ≤ n → i < t.length → endOf ar t i = some e → Ev ar sz tb env none (partOf t i e) [evF ar t sz tb env n i] := by
  intro n
  induction n with
  | zero => intro i e hn hi; omega
  | succ n ih =>
    intro i e hn hi he
    have hs := good_sym ar t h i hi
    have hend : endGo ar (t.drop (i+1)) (arOf ar (t.getD i 0)) (i+1) = some e := by
      have h1 := he
      unfold endOf at h1
      rw [drop_cons t i hi, endGo_cons, if_pos hs, Nat.zero_add] at h1
      exact h1
    have hge := endGo_ge _ _ _ _ _ hend
    have hpart : partOf t i e = t.getD i 0 :: partOf t (i+1) e := by
      unfold partOf
      rw [drop_cons t i hi, show e - i = (e - (i+1)) + 1 by omega, List.take_succ_cons]
    rw [hpart, evF]
    by_cases h0 : t.getD i 0 < 0
    · rw [if_pos h0]
      rw [arOf_neg h0, endGo_zero] at hend
      simp at hend
      subst hend
      have : partOf t (i+1) (i+1) = [] := by simp [partOf]
      rw [this]
      exact Ev.var _ hs h0
    · rw [if_neg h0]
      exact Ev.node _ _ _ hs (by omega) (args_ev _ (i+1) e hend (fun a ha q hq => by
        have hb := argsOf_bd ar t h i hi a ha
        exact ih a q (by omega) hb.2 hq))
/-- A valid term has its value. -/
theorem ev_whole {t : List Int} (h : okTerm ar t = true) : Ev ar sz tb env none t [evT ar sz tb env t] := by
  obtain ⟨h1, _, h3⟩ := (okTerm_iff ar t).1 h
  have := ev_at (sz := sz) (tb := tb) (env := env) h t.length 0 t.length (by omega) (by omega) h3
  rwa [show partOf t 0 t.length = t from by simp [partOf]] at this
theorem ev_eq {t : List Int} {n : Int} (h : okTerm ar t = true) (hv : Ev ar sz tb env none t [n]) : evT ar sz tb env t = n := by
  have := hv.det (ev_whole h) rfl
  simpa using this
/-- More fuel changes nothing. -/
theorem evF_fuel {t : List Int} (h : okTerm ar t = true) (n i : Nat) (hn : t.length - i ≤ n) (hi : i < t.length) : evF ar t sz tb env n i = evF ar t sz tb env (t.length - i) i := by
  obtain ⟨e, he, _⟩ := good_end ar t h i hi
  have h1 := ev_at (sz := sz) (tb := tb) (env := env) h n i e hn hi he
  have h2 := ev_at (sz := sz) (tb := tb) (env := env) h (t.length - i) i e (Nat.le_refl _) hi he
  have := h2.det h1 rfl
  simpa using this
/-- The value of an instance is the value under the values of the substitution. -/
theorem Ev.sub {env' : List Int} {b : List (List Int)} (hb : ∀ n : Int, okSym ar n = true → n < 0 → Ev ar sz tb env none (one1 b n) [env'.getD (-1 - n).toNat 0]) {s : Option Nat} {y vs : List Int} (h : Ev ar sz tb env' s y vs) : Ev ar sz tb env s (appT b y) vs := by
  induction h with
  | var n h1 h2 => rw [appT_one]; exact hb n h1 h2
  | node n ys vs h1 h2 _ ih =>
    have e : appT b (n :: ys) = n :: appT b ys := by
      show one1 b n ++ appT b ys = _
      rw [one1_sym (by omega)]; rfl
    rw [e]
    exact Ev.node n _ vs h1 h2 ih
  | nil => exact Ev.nil
  | cons m y ys v vs _ _ ih1 ih2 => rw [appT_append]; exact Ev.cons m _ _ v vs ih1 ih2
/-- The values that an assignment gives to a substitution. -/
def subEnv (ar : List Int) (sz : Int) (tb : List (List Int)) (env : List Int) (b : List (List Int)) : List Int := (List.range 12).map fun v => if 0 < (b.getD v []).length then evT ar sz tb env (b.getD v []) else env.getD v 0
theorem sub_value {b : List (List Int)} {t : List Int} (ht : okTerm ar t = true) (hb : ∀ v, v < 12 → 0 < (b.getD v []).length → okTerm ar (b.getD v []) = true) (hi : okTerm ar (appT b t) = true) :
    evT ar sz tb env (appT b t) = evT ar sz tb (subEnv ar sz tb env b) t := by
  refine ev_eq hi (Ev.sub (env' := subEnv ar sz tb env b) (fun n h1 h2 => ?_) (ev_whole ht))
  have hlt : (-1 - n).toNat < 12 := by unfold okSym inB at h1; simp at h1; omega
  have hg : (subEnv ar sz tb env b).getD (-1 - n).toNat 0 = if 0 < (b.getD (-1 - n).toNat []).length then evT ar sz tb env (b.getD (-1 - n).toNat []) else env.getD (-1 - n).toNat 0 := by
    unfold subEnv
    rw [List.getD_eq_getElem?_getD, List.getElem?_map, List.getElem?_range hlt]
    rfl
  rw [hg]
  by_cases hp : 0 < (b.getD (-1 - n).toNat []).length
  · rw [if_pos hp, one1_var h2 hp]
    exact ev_whole (hb _ hlt hp)
  · rw [if_neg hp, one1_free hp]
    exact Ev.var n h1 h2
end
end Go.Proofs.YteegjnobmbcjiaaGreatDoor
end
