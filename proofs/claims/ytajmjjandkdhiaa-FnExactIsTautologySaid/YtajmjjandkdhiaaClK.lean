/- Chapter 4, the program: the keys of literals. -/
import Derived.Test.YtajmjjandkdhiaaClI1
import Derived.Test.YtajmjjandkdhiaaLwC3
import Derived.Laws.BytesString
import Derived.Test.YtajmjjandkdhiaaClKp
namespace Go.Proofs.Ytajmjjandkdhiaa
open Go.RowKit

theorem Try.info5 : (Try.prog.info? 5).map (fun i => (i.zero, i.size, i.bytes)) = some (some (.int .u8 0), 1, 1) := by kernel_rfl
theorem convN (W : World) (b n cap : Nat) (ns : List Int) (hn : n = ns.length) (h : ∀ j, j < ns.length → W.cell? ⟨b, j, none⟩ = some (.int .u8 (ns.getD j 0))) :
    (convert 22 9 (.slice (some ⟨b, 0, none⟩) n cap)).run Try.prog W = .ok (.string (bytesOf ns)) W := by
  subst hn
  rw [run_convert_bytes_string _ 22 9 5 _ _ _ Try.underlying22 Try.underlying5 Try.underlying9]
  rw [run_bytesToString _ _ ns.length cap ns ?_]
  · rfl
  · have := run_loadCells_list (P := Try.prog) (w := W) ⟨b, 0, none⟩ (ns.map (Value.int .u8)) (fun j v hj => by
      have hlt : j < ns.length := by simpa using (List.getElem?_eq_some_iff.1 hj).1
      rw [addr_add, Nat.zero_add, h j hlt]
      rw [List.getElem?_map, List.getElem?_eq_getElem hlt] at hj
      simpa [List.getD, hlt] using hj)
    simpa using this

set_option maxRecDepth 100000 in
set_option maxHeartbeats 1000000 in
theorem termKey_c (l h : Nat) (v : Value) (t : List Int) (w : World) (ht : t.length ≤ 40) (hlow : ∀ k, k < t.length → -12 ≤ t.getD k 0 ∧ t.getD k 0 ≤ 9) (hv : SlI l h w v t) :
    Calls Try.prog 133 #[v] w (RetV w (.string (keyT t))) := by
  obtain ⟨ad, cap, rfl, -, -, hr⟩ := hv
  obtain ⟨i0, hi, hz0, hz1, hz2⟩ := info_parts Try.info5
  go_enter Try.func133, Try.ntmps133
  go_wp2_with (at_make; refine wpList_make_full _ rfl _ _ 22 rfl w.heap.size 5 i0 (.int .u8 0) 1 Try.underlying22 hi hz0 hz1 _ _ _ _ t.length rfl rfl rfl rfl (by rw [hz2]; omega) (by unfold maxLen; omega) (Nat.le_refl _) ?_; intro w1 hown hg)
  have hz3 : (madeCells (Value.int .u8 0).cells (t.length * 1)).toList = ((t.take 0).map (· + 12)).map (Value.int .u8) ++ List.replicate (t.length - 0) (.int .u8 0) := by
    rw [Nat.mul_one]; show (madeCells #[_] _).toList = _; rw [toList_madeCells_one]; simp
  rw [hz3] at hown
  have hb0 : Bel w w1 := (Bel.rfl' w).grown hg (by simp)
  clear hg hz3
  go_loopw [11] (fun i wr => ∃ k : Nat, k ≤ t.length ∧ i = .int .i64 k ∧ wr.ownsRow w.heap.size 5 1 (.slice (some ⟨w.heap.size, 0, none⟩) t.length t.length) t.length (((t.take k).map (· + 12)).map (Value.int .u8) ++ List.replicate (t.length - k) (.int .u8 0)) ∧ Bel w wr) (fun i _ => t.length - (intOf i).toNat)
  case atStart => exact ⟨0, Nat.zero_le _, rfl, hown, hb0⟩
  case round =>
    obtain ⟨k, hk, rfl, ho, hb⟩ := hrel
    by_cases hlt : k < t.length
    · obtain ⟨b, off, rfl, -, hc⟩ := rd hr hb k hlt
      obtain ⟨hx1, hx2⟩ := hlow k hlt
      have HTK : Hid (((t.take (k+1)).map (· + 12)).map (Value.int .u8) = ((t.take k).map (· + 12)).map (Value.int .u8) ++ [.int .u8 (t.getD k 0 + 12)]) := by show _ = _; rw [List.take_succ_eq_append_getElem hlt, List.map_append, List.map_append]; simp [List.getD, hlt]
      have hin1 : (k : Int) < t.length := by omega
      have hcell := ho.cellAt k (by omega)
      have hfr := ho.frozenAt k
      rw [List.getElem?_append_right (by simp; omega)] at hcell
      rw [show k - (((t.take k).map (· + 12)).map (Value.int .u8)).length = 0 from by simp; omega, List.getElem?_replicate, if_pos (by omega)] at hcell
      have hst := Lib.hid (ho.stored k (.int .u8 (t.getD k 0 + 12))).1
      generalize t.getD k 0 = x at *
      have hw1 := IntWalk.i64_in (x + 12) (by omega)
      have hw2 : IntKind.u8.wrap (x + 12) = x + 12 := by simp [IntKind.wrap, IntKind.bits, IntKind.signed]; omega
      clear hr hlow hown ho
      go_wp2_with fail
      go_roundw
      case rel =>
        refine ⟨k+1, by omega, by go_num, ?_, hb.set (Nat.le_refl _) _⟩
        have h2 := hst.out
        rw [List.set_append_right _ _ (by simp; omega), show k - (((t.take k).map (· + 12)).map (Value.int .u8)).length = 0 from by simp; omega, show t.length - k = (t.length - (k+1)) + 1 from by omega, List.replicate_succ, List.set_cons_zero] at h2
        rw [HTK.out]
        simpa using h2
      case measure => simp [intOf]; omega
    · rw [show t.length - k = 0 from by omega, List.replicate_zero, List.append_nil, List.take_of_length_le (by omega)] at ho
      have hconv := convN wr w.heap.size t.length t.length (t.map (· + 12)) (by simp) (fun j hj => by
        have hj' : j < t.length := by simpa using hj
        rw [ho.cellAt j (by omega), List.getElem?_map, List.getElem?_eq_getElem (by simpa using hj')]
        simp [List.getD, hj'])
      clear hown ho hr hlow
      go_wp2_with fail
      go_ret
      exact ⟨rfl, hb⟩

set_option maxRecDepth 100000 in
set_option maxHeartbeats 1000000 in
theorem keyOf_c (l h : Nat) (p : Bool) (u1 u2 : Value) (xl xr : List Int) (w : World) (hl : xl.length ≤ 40) (hr : xr.length ≤ 40) (hll : ∀ k, k < xl.length → -12 ≤ xl.getD k 0 ∧ xl.getD k 0 ≤ 9) (hlr : ∀ k, k < xr.length → -12 ≤ xr.getD k 0 ∧ xr.getD k 0 ≤ 9) (h1 : SlI l h w u1 xl) (h2 : SlI l h w u2 xr) :
    Calls Try.prog 114 #[.agg #[.bool p, u1, u2]] w (RetV w (.agg #[.bool p, .string (Lib.minS (keyT xl) (keyT xr)), .string (Lib.maxS (keyT xl) (keyT xr))])) := by
  have HB0 : Bel w ((w.alloc (.cells #[.bool p, u1, u2] 68)).alloc (.cells #[.bool false, .string ⟨#[]⟩, .string ⟨#[]⟩] 117)).drew := (Bel.alloc2 _ _ _).drew
  have k1 : ((w.alloc (.cells #[.bool p, u1, u2] 68)).alloc (.cells #[.bool false, .string ⟨#[]⟩, .string ⟨#[]⟩] 117)).drew.cell? ⟨w.heap.size, 1, none⟩ = some u1 := boxc (Bel.alloc0 _ _).drew 1 _ rfl
  have k2 : ((w.alloc (.cells #[.bool p, u1, u2] 68)).alloc (.cells #[.bool false, .string ⟨#[]⟩, .string ⟨#[]⟩] 117)).drew.cell? ⟨w.heap.size, 2, none⟩ = some u2 := boxc (Bel.alloc0 _ _).drew 2 _ rfl
  have HL := Lib.hid (fun (w' : World) (hq : Bel w w') => termKey_c l h u1 xl w' hl hll (h1.below hq))
  have HR := Lib.hid (fun (w' : World) (hq : Bel w w') => termKey_c l h u2 xr w' hr hlr (h2.below hq))
  clear h1 h2
  generalize keyT xl = a at *
  generalize keyT xr = b at *
  have hmin := fun (W : World) => Lib.run_min_strs (P := Try.prog) W #[9, 9] 9 a b
  have hmax := fun (W : World) => Lib.run_max_strs (P := Try.prog) W #[9, 9] 9 a b
  generalize Lib.minS a b = lo at *
  generalize Lib.maxS a b = hi at *
  go_enter Try.func114, Try.ntmps114
  go_wp2_with fail
  go_region_held3 (fun w' => w'.cell? ⟨w.heap.size, 1, none⟩ = some u1 ∧ w'.cell? ⟨w.heap.size, 2, none⟩ = some u2)
    (first | exact ⟨k14, k24⟩ | exact ⟨k13, k23⟩ | exact ⟨k1, k2⟩ | fail)
    (first
      | (go_at_call 133; refine (HR.out _ HB3).mono ?_; rintro e w4 ⟨rfl, hb4⟩; have HB4 := HB3.step hb4; have k14 := hb4.at (World.block_lt_of_cell? _ ⟨_, _, none⟩ k13) k13; have k24 := hb4.at (World.block_lt_of_cell? _ ⟨_, _, none⟩ k23) k23)
      | (go_at_call 133; refine (HL.out _ HB0).mono ?_; rintro e w3 ⟨rfl, hb3⟩; have HB3 := HB0.step hb3; have k13 := hb3.at (World.block_lt_of_cell? _ ⟨_, _, none⟩ k1) k1; have k23 := hb3.at (World.block_lt_of_cell? _ ⟨_, _, none⟩ k2) k2)
      | fail)
  have hbb := hb3.step hb4
  have e0 := hbb.at (b := w.heap.size) (off := 0) (by simp [World.drew]; omega) (show World.cell? _ _ = some (.bool p) from boxc (Bel.alloc0 _ _).drew 0 _ rfl)
  have y0 := hbb.at (b := w.heap.size + 1) (off := 0) (by simp [World.drew]) (show World.cell? _ _ = some (.bool false) from (Bel.drew0 _).at (by simp) (by simp [go_sem]))
  have y1 := hbb.at (b := w.heap.size + 1) (off := 1) (by simp [World.drew]) (show World.cell? _ _ = some (.string ⟨#[]⟩) from (Bel.drew0 _).at (by simp) (by simp [go_sem]))
  have y2 := hbb.at (b := w.heap.size + 1) (off := 2) (by simp [World.drew]) (show World.cell? _ _ = some (.string ⟨#[]⟩) from (Bel.drew0 _).at (by simp) (by simp [go_sem]))
  have g1 : ∀ i, w4.frozen? ⟨w.heap.size + 1, i, none⟩ = false := fun i => (hbb.frozen (p := ⟨w.heap.size + 1, i, none⟩) (by simp [World.drew])).trans (((Bel.drew0 _).frozen (p := ⟨w.heap.size + 1, i, none⟩) (by simp)).trans (by simp [go_sem]))
  go_wp2_with fail
  have HB5 := (((HB4.set (p := ⟨w.heap.size + 1, 0, none⟩) (by simp) (.bool p)).set (p := ⟨w.heap.size + 1, 1, none⟩) (by simp) (.string lo)).set (p := ⟨w.heap.size + 1, 2, none⟩) (by simp) (.string hi))
  refine bodyPost_ret (v := .agg #[.bool p, .string lo, .string hi]) (by simp [results, Try.results114, go_sem, y0, y1, y2]) rfl ⟨rfl, HB5⟩

set_option maxRecDepth 100000 in
set_option maxHeartbeats 1000000 in
theorem isSame_c (p : Bool) (x y : ByteArray) (w : World) :
    Calls Try.prog 115 #[.agg #[.bool p, .string x, .string y]] w (RetV w (.bool (decide (x = y)))) := by
  have e : (x.toList == y.toList) = decide (x = y) := by
    rw [Bool.eq_iff_iff]; simp [ba_inj]
  go_enter Try.func115, Try.ntmps115
  go_wp2_with fail
  go_ret
  exact ⟨rfl, Bel.alloc0 _ _⟩

def vK (k : Ky) : Value := .agg #[.bool k.1, .string k.2.1, .string k.2.2]
def cellsK (ks : List Ky) : List Value := ks.flatMap fun k => [.bool k.1, .string k.2.1, .string k.2.2]
theorem eqK (W : World) (a b : Ky) : (Op.equalIn 10000 117 (.agg #[.bool a.1, .string a.2.1, .string a.2.2]) (.agg #[.bool b.1, .string b.2.1, .string b.2.2])).run Try.prog W = .ok (decide (a = b)) W := by
  simp [go_sem, ba_inj]
  obtain ⟨p, x, y⟩ := a
  obtain ⟨q, x', y'⟩ := b
  simp only [Prod.mk.injEq]
  by_cases h1 : p = q
  · by_cases h2 : x = x'
    · by_cases h3 : y = y'
      · simp [h1, h2, h3]
      · simp [h1, h2, h3]
    · simp [h1, h2]
  · simp [h1]
theorem cellsK_len (ks : List Ky) : (cellsK ks).length = ks.length * 3 := by
  induction ks with
  | nil => rfl
  | cons x r ih => show (_ :: _ :: _ :: cellsK r).length = _; simp [ih]; omega
theorem cellsK_get (ks : List Ky) (j : Nat) (k : Ky) (h : ks[j]? = some k) : (cellsK ks)[j * 3]? = some (.bool k.1) ∧ (cellsK ks)[j * 3 + 1]? = some (.string k.2.1) ∧ (cellsK ks)[j * 3 + 2]? = some (.string k.2.2) := by
  induction ks generalizing j with
  | nil => simp at h
  | cons x r ih =>
    have e : cellsK (x :: r) = .bool x.1 :: .string x.2.1 :: .string x.2.2 :: cellsK r := rfl
    cases j with
    | zero => simp at h; subst h; rw [e]; simp
    | succ j =>
      rw [e, show (j + 1) * 3 = j * 3 + 1 + 1 + 1 from by omega]
      simpa using ih j (by simpa using h)
theorem cellsK_app (a b : List Ky) : cellsK (a ++ b) = cellsK a ++ cellsK b := by simp [cellsK]
/-- A row of keys of the call's own. -/
abbrev RowK (lo : Nat) (w : World) (v : Value) (ks : List Ky) : Prop := w.ownsRow lo 117 3 v ks.length (cellsK ks)
theorem RowK.nil (lo : Nat) (w : World) : RowK lo w (.slice none 0 0) [] := World.ownsRow_nil _ _ _ _
theorem RowK.form {lo : Nat} {w : World} {v : Value} {ks : List Ky} (h : RowK lo w v ks) : ∃ ad c, v = .slice ad ks.length c := by
  rcases h.2 with ⟨e1, h2⟩ | ⟨g, cap, cur, e1, _⟩
  · exact ⟨none, 0, by rw [e1, h2]⟩
  · exact ⟨_, _, e1⟩
theorem RowK.at {lo : Nat} {w : World} {ad : Option Addr} {n c : Nat} {ks : List Ky} (h : RowK lo w (.slice ad n c) ks) (j : Nat) (hj : j < ks.length) :
    ∃ g, ad = some ⟨g, 0, none⟩ ∧ w.cell? ⟨g, j * 3, none⟩ = some (.bool (ks.getD j (false, ByteArray.empty, ByteArray.empty)).1) ∧ w.cell? ⟨g, j * 3 + 1, none⟩ = some (.string (ks.getD j (false, ByteArray.empty, ByteArray.empty)).2.1) ∧ w.cell? ⟨g, j * 3 + 2, none⟩ = some (.string (ks.getD j (false, ByteArray.empty, ByteArray.empty)).2.2) := by
  have h0 := h
  rcases h.2 with ⟨e1, h2⟩ | ⟨g, cap, cur, e1, _⟩
  · omega
  · simp only [Value.slice.injEq] at e1
    obtain ⟨rfl, rfl, rfl⟩ := e1
    obtain ⟨t0, t1, t2⟩ := cellsK_get ks j _ (List.getElem?_eq_getElem hj)
    have e : ks.getD j (false, ByteArray.empty, ByteArray.empty) = ks[j] := by simp [List.getD, hj]
    rw [e]
    exact ⟨g, rfl, (h0.cellAt _ (by omega)).trans t0, (h0.cellAt _ (by omega)).trans t1, (h0.cellAt _ (by omega)).trans t2⟩

set_option maxRecDepth 100000 in
set_option maxHeartbeats 1000000 in
theorem indexK_c (lo : Nat) (v : Value) (ks : List Ky) (key : Ky) (w : World) (hl : ks.length ≤ 1048576) (hv : RowK lo w v ks) :
    Calls Try.prog 134 #[v, .agg #[.bool key.1, .string key.2.1, .string key.2.2]] w (fun e w' => (∃ z : Int, e = .returned (.int .i64 z) ∧ (decide (0 ≤ z) = ks.any (fun y => decide (key = y))) ∧ -1 ≤ z ∧ z ≤ 1048576) ∧ Bel w w') := by
  obtain ⟨ad, cap, rfl⟩ := hv.form
  have k0 : ∀ w', Bel (w.alloc (.cells #[.bool key.1, .string key.2.1, .string key.2.2] 117)) w' → w'.cell? ⟨w.heap.size, 0, none⟩ = some (.bool key.1) ∧ w'.cell? ⟨w.heap.size, 1, none⟩ = some (.string key.2.1) ∧ w'.cell? ⟨w.heap.size, 2, none⟩ = some (.string key.2.2) := fun w' hb => ⟨boxc hb 0 _ rfl, boxc hb 1 _ rfl, boxc hb 2 _ rfl⟩
  have K0 := Lib.hid k0
  clear k0
  go_enter Try.func134, Try.ntmps134
  go_wp2_with fail
  go_loopw [8] (fun i wr => ∃ k : Nat, k ≤ ks.length ∧ i = .int .i64 k ∧ ((ks.take k).any (fun y => decide (key = y)) = false) ∧ Bel (w.alloc (.cells #[.bool key.1, .string key.2.1, .string key.2.2] 117)) wr) (fun i _ => ks.length - (intOf i).toNat)
  case atStart => exact ⟨0, Nat.zero_le _, rfl, by simp, Bel.rfl' _⟩
  case round =>
    obtain ⟨k, hk, rfl, hno, hb⟩ := hrel
    obtain ⟨e0, e1, e2⟩ := K0.out _ (hb.drew)
    by_cases hlt : k < ks.length
    · obtain ⟨g, rfl, c0, c1, c2⟩ := RowK.at (ownsRow_bel hv hb.of_alloc) k hlt
      have hq := fun W => eqK W key (ks.getD k (false, ByteArray.empty, ByteArray.empty))
      have c0 := (Bel.drew0 wr).at (World.block_lt_of_cell? _ ⟨_, _, none⟩ c0) c0
      have c1 := (Bel.drew0 wr).at (World.block_lt_of_cell? _ ⟨_, _, none⟩ c1) c1
      have c2 := (Bel.drew0 wr).at (World.block_lt_of_cell? _ ⟨_, _, none⟩ c2) c2
      have hin1 : (k : Int) < ks.length := by omega
      have HTK : Hid (ks.take (k+1) = ks.take k ++ [ks.getD k (false, ByteArray.empty, ByteArray.empty)]) := by show _ = _; rw [List.take_succ_eq_append_getElem hlt]; simp [List.getD, hlt]
      have hmem := getD_mem ks (false, ByteArray.empty, ByteArray.empty) k hlt
      generalize ks.getD k (false, ByteArray.empty, ByteArray.empty) = y at *
      clear hv
      by_cases he : key = y
      · simp only [decide_eq_true he] at hq
        have HM : Hid (decide ((0 : Int) ≤ (k : Int)) = ks.any (fun y => decide (key = y))) := by show _ = _; rw [decide_eq_true (by omega)]; exact (List.any_eq_true.2 ⟨y, hmem, by simp [he]⟩).symm
        clear he hmem hno
        go_wp2_with fail
        go_region_held3 (fun w' => (w'.cell? ⟨w.heap.size, 0, none⟩ = some (.bool key.1) ∧ w'.cell? ⟨w.heap.size, 1, none⟩ = some (.string key.2.1) ∧ w'.cell? ⟨w.heap.size, 2, none⟩ = some (.string key.2.2)) ∧ w'.cell? ⟨g, k * 3, none⟩ = some (.bool y.1) ∧ w'.cell? ⟨g, k * 3 + 1, none⟩ = some (.string y.2.1) ∧ w'.cell? ⟨g, k * 3 + 2, none⟩ = some (.string y.2.2))
          (first | exact ⟨⟨e0, e1, e2⟩, c0, c1, c2⟩ | fail)
          (first | fail)
        go_wp2_with fail
        go_ret
        exact ⟨⟨_, rfl, HM.out, by omega, by omega⟩, hb.of_alloc.drew⟩
      · simp only [decide_eq_false he] at hq
        have HN : Hid ((ks.take (k+1)).any (fun y => decide (key = y)) = false) := by show _ = _; rw [HTK.out, List.any_append, hno]; simp [he]
        clear he hmem hno
        go_wp2_with fail
        go_region_held3 (fun w' => (w'.cell? ⟨w.heap.size, 0, none⟩ = some (.bool key.1) ∧ w'.cell? ⟨w.heap.size, 1, none⟩ = some (.string key.2.1) ∧ w'.cell? ⟨w.heap.size, 2, none⟩ = some (.string key.2.2)) ∧ w'.cell? ⟨g, k * 3, none⟩ = some (.bool y.1) ∧ w'.cell? ⟨g, k * 3 + 1, none⟩ = some (.string y.2.1) ∧ w'.cell? ⟨g, k * 3 + 2, none⟩ = some (.string y.2.2))
          (first | exact ⟨⟨e0, e1, e2⟩, c0, c1, c2⟩ | fail)
          (first | fail)
        go_wp2_with fail
        go_roundw
        case rel => exact ⟨k+1, by omega, by go_num, HN.out, hb.drew⟩
        case measure => simp [intOf]; omega
    · rw [List.take_of_length_le (by omega)] at hno
      have HM : Hid (decide ((0 : Int) ≤ -1) = ks.any (fun y => decide (key = y))) := by show _ = _; rw [hno]; rfl
      clear hno hv
      go_wp2_with fail
      go_ret
      exact ⟨⟨_, rfl, HM.out, by omega, by omega⟩, hb.of_alloc⟩
end Go.Proofs.Ytajmjjandkdhiaa
