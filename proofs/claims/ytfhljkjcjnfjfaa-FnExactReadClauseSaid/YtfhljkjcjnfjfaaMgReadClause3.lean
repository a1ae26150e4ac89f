/- Texts merged, part 3. -/
import Derived.Lib.Bytealg
import Derived.Lib.Strings
import Derived.Test.YtfhljkjcjnfjfaaMgReadClause2
section
namespace Go.Proofs.Ytfhljkjcjnfjfaa
open Go.RowKit
set_option maxRecDepth 100000

theorem slIndex_q (s : ByteArray) (c : Int) (w : World) :
    Calls Try.prog 153 #[.string s, .int .u8 c] w fun e w' => e = .returned (.int .i64 (Lib.indexByte s.data.toList c.toNat.toUInt8)) ∧ w' = w := by
  go_enter Try.func153, Try.ntmps153
  go_wp2_with fail
  rw [run_callFunc_extern Try.func154 (by kernel_rfl) (by kernel_rfl) (by kernel_rfl) (e := Extern.BytealgIndexByte.indexByte) (by kernel_rfl), Lib.run_indexByteString]
  simp only [Result.andThen]
  rw [Oper.upon_value]
  go_wp2_with fail
  go_ret
  exact ⟨rfl, rfl⟩
theorem sIndex_q (s : ByteArray) (c : Int) (w : World) :
    Calls Try.prog 152 #[.string s, .int .u8 c] w fun e w' => e = .returned (.int .i64 (Lib.indexByte s.data.toList c.toNat.toUInt8)) ∧ w' = w := by
  go_enter Try.func152, Try.ntmps152
  go_wp2_with (go_at_call 153; refine (slIndex_q s c _).mono ?_; rintro e w' ⟨rfl, rfl⟩)
  go_ret
  exact ⟨rfl, rfl⟩

theorem varIdx : ∀ n : Nat, n < 256 → Lib.indexByte [65, 66, 67, 68, 69, 70, 71, 72, 73, 74, 75, 76] (UInt8.ofNat n) = if inB n 65 76 then (n : Int) - 65 else -1 := by decide +kernel
theorem symIdx : ∀ n : Nat, n < 256 → Lib.indexByte [97, 98, 99, 100, 101, 102, 103, 104, 105, 106] (UInt8.ofNat n) = if inB n 97 106 then (n : Int) - 97 else -1 := by decide +kernel
theorem varIdx_v (c : UInt8) (w : World) : Calls Try.prog 152 #[.string ⟨#[65, 66, 67, 68, 69, 70, 71, 72, 73, 74, 75, 76]⟩, .int .u8 (c.toNat : Int)] w fun e w' => e = .returned (.int .i64 (if inB c.toNat 65 76 then (c.toNat : Int) - 65 else -1)) ∧ w' = w := by
  have h := sIndex_q ⟨#[65, 66, 67, 68, 69, 70, 71, 72, 73, 74, 75, 76]⟩ (c.toNat : Int) w
  have h2 := varIdx c.toNat c.toNat_lt
  simp only [Int.toNat_natCast] at h
  rw [← h2]; exact h
theorem symIdx_v (c : UInt8) (w : World) : Calls Try.prog 152 #[.string ⟨#[97, 98, 99, 100, 101, 102, 103, 104, 105, 106]⟩, .int .u8 (c.toNat : Int)] w fun e w' => e = .returned (.int .i64 (if inB c.toNat 97 106 then (c.toNat : Int) - 97 else -1)) ∧ w' = w := by
  have h := sIndex_q ⟨#[97, 98, 99, 100, 101, 102, 103, 104, 105, 106]⟩ (c.toNat : Int) w
  have h2 := symIdx c.toNat c.toNat_lt
  simp only [Int.toNat_natCast] at h
  rw [← h2]; exact h

def numV (ar : List Int) (c : UInt8) : Value := match symAt ar c with | none => .tuple #[.int .i64 0, .bool false] | some x => .tuple #[.int .i64 x, .bool true]

set_option maxRecDepth 100000 in
theorem numberOf_c (l h : Nat) (v : Value) (ar : List Int) (c : UInt8) (w : World) (hg : goodSign ar = true) (hv : SlI l h w v ar) :
    Calls Try.prog 150 #[.agg #[v], .int .u8 (c.toNat : Int)] w (RetV w (numV ar c)) := by
  have hlen := sign_len ar hg
  obtain ⟨ad, cap, rfl⟩ := hv.form
  have hbb : ((c.toNat : Nat) : Int) < 256 := by have := c.toNat_lt; omega
  have hv1 := varIdx_v c
  have hs1 := symIdx_v c
  by_cases h1 : inB c.toNat 65 76 = true
  · have E : Hid (numV ar c = .tuple #[.int .i64 (-1 - ((c.toNat : Int) - 65)), .bool true]) := by show _ = _; unfold numV symAt; rw [if_pos h1]
    simp only [if_pos h1] at hv1
    have HV := Lib.hid hv1
    have h65 : (65 : Int) ≤ c.toNat := by simp [inB] at h1; omega
    clear hv1 hs1 h1
    go_enter Try.func150, Try.ntmps150
    go_wp2_with fail
    refine (HV.out _).mono ?_; rintro e w1 ⟨rfl, rfl⟩
    have hge : decide ((c.toNat : Int) - 65 ≥ 0) = true := by simp; omega
    go_wp2_with fail
    go_ret2
    exact ⟨by rw [E.out]; rfl, Bel.alloc0 _ _⟩
  · simp only [if_neg h1] at hv1
    have HV := Lib.hid hv1
    by_cases h2 : inB c.toNat 97 106 = true
    · simp only [if_pos h2] at hs1
      have HS := Lib.hid hs1
      by_cases h3 : (c.toNat : Int) - 97 < ar.length
      · have E : Hid (numV ar c = .tuple #[.int .i64 ((c.toNat : Int) - 97), .bool true]) := by
          show _ = _; unfold numV symAt; rw [if_neg h1, if_pos (by simp [inB] at h2 ⊢; omega)]
        have h97 : (97 : Int) ≤ c.toNat := by simp [inB] at h2; omega
        clear hv1 hs1 h1 h2
        go_enter Try.func150, Try.ntmps150
        go_wp2_with fail
        refine (HV.out _).mono ?_; rintro e w1 ⟨rfl, rfl⟩
        go_wp2_with fail
        refine (HS.out _).mono ?_; rintro e w1 ⟨rfl, rfl⟩
        go_wp2_with fail
        go_ret2
        exact ⟨by rw [E.out]; rfl, Bel.alloc0 _ _⟩
      · have E : Hid (numV ar c = .tuple #[.int .i64 0, .bool false]) := by
          show _ = _; unfold numV symAt; rw [if_neg h1, if_neg (by simp [inB] at h2 ⊢; omega)]
        have h97 : (97 : Int) ≤ c.toNat := by simp [inB] at h2; omega
        clear hv1 hs1 h1 h2
        go_enter Try.func150, Try.ntmps150
        go_wp2_with fail
        refine (HV.out _).mono ?_; rintro e w1 ⟨rfl, rfl⟩
        go_wp2_with fail
        refine (HS.out _).mono ?_; rintro e w1 ⟨rfl, rfl⟩
        go_wp2_with fail
        go_ret2
        exact ⟨by rw [E.out]; rfl, Bel.alloc0 _ _⟩
    · simp only [if_neg h2] at hs1
      have HS := Lib.hid hs1
      have E : Hid (numV ar c = .tuple #[.int .i64 0, .bool false]) := by
        show _ = _; unfold numV symAt; rw [if_neg h1, if_neg (by simp [inB] at h2 ⊢; omega)]
      clear hv1 hs1 h1 h2
      go_enter Try.func150, Try.ntmps150
      go_wp2_with fail
      refine (HV.out _).mono ?_; rintro e w1 ⟨rfl, rfl⟩
      go_wp2_with fail
      refine (HS.out _).mono ?_; rintro e w1 ⟨rfl, rfl⟩
      go_wp2_with fail
      go_ret2
      exact ⟨by rw [E.out]; rfl, Bel.alloc0 _ _⟩

theorem cut1 (s : ByteArray) (q : Nat) (h : q < s.size) : (s.extract q s.size).extract 0 1 = ⟨#[s[q]]⟩ := by
  apply ByteArray.ext
  simp only [ByteArray.data_extract]
  apply Array.ext
  · have h' : q < s.data.size := h
    simp; omega
  · intro i h1 h2
    simp at h2
    subst h2
    have h' : q < s.data.size := h
    simp only [Array.getElem_extract]
    rfl
theorem one_eq (a b : UInt8) : ((⟨#[a]⟩ : ByteArray).toList == [b]) = decide (some a = some b) := by
  have h : (⟨#[a]⟩ : ByteArray).toList = [a] := by rw [ByteArray.toList_eq]
  rw [h, Bool.eq_iff_iff]; simp

theorem slPrefix_q (s : ByteArray) (q : Nat) (b : UInt8) (hq : q ≤ s.size) (hs : s.size ≤ 1048576) (w : World) :
    Calls Try.prog 145 #[.string (s.extract q s.size), .string ⟨#[b]⟩] w fun e w' => e = .returned (.bool (decide (s.data.toList[q]? = some b))) ∧ w' = w := by
  by_cases h : q < s.size
  · have E : Hid ((((s.extract q s.size).extract 0 1).toList == [b]) = decide (s.data.toList[q]? = some b)) := by
      show _ = _; rw [cut1 s q h, one_eq, sa_get s q h]
    go_enter Try.func145, Try.ntmps145
    go_wp2_with fail
    go_ret
    exact ⟨by rw [← E.out]; rfl, rfl⟩
  · have E : Hid (decide (s.data.toList[q]? = some b) = false) := by
      show _ = _; rw [List.getElem?_eq_none (by rw [Array.length_toList]; show s.size ≤ q; omega)]; rfl
    go_enter Try.func145, Try.ntmps145
    go_wp2_with fail
    go_ret
    exact ⟨by first | (rw [E.out]; rfl) | rfl | (simp; rfl), rfl⟩
theorem sPrefix_v (s : ByteArray) (q : Nat) (b : UInt8) (r : Bool) (hr : decide (s.data.toList[q]? = some b) = r) (hq : q ≤ s.size) (hs : s.size ≤ 1048576) (w : World) :
    Calls Try.prog 132 #[.string (s.extract q s.size), .string ⟨#[b]⟩] w fun e w' => e = .returned (.bool r) ∧ w' = w := by
  have h := fun w => slPrefix_q s q b hq hs w
  rw [hr] at h
  have HH := Lib.hid h
  clear h hr
  go_enter Try.func132, Try.ntmps132
  go_wp2_with (go_at_call 145; refine (HH.out _).mono ?_; rintro e w' ⟨rfl, rfl⟩)
  go_ret
  exact ⟨rfl, rfl⟩
end Go.Proofs.Ytfhljkjcjnfjfaa
end
section
namespace Go.Proofs.Ytfhljkjcjnfjfaa
open Go.RowKit

theorem numV_none {ar : List Int} {c : UInt8} (h : symAt ar c = none) : numV ar c = .tuple #[.int .i64 0, .bool false] := by simp [numV, h]
theorem numV_some {ar : List Int} {c : UInt8} {x : Int} (h : symAt ar c = some x) : numV ar c = .tuple #[.int .i64 x, .bool true] := by simp [numV, h]
theorem numberOf_v (l h : Nat) (v : Value) (ar : List Int) (c : UInt8) (r : Value) (he : numV ar c = r) (w : World) (hg : goodSign ar = true) (hv : SlI l h w v ar) :
    Calls Try.prog 150 #[.agg #[v], .int .u8 (c.toNat : Int)] w (RetV w r) := he ▸ numberOf_c l h v ar c w hg hv
theorem sym_bd {ar : List Int} {c : UInt8} {x : Int} (h : symAt ar c = some x) : -12 ≤ x ∧ x < ar.length := by
  unfold symAt at h
  by_cases h1 : inB c.toNat 65 76 = true
  · rw [if_pos h1] at h; simp [inB] at h1 h; omega
  · rw [if_neg h1] at h
    by_cases h2 : inB c.toNat 97 (97 + (ar.length : Int) - 1) = true
    · rw [if_pos h2] at h; simp [inB] at h2 h; omega
    · rw [if_neg h2] at h; simp at h

set_option maxRecDepth 100000 in
set_option maxHeartbeats 4000000 in
theorem scanTerm_c (l h : Nat) (v : Value) (ar : List Int) (s : ByteArray) (hg : goodSign ar = true) (hs : s.size ≤ 1048576) :
    ∀ (n p : Nat) (w : World), s.data.toList.length + 1 - p ≤ n → p ≤ s.data.toList.length → SlI l h w v ar → Calls Try.prog 146 #[.agg #[v], .string s, .int .i64 p] w (RetScan w (scanF ar s.data.toList n p)) := by
  have hsz : s.data.toList.length = s.size := by rw [Array.length_toList]; rfl
  intro n
  induction n with
  | zero => intro p w hn hp; omega
  | succ n ih =>
    intro p w hn hp hv
    have IH := Lib.hid ih; clear ih
    have hv0 := hv
    obtain ⟨ad, cap, rfl, -, -, hr⟩ := hv
    have hlen := sign_len ar hg
    obtain ⟨i0, hi0, hz0, hz1, hz2⟩ := info_parts Try.info3
    rw [hsz] at hn hp
    by_cases hlt : p < s.size
    · have hget := sa_get s p hlt
      have hlt2 : (p : Int) < s.size := by omega
      have hbx := boxc (Bel.rfl' (w.alloc (.cells #[.slice ad ar.length cap] 30))) 0 _ rfl
      cases hsym : symAt ar s[p] with
      | none =>
        have E := Lib.hid (scan_bad (f := n) hget hsym)
        have HN := Lib.hid (numV_none hsym)
        clear hsym hget hr
        go_enter Try.func146, Try.ntmps146
        go_wp2_with fail
        go_region_held3 (fun w' => Bel (w.alloc (.cells #[.slice ad ar.length cap] 30)) w' ∧ w'.cell? ⟨w.heap.size, 0, none⟩ = some (.slice ad ar.length cap))
          (first | exact ⟨Bel.drew0 _, hbx⟩ | exact ⟨hb1.of_drew, boxc hb1.of_drew 0 _ rfl⟩)
          (first | (go_at_call 150; refine (numberOf_v _ _ _ ar s[p] _ HN.out _ hg ((hv0.alloc _).below (Bel.drew0 _))).mono ?_; rintro e w1 ⟨rfl, hb1⟩))
        go_wp2_with fail
        go_ret3
        exact ⟨_, _, _, by rw [E.out]; rfl, by rw [E.out]; exact OwnI.nil _ _ _, hb1.of_drew.of_alloc⟩
      | some x =>
        obtain ⟨hx12, hxl⟩ := sym_bd hsym
        have HN := Lib.hid (numV_some hsym)
        by_cases hx0 : x < 0
        · have E := Lib.hid (scan_leaf (f := n) hget hsym (arOf_neg hx0))
          have hx0' : decide (x < 0) = true := by simpa using hx0
          clear hsym hget hr
          go_enter Try.func146, Try.ntmps146
          go_wp2_with fail
          go_region_held3 (fun w' => Bel (w.alloc (.cells #[.slice ad ar.length cap] 30)) w' ∧ w'.cell? ⟨w.heap.size, 0, none⟩ = some (.slice ad ar.length cap))
            (first | exact ⟨Bel.drew0 _, hbx⟩ | exact ⟨hb1.of_drew, boxc hb1.of_drew 0 _ rfl⟩)
            (first | (go_at_call 150; refine (numberOf_v _ _ _ ar s[p] _ HN.out _ hg ((hv0.alloc _).below (Bel.drew0 _))).mono ?_; rintro e w1 ⟨rfl, hb1⟩))
          go_wp2_with fail
          go_ret3
          exact ⟨_, _, _, by rw [E.out]; rfl, by rw [E.out]; exact (OwnI.of_row (own1 w1 _)).mono (by have := hb1.of_drew.size; simp at this; omega) (Nat.le_refl _), hb1.of_drew.of_alloc.alloc _⟩
        · obtain ⟨m, rfl⟩ : ∃ m : Nat, x = m := ⟨x.toNat, by omega⟩
          have hml : m < ar.length := by omega
          obtain ⟨b, off, rfl, hbl, hcell⟩ := rd hr (Bel.rfl' w) m hml
          have hn03 := ar_nonneg ar hg m
          have har : arOf ar (m : Int) = (ar.getD m 0).toNat := arOf_nat m
          obtain ⟨a, haq⟩ : ∃ a : Nat, ar.getD m 0 = a := ⟨(ar.getD m 0).toNat, by omega⟩
          rw [haq] at hcell har hn03
          rw [show ((a : Int)).toNat = a from by omega] at har
          have hx0' : decide ((m : Int) < 0) = false := by simp
          clear haq hr hx0
          by_cases ha0 : a = 0
          · have E := Lib.hid (scan_leaf (f := n) hget hsym (by rw [har, ha0]))
            have ha1 : ((a : Int) == 0) = true := by rw [beq_iff_eq]; omega
            clear hsym hget har ha0
            go_enter Try.func146, Try.ntmps146
            go_wp2_with fail
            go_region_held3 (fun w' => Bel (w.alloc (.cells #[.slice (some ⟨b, off, none⟩) ar.length cap] 30)) w' ∧ w'.cell? ⟨w.heap.size, 0, none⟩ = some (.slice (some ⟨b, off, none⟩) ar.length cap))
              (first | exact ⟨Bel.drew0 _, hbx⟩ | exact ⟨hb1.of_drew, boxc hb1.of_drew 0 _ rfl⟩)
              (first | (go_at_call 150; refine (numberOf_v _ _ _ ar s[p] _ HN.out _ hg ((hv0.alloc _).below (Bel.drew0 _))).mono ?_; rintro e w1 ⟨rfl, hb1⟩))
            have hb13 := hb1.of_drew.alloc (.cells #[.int .i64 (m : Int)] 3)
            have hx3 := boxc hb13 0 _ rfl
            have hc3 := hb13.of_alloc.at hbl hcell
            go_wp2_with fail
            go_ret3
            exact ⟨_, _, _, by rw [E.out]; rfl, by rw [E.out]; exact (OwnI.of_row (own1 w1 _)).mono (by have := hb1.of_drew.size; simp at this; omega) (Nat.le_refl _), hb1.of_drew.of_alloc.alloc _⟩
          · have E := Lib.hid (scan_args (f := n) hget hsym (by rw [har]; exact ha0))
            rw [har] at E
            have ha1 : ((a : Int) == 0) = false := by simpa using ha0
            have ha3 : (a : Int) ≤ 3 := hn03.2
            clear hsym hget har ha0
            go_enter Try.func146, Try.ntmps146
            go_wp2_with fail
            go_region_held3 (fun w' => Bel (w.alloc (.cells #[.slice (some ⟨b, off, none⟩) ar.length cap] 30)) w' ∧ w'.cell? ⟨w.heap.size, 0, none⟩ = some (.slice (some ⟨b, off, none⟩) ar.length cap))
              (first | exact ⟨Bel.drew0 _, hbx⟩ | exact ⟨hb1.of_drew, boxc hb1.of_drew 0 _ rfl⟩)
              (first | (go_at_call 150; refine (numberOf_v _ _ _ ar s[p] _ HN.out _ hg ((hv0.alloc _).below (Bel.drew0 _))).mono ?_; rintro e w1 ⟨rfl, hb1⟩))
            have hb13 := hb1.of_drew.alloc (.cells #[.int .i64 (m : Int)] 3)
            have hx3 := boxc hb13 0 _ rfl
            have hc3 := hb13.of_alloc.at hbl hcell
            go_wp2_with fail
            go_loopw [2, 11, 54] (fun at' o k' wr => ∃ (q k : Nat) (acc : List Int), k ≤ a ∧ p < q ∧ q ≤ s.size ∧ acc.length ≤ q - p ∧ at' = .int .i64 q ∧ k' = .int .i64 k ∧
                scanF ar s.data.toList (n + 1) p = scanArgs (scanF ar s.data.toList n) s.data.toList (a - k) k acc q ∧
                wr.ownsRow (w.heap.size + 1) 3 1 o acc.length (acc.map (Value.int .i64)) ∧ Bel (w.alloc (.cells #[.slice (some ⟨b, off, none⟩) ar.length cap] 30)) wr) (fun _ _ k' _ => a - (intOf k').toNat)
            case atStart => exact ⟨p + 1, 0, [(m : Int)], Nat.zero_le _, by omega, by omega, by simp, by go_num, rfl, E.out, own_mono (own1 w1 _) (by have := hb1.of_drew.size; simp at this; omega), hb13⟩
            case round =>
              obtain ⟨q, k, acc, hka, hpq, hqs, hal, rfl, rfl, hsc, hown, hbr⟩ := hrel
              have hbox := boxc hbr 0 _ rfl
              have hqs2 : (q : Int) ≤ s.size := by omega
              have HSC := Lib.hid hsc
              clear hsc
              by_cases hka2 : k < a
              · have HAM := Lib.hid (show a - k = (a - (k + 1)) + 1 from by omega)
                by_cases hsep : s.data.toList[q]? = some (sepC k)
                · have HP := Lib.hid (show decide (s.data.toList[q]? = some (sepC k)) = true from by simpa using hsep)
                  have hql : q < s.size := by have := (List.getElem?_eq_some_iff.1 hsep).1; omega
                  have hok := scanF_ok ar s.data.toList n (q + 1) (by omega)
                  have hcall : ∀ w2, SlI l h w2 (.slice (some ⟨b, off, none⟩) ar.length cap) ar → Calls Try.prog 146 #[.agg #[.slice (some ⟨b, off, none⟩) ar.length cap], .string s, .int .i64 ((q : Int) + 1)] w2 (RetScan w2 (scanF ar s.data.toList n (q + 1))) := fun w2 h => IH.out (q + 1) w2 (by omega) (by omega) h
                  have hbad : (scanF ar s.data.toList n (q + 1)).2.2 = false → scanF ar s.data.toList (n + 1) p = ([], (scanF ar s.data.toList n (q + 1)).2.1, false) := fun h => by rw [HSC.out, HAM.out]; exact args_bad hsep h
                  have hnext : (scanF ar s.data.toList n (q + 1)).2.2 = true → scanF ar s.data.toList (n + 1) p = scanArgs (scanF ar s.data.toList n) s.data.toList (a - (k + 1)) (k + 1) (acc ++ (scanF ar s.data.toList n (q + 1)).1) (scanF ar s.data.toList n (q + 1)).2.1 := fun h => by rw [HSC.out, HAM.out]; exact args_next hsep h
                  generalize scanF ar s.data.toList n (q + 1) = r at *
                  obtain ⟨rt, re, rb⟩ := r
                  rw [ScanOk, hsz] at hok
                  obtain ⟨hre, hok1, -⟩ := hok
                  have HCALL := Lib.hid hcall
                  clear hcall hsep IH
                  cases rb with
                  | false =>
                    have E4 := Lib.hid (hbad rfl)
                    clear hbad hnext hok1
                    go_wp2_with fail
                    go_quiet ((first | (go_at_call 151; exact Calls.quiet_of_same (markBefore_q k (sepC k) rfl _)) | (go_at_call 132; exact Calls.quiet_of_same (sPrefix_v s q (sepC k) true HP.out (by omega) hs _))))
                    go_wp2_with fail
                    refine (HCALL.out _ (hv0.below (hbr.of_alloc.drewN _))).mono ?_; rintro e w3 ⟨a3, n3, c3, rfl, ho3, hb3⟩
                    go_wp2_with fail
                    go_ret3
                    exact ⟨_, _, _, by rw [E4.out]; rfl, by rw [E4.out]; exact OwnI.nil _ _ _, (hbr.of_alloc.drewN _).step hb3⟩
                  | true =>
                    have E4 := Lib.hid (hnext rfl)
                    obtain ⟨hok2, hok3⟩ := hok1 rfl
                    simp only at hok2 hok3 hre
                    clear hbad hnext hok1
                    have hrt : rt.length ≤ 1048576 := by omega
                    have hac : acc.length ≤ 1048576 := by omega
                    go_wp2_with fail
                    go_quiet ((first | (go_at_call 151; exact Calls.quiet_of_same (markBefore_q k (sepC k) rfl _)) | (go_at_call 132; exact Calls.quiet_of_same (sPrefix_v s q (sepC k) true HP.out (by omega) hs _))))
                    go_wp2_with fail
                    refine (HCALL.out _ (hv0.below (hbr.of_alloc.drewN _))).mono ?_; rintro e w3 ⟨a3, n3, c3, rfl, ho3, hb3⟩
                    have hbr3 := (hbr.drewN _).step hb3
                    have hbox3 := boxc hbr3 0 _ rfl
                    have hown3 := ownsRow_bel hown (((Bel.rfl' wr).drewN _).step hb3)
                    simp only at ho3
                    obtain rfl : n3 = rt.length := by obtain ⟨_, _, e, _⟩ := ho3.1; simp at e; exact e.2.1
                    cases a3 with
                    | none =>
                      obtain ⟨ad', cap', e, -, hm, hr⟩ := ho3.1
                      simp only [Value.slice.injEq] at e
                      obtain ⟨rfl, -, rfl⟩ := e
                      obtain rfl : rt = [] := by
                        rcases Nat.eq_zero_or_pos rt.length with h0 | h0
                        · exact List.length_eq_zero_iff.1 h0
                        · obtain ⟨_, _, e, _⟩ := hr h0; simp at e
                      obtain rfl : c3 = 0 := hm.2 rfl
                      clear hr hm ho3
                      go_wp2_with (at_builtin; refine wpList_append_own_none rfl _ _ 22 rfl (w.heap.size + 1) 3 i0 1 Try.underlying22 hi0 _ _ _ rfl hown3 rfl ?_)
                      go_roundw
                      case rel => exact ⟨re, k + 1, acc, by omega, by omega, by omega, by omega, rfl, by go_num, by rw [E4.out]; simp, hown3, hbr3⟩
                      case measure => simp [intOf]; omega
                    | some ra =>
                      have hnw := news_of_sl ho3.sl
                      clear ho3
                      go_wp2_with (at_builtin; refine wpList_append_own _ rfl _ _ 22 rfl (w.heap.size + 1) 3 i0 (.int .i64 0) 1 8 Try.underlying22 hi0 hz0 hz1 hz2 rfl (by decide) _ _ _ rfl hown3 ra rt.length c3 (rt.map (Value.int .i64)) rfl (by simp) hnw (ones_int _) (by unfold maxLen; omega) (by omega) (by have := hbr3.size; simp at this; omega) ?_; intro v' w4 hown' hgrow _)
                      have hb4 := hbr3.grown hgrow (fun k hk => by have := own_base hown3 k hk; simp; omega)
                      have hown2 : w4.ownsRow (w.heap.size + 1) 3 1 v' (acc ++ rt).length ((acc ++ rt).map (Value.int .i64)) := by simpa using hown'
                      go_roundw
                      case rel => exact ⟨re, k + 1, acc ++ rt, by omega, by omega, by omega, by simp; omega, rfl, by go_num, E4.out, hown2, hb4⟩
                      case measure => simp [intOf]; omega
                · have E4 : Hid (scanF ar s.data.toList (n + 1) p = ([], q, false)) := by
                    show _ = _; rw [HSC.out, HAM.out]; exact args_nosep hsep
                  have HP := Lib.hid (show decide (s.data.toList[q]? = some (sepC k)) = false from by simpa using hsep)
                  clear hsep
                  go_wp2_with fail
                  go_quiet ((first | (go_at_call 151; exact Calls.quiet_of_same (markBefore_q k (sepC k) rfl _)) | (go_at_call 132; exact Calls.quiet_of_same (sPrefix_v s q (sepC k) false HP.out (by omega) hs _))))
                  go_wp2_with fail
                  go_ret3
                  exact ⟨_, _, _, by rw [E4.out]; rfl, by rw [E4.out]; exact OwnI.nil _ _ _, hbr.of_alloc.drewN _⟩
              · have HAM := Lib.hid (show a - k = 0 from by omega)
                by_cases hsep : s.data.toList[q]? = some 41
                · have E4 : Hid (scanF ar s.data.toList (n + 1) p = (acc, q + 1, true)) := by
                    show _ = _; rw [HSC.out, HAM.out]; exact args_done hsep
                  have HP := Lib.hid (show decide (s.data.toList[q]? = some (41 : UInt8)) = true from by simpa using hsep)
                  have hql : q < s.size := by have := (List.getElem?_eq_some_iff.1 hsep).1; omega
                  obtain ⟨g, m2, c, hv'⟩ := own_form hown
                  subst hv'
                  clear hsep
                  go_wp2_with fail
                  refine (sPrefix_v s q 41 true HP.out (by omega) hs _).mono ?_; rintro e w5 ⟨rfl, rfl⟩
                  go_wp2_with fail
                  go_ret3
                  exact ⟨_, _, _, by rw [E4.out]; rfl, by rw [E4.out]; exact (OwnI.of_row hown).mono (by omega) (Nat.le_refl _), hbr.of_alloc⟩
                · have E4 : Hid (scanF ar s.data.toList (n + 1) p = ([], q, false)) := by
                    show _ = _; rw [HSC.out, HAM.out]; exact args_noclose hsep
                  have HP := Lib.hid (show decide (s.data.toList[q]? = some (41 : UInt8)) = false from by simpa using hsep)
                  clear hsep
                  go_wp2_with fail
                  refine (sPrefix_v s q 41 false HP.out (by omega) hs _).mono ?_; rintro e w5 ⟨rfl, rfl⟩
                  go_wp2_with fail
                  go_ret3
                  exact ⟨_, _, _, by rw [E4.out]; rfl, by rw [E4.out]; exact OwnI.nil _ _ _, hbr.of_alloc⟩
    · have E := Lib.hid (scan_end (ar := ar) (T := s.data.toList) (f := n) (p := p) (by omega))
      rw [hsz] at E
      clear hr
      have hge : decide ((p : Int) ≥ s.size) = true := by simp; omega
      go_enter Try.func146, Try.ntmps146
      go_wp2_with fail
      go_ret3
      exact ⟨_, _, _, by rw [E.out]; rfl, by rw [E.out]; exact OwnI.nil _ _ _, Bel.alloc0 _ _⟩
end Go.Proofs.Ytfhljkjcjnfjfaa
end
section
/- Replacing a subterm in a valid term. No program. -/
namespace Go.Proofs.Ytfhljkjcjnfjfaa

theorem endGo_shift (ar : List Int) : ∀ (r : List Int) (n p d : Nat), endGo ar r n (p + d) = (endGo ar r n p).map (· + d) := by
  intro r
  induction r with
  | nil => intro n p d; cases n <;> simp [endGo]
  | cons x r ih =>
    intro n p d
    cases n with
    | zero => simp [endGo_zero]
    | succ n =>
      rw [endGo_cons, endGo_cons]
      split
      · rw [show p + d + 1 = (p + 1) + d from by omega, ih]
      · rfl

theorem endGo_ext (ar : List Int) : ∀ (r s : List Int) (n p e : Nat), endGo ar r n p = some e → endGo ar (r ++ s) n p = some e := by
  intro r
  induction r with
  | nil =>
    intro s n p e h
    cases n with
    | zero => rw [endGo_zero] at h ⊢; exact h
    | succ n => simp [endGo_nil] at h
  | cons x r ih =>
    intro s n p e h
    cases n with
    | zero => rw [endGo_zero] at h ⊢; exact h
    | succ n =>
      rw [endGo_cons] at h
      rw [List.cons_append, endGo_cons]
      split at h
      · rw [if_pos ‹_›]; exact ih _ _ _ _ h
      · simp at h

/-- What is cut off behind the end does not matter. -/
theorem endGo_cut (ar : List Int) : ∀ (r s : List Int) (n p e : Nat), endGo ar (r ++ s) n p = some e → e ≤ p + r.length → endGo ar r n p = some e := by
  intro r
  induction r with
  | nil =>
    intro s n p e h he
    cases n with
    | zero => rw [endGo_zero] at h ⊢; exact h
    | succ n => have := endGo_gt _ _ _ _ _ h; simp at he; omega
  | cons x r ih =>
    intro s n p e h he
    cases n with
    | zero => rw [endGo_zero] at h ⊢; exact h
    | succ n =>
      rw [List.cons_append, endGo_cons] at h
      rw [endGo_cons]
      split at h
      · rw [if_pos ‹_›]; exact ih s _ _ _ h (by simp at he; omega)
      · simp at h

/-- Behind a head that does not come to the end. -/
theorem endGo_head (ar : List Int) : ∀ (a : List Int) (n p : Nat) (r : List Int) (e : Nat), endGo ar (a ++ r) n p = some e → p + a.length < e → ∃ m, ∀ s, endGo ar (a ++ s) n p = endGo ar s (m + 1) (p + a.length) := by
  intro a
  induction a with
  | nil =>
    intro n p r e h he
    cases n with
    | zero => rw [endGo_zero] at h; simp at h he; omega
    | succ n => exact ⟨n, fun s => by simp⟩
  | cons x a ih =>
    intro n p r e h he
    cases n with
    | zero => rw [endGo_zero] at h; simp at h he; omega
    | succ n =>
      rw [List.cons_append, endGo_cons] at h
      split at h
      · rename_i hx
        obtain ⟨m, hm⟩ := ih _ _ _ _ h (by simp at he; omega)
        exact ⟨m, fun s => by rw [List.cons_append, endGo_cons, if_pos hx, hm, List.length_cons]; congr 1; omega⟩
      · simp at h

/-- The term with the subterm at i, which ends at e, replaced by u. -/
def replaced (t : List Int) (i e : Nat) (u : List Int) : List Int := t.take i ++ u ++ t.drop e
theorem replaced_len (t u : List Int) (i e : Nat) (h1 : i ≤ e) (h2 : e ≤ t.length) : (replaced t i e u).length = i + u.length + (t.length - e) := by
  simp [replaced]; omega

theorem replaced_end (ar t u : List Int) (i e : Nat) (ht : okTerm ar t = true) (hu : okTerm ar u = true) (hi : i < t.length) (he : endOf ar t i = some e) :
    endOf ar (replaced t i e u) 0 = some (replaced t i e u).length := by
  obtain ⟨_, _, h3⟩ := (okTerm_iff ar t).1 ht
  obtain ⟨hu1, _, h4⟩ := (okTerm_iff ar u).1 hu
  unfold endOf at h3 h4 he ⊢
  rw [List.drop_zero] at h3 h4 ⊢
  have hge := endGo_ge _ _ _ _ _ he
  have hgt := endGo_gt _ _ _ _ _ he
  simp at hge
  have hcut : t = t.take i ++ t.drop i := (List.take_append_drop i t).symm
  rw [hcut] at h3
  have hl : (t.take i).length = i := by simp; omega
  obtain ⟨m, hm⟩ := endGo_head ar (t.take i) 1 0 (t.drop i) _ h3 (by rw [hl]; simp; omega)
  rw [hm, hl, Nat.zero_add, show m + 1 = 1 + m from by omega, endGo_add, he] at h3
  simp only [Option.bind_some, List.drop_drop, show i + (e - i) = e from by omega] at h3
  unfold replaced
  rw [List.append_assoc, hm, hl, Nat.zero_add, show m + 1 = 1 + m from by omega, endGo_add]
  have h5 : endGo ar (u ++ t.drop e) 1 i = some (u.length + i) := by
    have := endGo_shift ar (u ++ t.drop e) 1 0 i
    rw [Nat.zero_add] at this
    rw [this, endGo_ext ar u _ _ _ _ h4]; rfl
  rw [h5]
  simp only [Option.bind_some, show u.length + i - i = u.length from by omega, List.drop_left']
  have h6 := endGo_shift ar (t.drop e) m 0 e
  rw [Nat.zero_add, h3] at h6
  have h7 := endGo_shift ar (t.drop e) m 0 (u.length + i)
  rw [Nat.zero_add] at h7
  rw [h7]
  cases h8 : endGo ar (t.drop e) m 0 with
  | none => rw [h8] at h6; simp at h6
  | some z =>
    rw [h8] at h6
    simp only [Option.map_some, Option.some.injEq] at h6 ⊢
    simp at h6 ⊢
    omega

theorem replaced_ok (ar t u : List Int) (i e : Nat) (ht : okTerm ar t = true) (hu : okTerm ar u = true) (hi : i < t.length) (he : endOf ar t i = some e) :
    okTerm ar (replaced t i e u) = decide ((replaced t i e u).length ≤ 40) := by
  have h1 := replaced_end ar t u i e ht hu hi he
  have h2 := ((okTerm_iff ar u).1 hu).1
  have hge := endGo_ge _ _ _ _ _ he
  simp at hge
  have h3 := replaced_len t u i e (by omega) (by omega)
  rw [Bool.eq_iff_iff, okTerm_iff, decide_eq_true_eq]
  constructor
  · exact fun h => h.2.1
  · exact fun h => ⟨by omega, h, h1⟩

/-- A subterm is a term. -/
def partOf (t : List Int) (i e : Nat) : List Int := (t.drop i).take (e - i)
theorem partOf_len (t : List Int) (i e : Nat) (h : e ≤ t.length) : (partOf t i e).length = e - i := by simp [partOf]; omega
theorem partOf_ok (ar t : List Int) (i e : Nat) (ht : okTerm ar t = true) (hi : i < t.length) (he : endOf ar t i = some e) : okTerm ar (partOf t i e) = true := by
  have h1 := ((okTerm_iff ar t).1 ht).2.1
  have hge := endGo_ge _ _ _ _ _ he
  have hgt := endGo_gt _ _ _ _ _ he
  simp at hge
  have hl := partOf_len t i e (by omega)
  rw [okTerm_iff]
  refine ⟨by omega, by omega, ?_⟩
  unfold endOf at he ⊢
  rw [List.drop_zero, hl]
  have h2 : t.drop i = partOf t i e ++ (t.drop i).drop (e - i) := by unfold partOf; rw [List.take_append_drop]
  rw [h2] at he
  have h3 := endGo_cut ar _ _ _ _ _ he (by omega)
  have h4 := endGo_shift ar (partOf t i e) 1 0 i
  rw [Nat.zero_add, h3] at h4
  cases h5 : endGo ar (partOf t i e) 1 0 with
  | none => rw [h5] at h4; simp at h4
  | some z => rw [h5] at h4; simp at h4 ⊢; omega
theorem replaced_self (t : List Int) (i e : Nat) (h1 : i ≤ e) : replaced t i e (partOf t i e) = t := by
  unfold replaced partOf
  rw [List.append_assoc]
  have : List.take (e - i) (List.drop i t) ++ List.drop e t = List.drop i t := by
    have h := List.take_append_drop (e - i) (List.drop i t)
    rw [List.drop_drop, show i + (e - i) = e from by omega] at h
    exact h
  rw [this, List.take_append_drop]
end Go.Proofs.Ytfhljkjcjnfjfaa
end
section
/- ReadTerm: both functions. -/
namespace Go.Proofs.Ytfhljkjcjnfjfaa
open Go.RowKit

/-- What has been read is a term. -/
def ReadOk (ar : List Int) (r : Scanned) : Prop := r.2.2 = true → endGo ar r.1 1 0 = some r.1.length ∧ 1 ≤ r.1.length
theorem args_read (ar : List Int) (g : Nat → Scanned) (T : List UInt8) (hg : ∀ q, ReadOk ar (g q)) : ∀ (m k : Nat) (acc : List Int) (p : Nat), 1 ≤ acc.length → (∀ rest, endGo ar (acc ++ rest) 1 0 = endGo ar rest m acc.length) → ReadOk ar (scanArgs g T m k acc p) := by
  intro m
  induction m with
  | zero =>
    intro k acc p h1 h2
    by_cases h : T[p]? = some 41
    · rw [args_done h]
      intro _
      have := h2 []
      rw [List.append_nil, endGo_zero] at this
      exact ⟨this, h1⟩
    · rw [args_noclose h]; intro h; simp at h
  | succ m ih =>
    intro k acc p h1 h2
    by_cases h : T[p]? = some (sepC k)
    · cases hb : (g (p + 1)).2.2 with
      | false => rw [args_bad h hb]; intro h; simp at h
      | true =>
        rw [args_next h hb]
        obtain ⟨h3, h4⟩ := hg (p + 1) hb
        refine ih _ _ _ (by simp; omega) (fun rest => ?_)
        rw [List.append_assoc, h2, show m + 1 = 1 + m from by omega, endGo_add]
        have h5 : endGo ar ((g (p + 1)).1 ++ rest) 1 acc.length = some ((g (p + 1)).1.length + acc.length) := by
          have := endGo_shift ar ((g (p + 1)).1 ++ rest) 1 0 acc.length
          rw [Nat.zero_add] at this
          rw [this, endGo_ext ar _ _ _ _ _ h3]; rfl
        rw [h5]
        simp only [Option.bind_some, Nat.add_sub_cancel, List.drop_left', List.length_append]
        rw [Nat.add_comm]
    · rw [args_nosep h]; intro h; simp at h
theorem scan_read (ar : List Int) (T : List UInt8) : ∀ (f p : Nat), ReadOk ar (scanF ar T f p) := by
  intro f
  induction f with
  | zero => intro p h; simp [scanF] at h
  | succ f ih =>
    intro p
    by_cases hl : p < T.length
    · obtain ⟨b, h⟩ : ∃ b, T[p]? = some b := ⟨T[p], List.getElem?_eq_getElem hl⟩
      cases hs : symAt ar b with
      | none => rw [scan_bad h hs]; intro h; simp at h
      | some n =>
        have hok : okSym ar n = true := by have := sym_bd hs; simp [okSym, inB]; omega
        by_cases h0 : arOf ar n = 0
        · rw [scan_leaf h hs h0]
          intro _
          refine ⟨?_, by simp⟩
          show endGo ar [n] 1 0 = some 1
          rw [endGo_cons, if_pos hok, h0, endGo_zero]
        · rw [scan_args h hs h0]
          refine args_read ar _ T ih _ _ _ _ (by simp) (fun rest => ?_)
          show endGo ar (n :: rest) 1 0 = endGo ar rest (arOf ar n) 1
          rw [endGo_cons, if_pos hok, Nat.zero_add]
    · rw [scan_end hl]; intro h; simp at h
theorem read_term {ar : List Int} {r : Scanned} (h : ReadOk ar r) (hb : r.2.2 = true) : okTerm ar r.1 = decide (r.1.length ≤ 40) := by
  obtain ⟨h1, h2⟩ := h hb
  rw [Bool.eq_iff_iff, okTerm_iff, decide_eq_true_eq]
  constructor
  · exact fun h => h.2.1
  · exact fun h3 => ⟨h2, h3, by unfold endOf; rw [List.drop_zero]; exact h1⟩

/-- What ReadTerm answers. -/
def readCore (ar : List Int) (n : Nat) (r : Scanned) : Scanned := if r.2.2 = false ∨ r.2.1 < n then ([], r.2.1, false) else if r.1.length ≤ 40 then r else ([], 0, false)
def readAns (ar : List Int) (s : ByteArray) : Scanned :=
  if goodSign ar = true ∧ s.size ≤ 200 then readCore ar s.size (scanF ar s.data.toList (s.data.toList.length + 1) 0) else ([], 0, false)
theorem readAns_len (ar : List Int) (s : ByteArray) : (readAns ar s).1.length ≤ 1048576 := by
  unfold readAns readCore
  split
  · split
    · exact Nat.zero_le _
    · split
      · rename_i h; exact Nat.le_trans h (by omega)
      · exact Nat.zero_le _
  · exact Nat.zero_le _
theorem read_no {ar : List Int} {s : ByteArray} (h : ¬ (goodSign ar = true ∧ s.size ≤ 200)) : readAns ar s = ([], 0, false) := if_neg h
theorem read_yes {ar : List Int} {s : ByteArray} (h1 : goodSign ar = true) (h2 : s.size ≤ 200) : readAns ar s = readCore ar s.size (scanF ar s.data.toList (s.data.toList.length + 1) 0) := if_pos ⟨h1, h2⟩

end Go.Proofs.Ytfhljkjcjnfjfaa
end
section
/- PartAt, ReplaceAt: both functions. -/
namespace Go.Proofs.Ytfhljkjcjnfjfaa
open Go.RowKit

theorem l1End_v (l h l' h' : Nat) (v u : Value) (ar t : List Int) (i q : Nat) (w : World) (he : endOf ar t i = some q) (hg : goodSign ar = true) (ht : t.length ≤ 1048576) (hi : i ≤ t.length) (hv : SlI l h w v ar) (hu : SlI l' h' w u t) :
    Calls Try.prog 127 #[.agg #[v], u, .int .i64 i] w (RetV w (.int .i64 q)) := endI_some he ▸ l1End_c l h l' h' v u ar t i w hg ht hi hv hu
theorem termEnd_v (l h l' h' : Nat) (v u : Value) (ar t : List Int) (i q : Nat) (w : World) (he : endOf ar t i = some q) (hg : goodSign ar = true) (ht : t.length ≤ 1048576) (hi : i ≤ t.length) (hv : SlI l h w v ar) (hu : SlI l' h' w u t) :
    Calls Try.prog 129 #[.agg #[v], u, .int .i64 i] w (RetV w (.tuple #[.int .i64 q, .bool true])) := endP_some he ▸ termEnd_c l h l' h' v u ar t i w hg ht hi hv hu

/-- What PartAt answers. -/
def partAns (ar t : List Int) (i : Int) : List Int := if askOk ar t i then partOf t i.toNat ((endOf ar t i.toNat).getD 0) else []
theorem partAns_yes {ar t : List Int} {k q : Nat} (h : askOk ar t k = true) (he : endOf ar t k = some q) : partAns ar t k = partOf t k q := by simp [partAns, h, he]
theorem partAns_len (ar t : List Int) (i : Int) : (partAns ar t i).length ≤ 1048576 := by
  unfold partAns
  split
  · rename_i h
    obtain ⟨k, e, rfl, hk, he, _, hle, hl, _, _⟩ := ask_yes h
    simp only [Int.toNat_natCast, he, Option.getD_some]
    rw [partOf_len t k e hle]
    omega
  · exact Nat.zero_le _

theorem replaced_len_le (t r : List Int) (i q : Nat) (ht : t.length ≤ 1048576) (hr : r.length ≤ 1048576) : (replaced t i q r).length ≤ 1099511627776 := by
  simp [replaced]; omega

end Go.Proofs.Ytfhljkjcjnfjfaa
end
section
/- Slices of slices of ints: read (SlS), or of the call's own, each in blocks of its own (OwnS); marks. No program. -/
namespace Go.Proofs.Ytfhljkjcjnfjfaa
open Go.RowKit

/-- The slice value v holds slices of ints. -/
def SlS (lo hi : Nat) (w : World) (v : Value) (xss : List (List Int)) : Prop :=
  ∃ ad cap, v = .slice ad xss.length cap ∧ xss.length ≤ cap ∧ (cap ≤ maxLen ∧ (ad = none → cap = 0)) ∧
    (0 < xss.length → ∃ b off, ad = some ⟨b, off, none⟩ ∧ lo ≤ b ∧ b < hi ∧ ∀ j, j < xss.length → ∃ u, w.cell? ⟨b, off + j, none⟩ = some u ∧ SlI lo hi w u (xss.getD j []))

theorem SlI.empty {lo hi lo' hi' w w' v} (h : SlI lo hi w v []) : SlI lo' hi' w' v [] := by
  obtain ⟨ad, cap, e, hc, hm, _⟩ := h
  exact ⟨ad, cap, e, hc, hm, fun h => absurd h (by simp)⟩
theorem OwnI.empty {lo hi lo' hi' w w' v} (h : OwnI lo hi w v []) : OwnI lo' hi' w' v [] := by
  refine ⟨h.1.empty, fun b off n c hv hn => ?_⟩
  obtain ⟨ad, cap, e, _⟩ := h.1
  rw [e] at hv; simp at hv; omega
theorem len0 {xs : List Int} (h : ¬ 0 < xs.length) : xs = [] := List.length_eq_zero_iff.1 (by omega)
theorem SlS.form {lo hi w v xss} (h : SlS lo hi w v xss) : ∃ ad c, v = .slice ad xss.length c := by obtain ⟨ad, c, h, _⟩ := h; exact ⟨ad, c, h⟩
theorem SlS.mono {lo hi lo' hi' w v xss} (h : SlS lo hi w v xss) (h1 : lo' ≤ lo) (h2 : hi ≤ hi') : SlS lo' hi' w v xss := by
  obtain ⟨ad, cap, rfl, hc, hm, hr⟩ := h
  refine ⟨ad, cap, rfl, hc, hm, fun hp => ?_⟩
  obtain ⟨b, off, e, a1, a2, a3⟩ := hr hp
  refine ⟨b, off, e, by omega, by omega, fun j hj => ?_⟩
  obtain ⟨u, hu, hs⟩ := a3 j hj
  exact ⟨u, hu, hs.mono h1 h2⟩
theorem SlS.same {lo hi w w' v xss} (h : SlS lo hi w v xss) (hs : ∀ b, lo ≤ b → b < hi → b < w.heap.size → w'.heap[b]? = w.heap[b]?) : SlS lo hi w' v xss := by
  obtain ⟨ad, cap, rfl, hc, hm, hr⟩ := h
  refine ⟨ad, cap, rfl, hc, hm, fun hp => ?_⟩
  obtain ⟨b, off, e, a1, a2, a3⟩ := hr hp
  refine ⟨b, off, e, a1, a2, fun j hj => ?_⟩
  obtain ⟨u, hu, hq⟩ := a3 j hj
  have hb : b < w.heap.size := World.block_lt_of_cell? w ⟨b, off + j, none⟩ hu
  refine ⟨u, ?_, hq.same hs⟩
  rw [World.cell?_of_block (w := w) (a := ⟨b, off + j, none⟩) (hs b a1 a2 hb)]
  exact hu
theorem SlS.below {lo hi w w' v xss} (h : SlS lo hi w v xss) (hb : Bel w w') : SlS lo hi w' v xss := h.same fun b _ _ h3 => hb.block b h3
theorem SlS.alloc {lo hi w v xss} (h : SlS lo hi w v xss) (o : Obj) : SlS lo hi (w.alloc o) v xss := h.below (Bel.alloc0 w o)
theorem SlS.k {lo hi w v xss} (h : SlS lo hi w v xss) : K (fun w => SlS lo hi w v xss) w := fun _ hb => h.below hb
theorem SlS.chg {lo hi lo' hi' w w' v xss} (h : SlS lo hi w v xss) (k : Chg lo' hi' w w') (hd : hi ≤ lo' ∨ hi' ≤ lo) : SlS lo hi w' v xss :=
  h.same fun b h1 h2 h3 => k.block b h3 (by omega)
theorem SlS.nil (lo hi : Nat) (w : World) : SlS lo hi w (.slice none 0 0) [] := ⟨none, 0, rfl, Nat.le_refl _, ⟨Nat.zero_le _, fun _ => rfl⟩, fun h => absurd h (by simp)⟩
/-- Reading the k-th. -/
theorem SlS.at {lo hi : Nat} {w wr : World} {ad : Option Addr} {c n : Nat} {xss : List (List Int)} (h : SlS lo hi w (.slice ad n c) xss) (hb : Bel w wr) (k : Nat) (hk : k < xss.length) :
    ∃ b off u, ad = some ⟨b, off, none⟩ ∧ b < w.heap.size ∧ wr.cell? ⟨b, off + k, none⟩ = some u ∧ SlI lo hi wr u (xss.getD k []) := by
  obtain ⟨ad', cap, e, _, _, hr⟩ := h
  obtain ⟨b, off, e2, _, _, hc⟩ := hr (by omega)
  obtain ⟨u, hu, hs⟩ := hc k hk
  have h1 := World.block_lt_of_cell? w ⟨b, off + k, none⟩ hu
  simp only [Value.slice.injEq] at e
  exact ⟨b, off, u, e.1.trans e2, h1, (hb.cell (p := ⟨b, off + k, none⟩) h1).trans hu, hs.below hb⟩
theorem SlS.len {lo hi : Nat} {w : World} {ad : Option Addr} {c n : Nat} {xss : List (List Int)} (h : SlS lo hi w (.slice ad n c) xss) : n = xss.length := by
  obtain ⟨ad', cap, e, _⟩ := h
  simp only [Value.slice.injEq] at e
  exact e.2.1
theorem SlS.max {lo hi w v xss} (h : SlS lo hi w v xss) : xss.length ≤ 9223372036854775807 ∧ ∀ j, j < xss.length → (xss.getD j []).length ≤ 9223372036854775807 := by
  obtain ⟨ad, cap, e, hc, hm, hr⟩ := h
  have hml : maxLen = 9223372036854775807 := rfl
  refine ⟨by omega, fun j hj => ?_⟩
  obtain ⟨b, off, _, _, _, hx⟩ := hr (by omega)
  obtain ⟨u, _, ad2, cap2, _, hc2, hm2, _⟩ := hx j hj
  omega

/-- The elements us of a row in block b: slices of the call's own, each in a block of its own. -/
structure Ins (lo hi b : Nat) (w : World) (us : List Value) (xss : List (List Int)) (bs : Nat → Nat) : Prop where
  len : us.length = xss.length
  rng : ∀ j, j < xss.length → 0 < (xss.getD j []).length → lo ≤ bs j ∧ bs j < hi ∧ bs j ≠ b
  inj : ∀ i j, i < j → j < xss.length → 0 < (xss.getD i []).length → 0 < (xss.getD j []).length → bs i ≠ bs j
  own : ∀ j u, us[j]? = some u → OwnI (bs j) (bs j + 1) w u (xss.getD j [])
def OwnS (lo hi : Nat) (w : World) (v : Value) (xss : List (List Int)) : Prop :=
  ∃ ad cap, v = .slice ad xss.length cap ∧ xss.length ≤ cap ∧ (cap ≤ maxLen ∧ (ad = none → cap = 0)) ∧
    (0 < xss.length → ∃ b off us bs, ad = some ⟨b, off, none⟩ ∧ lo ≤ b ∧ b < hi ∧ (∀ j u, us[j]? = some u → w.cell? ⟨b, off + j, none⟩ = some u) ∧ Ins lo hi b w us xss bs)

theorem OwnI.block {lo hi w v xs} (h : OwnI lo hi w v xs) : ∃ c, OwnI c (c + 1) w v xs ∧ (0 < xs.length → lo ≤ c ∧ c < hi) := by
  obtain ⟨⟨ad, cap, rfl, hc, hm, hr⟩, hf⟩ := h
  by_cases hp : 0 < xs.length
  · obtain ⟨b, off, e, a1, a2, a3⟩ := hr hp
    exact ⟨b, ⟨⟨ad, cap, rfl, hc, hm, fun _ => ⟨b, off, e, Nat.le_refl _, Nat.lt_succ_self _, a3⟩⟩, hf⟩, fun _ => ⟨a1, a2⟩⟩
  · exact ⟨0, ⟨⟨ad, cap, rfl, hc, hm, fun h => absurd h hp⟩, hf⟩, fun h => absurd h hp⟩
theorem Ins.sl {lo hi b w us xss bs} (h : Ins lo hi b w us xss bs) (j : Nat) (u : Value) (hj : us[j]? = some u) : SlI lo hi w u (xss.getD j []) := by
  have ho := h.own j u hj
  have hlt : j < xss.length := by rw [← h.len]; exact (List.getElem?_eq_some_iff.1 hj).1
  by_cases hp : 0 < (xss.getD j []).length
  · obtain ⟨a1, a2, _⟩ := h.rng j hlt hp
    exact ho.1.mono a1 (by omega)
  · rw [len0 hp] at ho ⊢
    exact ho.1.empty
theorem OwnS.sl {lo hi w v xss} (h : OwnS lo hi w v xss) : SlS lo hi w v xss := by
  obtain ⟨ad, cap, rfl, hc, hm, hr⟩ := h
  refine ⟨ad, cap, rfl, hc, hm, fun hp => ?_⟩
  obtain ⟨b, off, us, bs, e, a1, a2, a3, hi⟩ := hr hp
  refine ⟨b, off, e, a1, a2, fun j hj => ?_⟩
  have hl := hi.len
  have hj2 : us[j]? = some us[j] := List.getElem?_eq_getElem (by omega)
  exact ⟨us[j], a3 j _ hj2, hi.sl j _ hj2⟩
theorem Ins.same {lo hi b w w' us xss bs} (h : Ins lo hi b w us xss bs) (hs : ∀ b, lo ≤ b → b < hi → b < w.heap.size → w'.heap[b]? = w.heap[b]?) : Ins lo hi b w' us xss bs := by
  refine ⟨h.len, h.rng, h.inj, fun j u hj => ?_⟩
  have ho := h.own j u hj
  have hlt : j < xss.length := by rw [← h.len]; exact (List.getElem?_eq_some_iff.1 hj).1
  by_cases hp : 0 < (xss.getD j []).length
  · obtain ⟨a1, a2, _⟩ := h.rng j hlt hp
    exact ho.same fun b h1 h2 h3 => hs b (by omega) (by omega) h3
  · rw [len0 hp] at ho ⊢
    exact ho.empty
theorem Ins.below {lo hi b w w' us xss bs} (h : Ins lo hi b w us xss bs) (hb : Bel w w') : Ins lo hi b w' us xss bs := h.same fun b _ _ h3 => hb.block b h3
theorem Ins.mono {lo hi lo' hi' b w us xss bs} (h : Ins lo hi b w us xss bs) (h1 : lo' ≤ lo) (h2 : hi ≤ hi') : Ins lo' hi' b w us xss bs :=
  ⟨h.len, fun j hj hp => by have := h.rng j hj hp; omega, h.inj, h.own⟩
theorem OwnS.same {lo hi w w' v xss} (h : OwnS lo hi w v xss) (hs : ∀ b, lo ≤ b → b < hi → b < w.heap.size → w'.heap[b]? = w.heap[b]?) : OwnS lo hi w' v xss := by
  obtain ⟨ad, cap, rfl, hc, hm, hr⟩ := h
  refine ⟨ad, cap, rfl, hc, hm, fun hp => ?_⟩
  obtain ⟨b, off, us, bs, e, a1, a2, a3, hi⟩ := hr hp
  refine ⟨b, off, us, bs, e, a1, a2, fun j u hj => ?_, hi.same hs⟩
  have hb : b < w.heap.size := World.block_lt_of_cell? w ⟨b, off + j, none⟩ (a3 j u hj)
  rw [World.cell?_of_block (w := w) (a := ⟨b, off + j, none⟩) (hs b a1 a2 hb)]
  exact a3 j u hj
theorem OwnS.below {lo hi w w' v xss} (h : OwnS lo hi w v xss) (hb : Bel w w') : OwnS lo hi w' v xss := h.same fun b _ _ h3 => hb.block b h3
theorem OwnS.alloc {lo hi w v xss} (h : OwnS lo hi w v xss) (o : Obj) : OwnS lo hi (w.alloc o) v xss := h.below (Bel.alloc0 w o)
theorem OwnS.k {lo hi w v xss} (h : OwnS lo hi w v xss) : K (fun w => OwnS lo hi w v xss) w := fun _ hb => h.below hb
theorem OwnS.chg {lo hi lo' hi' w w' v xss} (h : OwnS lo hi w v xss) (k : Chg lo' hi' w w') (hd : hi ≤ lo' ∨ hi' ≤ lo) : OwnS lo hi w' v xss :=
  h.same fun b h1 h2 h3 => k.block b h3 (by omega)
theorem OwnS.mono {lo hi lo' hi' w v xss} (h : OwnS lo hi w v xss) (h1 : lo' ≤ lo) (h2 : hi ≤ hi') : OwnS lo' hi' w v xss := by
  obtain ⟨ad, cap, rfl, hc, hm, hr⟩ := h
  refine ⟨ad, cap, rfl, hc, hm, fun hp => ?_⟩
  obtain ⟨b, off, us, bs, e, a1, a2, a3, hi⟩ := hr hp
  exact ⟨b, off, us, bs, e, by omega, by omega, a3, hi.mono h1 h2⟩
theorem OwnS.nil (lo hi : Nat) (w : World) : OwnS lo hi w (.slice none 0 0) [] := ⟨none, 0, rfl, Nat.le_refl _, ⟨Nat.zero_le _, fun _ => rfl⟩, fun h => absurd h (by simp)⟩

theorem Ins.none (lo hi b : Nat) (w : World) : Ins lo hi b w [] [] (fun _ => 0) := ⟨rfl, fun j h => absurd h (by simp), fun i j _ h => absurd h (by simp), fun j u h => by simp at h⟩
/-- One more, in a newer block. -/
theorem Ins.snoc {lo hi b : Nat} {w : World} {us : List Value} {xss : List (List Int)} {bs : Nat → Nat} (h : Ins lo hi b w us xss bs) {l2 h2 : Nat} {u : Value} {xs : List Int} (ho : OwnI l2 h2 w u xs)
    (hl : hi ≤ l2) (hlo : lo ≤ l2) (hbl : b < l2 ∨ h2 ≤ b) {hi2 : Nat} (h1 : h2 ≤ hi2) (h3 : hi ≤ hi2) : ∃ bs', Ins lo hi2 b w (us ++ [u]) (xss ++ [xs]) bs' := by
  obtain ⟨c, hc, hr⟩ := ho.block
  have hn := h.len
  refine ⟨fun j => if j = xss.length then c else bs j, by simp [hn], fun j hj hp => ?_, fun i j hij hj hpi hpj => ?_, fun j v hj => ?_⟩
  · by_cases e : j = xss.length
    · subst e
      simp only [List.getD, List.getElem?_append_right (Nat.le_refl _), Nat.sub_self, List.getElem?_cons_zero, Option.getD_some] at hp
      have := hr hp
      simp only [if_true]
      omega
    · have hlt : j < xss.length := by simp at hj; omega
      simp only [List.getD, List.getElem?_append_left hlt] at hp
      have := h.rng j hlt hp
      simp only [e, if_false]
      omega
  · have hilt : i < xss.length := by simp at hj; omega
    simp only [List.getD, List.getElem?_append_left hilt] at hpi
    by_cases e : j = xss.length
    · subst e
      simp only [List.getD, List.getElem?_append_right (Nat.le_refl _), Nat.sub_self, List.getElem?_cons_zero, Option.getD_some] at hpj
      have h5 := hr hpj
      have h6 := h.rng i hilt hpi
      simp only [if_true]
      rw [if_neg (by omega)]
      omega
    · have hlt : j < xss.length := by simp at hj; omega
      simp only [List.getD, List.getElem?_append_left hlt] at hpj
      simp only [e, if_false]
      rw [if_neg (by omega)]
      exact h.inj i j hij hlt hpi hpj
  · by_cases e : j = xss.length
    · subst e
      rw [List.getElem?_append_right (by omega), hn, Nat.sub_self] at hj
      simp only [List.getElem?_cons_zero, Option.some.injEq] at hj
      subst hj
      simpa [List.getD] using hc
    · have hlt : j < us.length := by
        have := (List.getElem?_eq_some_iff.1 hj).1
        simp at this; omega
      rw [List.getElem?_append_left hlt] at hj
      have := h.own j v hj
      simp only [e, if_false]
      simpa [List.getD, List.getElem?_append_left (show j < xss.length by omega)] using this

/-- A row that the call itself made, as a slice of slices. -/
theorem OwnS.of_row {w : World} {base e hi : Nat} {v : Value} {us : List Value} {xss : List (List Int)} {bs : Nat → Nat} (h : w.ownsRow base e 1 v xss.length us) (hi' : w.heap.size ≤ hi)
    (hin : ∀ g, v.ownBlock = some g → Ins base hi g w us xss bs) : OwnS base hi w v xss := by
  have h0 := h
  obtain ⟨h1, h2⟩ := h
  rcases h2 with ⟨rfl, hn⟩ | ⟨g, cap, cur, rfl, hg, hh, hn, hc, hs, ht⟩
  · obtain rfl : xss = [] := List.length_eq_zero_iff.1 hn
    exact OwnS.nil _ _ _
  · have hgs : g < w.heap.size := (Array.getElem?_eq_some_iff.1 hh).1
    refine ⟨_, cap, rfl, hn, ⟨hc, fun h => by simp at h⟩, fun hp => ⟨g, 0, us, bs, rfl, hg, by omega, fun j u hj => ?_, hin g rfl⟩⟩
    rw [Nat.zero_add, h0.cellAt j (by have := (List.getElem?_eq_some_iff.1 hj).1; omega)]
    exact hj

def sumL (xss : List (List Int)) : Nat := (xss.map List.length).sum
theorem sumL_take (xss : List (List Int)) (k : Nat) (h : k < xss.length) : sumL (xss.take (k+1)) = sumL (xss.take k) + (xss.getD k []).length := by
  unfold sumL
  rw [List.take_succ_eq_append_getElem h, List.map_append, List.sum_append]
  simp [List.getD, h]
theorem sumL_all (xss : List (List Int)) (k : Nat) (h : ¬ k < xss.length) : sumL (xss.take k) = sumL xss := by rw [List.take_of_length_le (by omega)]
theorem sumL_le (xss : List (List Int)) (k : Nat) : sumL (xss.take k) ≤ sumL xss := by
  conv => rhs; rw [← List.take_append_drop k xss]
  unfold sumL
  rw [List.map_append, List.sum_append]
  omega
theorem sumL_get (xss : List (List Int)) (k : Nat) (h : k < xss.length) : sumL (xss.take k) + (xss.getD k []).length ≤ sumL xss := by
  rw [← sumL_take xss k h]; exact sumL_le _ _
def tot (xss : List (List Int)) : Nat := xss.length + sumL xss
def short (xss : List (List Int)) : Prop := xss.length ≤ 1048576 ∧ ∀ j, j < xss.length → (xss.getD j []).length ≤ 1048576
theorem short_of_tot {xss : List (List Int)} (h : tot xss ≤ 1048576) : short xss := by
  unfold tot at h
  refine ⟨by omega, fun j hj => ?_⟩
  have := sumL_get xss j hj
  omega

def marksS (k : Nat) : List (List Int) → List (List Int)
  | [] => []
  | x :: r => marks k x.length :: marksS (k + x.length) r
theorem marksS_len (k : Nat) (xss : List (List Int)) : (marksS k xss).length = xss.length := by
  induction xss generalizing k with
  | nil => rfl
  | cons x r ih => simp [marksS, ih]
theorem marksS_app (k : Nat) (xss yss : List (List Int)) : marksS k (xss ++ yss) = marksS k xss ++ marksS (k + sumL xss) yss := by
  induction xss generalizing k with
  | nil => simp [marksS, sumL]
  | cons x r ih => simp [marksS, ih, sumL, Nat.add_assoc]
theorem marksS_get (k : Nat) (xss : List (List Int)) (j : Nat) (h : j < xss.length) : (marksS k xss).getD j [] = marks (k + sumL (xss.take j)) (xss.getD j []).length := by
  conv => lhs; rw [← List.take_append_drop j xss, marksS_app, List.drop_eq_getElem_cons h]
  have hl : (marksS k (xss.take j)).length = j := by rw [marksS_len, List.length_take]; omega
  simp only [List.getD]
  rw [List.getElem?_append_right (by omega), hl, Nat.sub_self]
  simp [marksS, h]
/-- The first j are marked. -/
def markedS (xss : List (List Int)) (k j : Nat) : List (List Int) := marksS k (xss.take j) ++ xss.drop j
theorem markedS_zero (xss : List (List Int)) (k : Nat) : markedS xss k 0 = xss := by simp [markedS, marksS]
theorem markedS_len (xss : List (List Int)) (k j : Nat) (h : j ≤ xss.length) : (markedS xss k j).length = xss.length := by simp [markedS, marksS_len]; omega
theorem markedS_all (xss : List (List Int)) (k j : Nat) (h : ¬ j < xss.length) : markedS xss k j = marksS k xss := by
  unfold markedS
  rw [List.take_of_length_le (by omega), List.drop_eq_nil_of_le (by omega), List.append_nil]
theorem markedS_get (xss : List (List Int)) (k j : Nat) (h : j < xss.length) : (markedS xss k j).getD j [] = xss.getD j [] := by
  have hl : (marksS k (xss.take j)).length = j := by rw [marksS_len, List.length_take]; omega
  unfold markedS
  simp only [List.getD]
  rw [List.getElem?_append_right (by omega), hl, Nat.sub_self]
  simp
theorem markedS_succ (xss : List (List Int)) (k j : Nat) (h : j < xss.length) : (markedS xss k j).set j (marks (k + sumL (xss.take j)) (xss.getD j []).length) = markedS xss k (j+1) := by
  have hl : (marksS k (xss.take j)).length = j := by rw [marksS_len, List.length_take]; omega
  unfold markedS
  rw [List.set_append_right _ _ (by omega), hl, Nat.sub_self, List.drop_eq_getElem_cons h, List.set_cons_zero, List.take_succ_eq_append_getElem h, marksS_app]
  simp [marksS, List.getD, h]

/-- The j-th is written anew, at the same length. -/
theorem Ins.stored {lo hi b : Nat} {w w' : World} {us : List Value} {xss : List (List Int)} {bs : Nat → Nat} (h : Ins lo hi b w us xss bs) (j : Nat) (hj : j < xss.length) (u : Value) (hu : us[j]? = some u) (ys : List Int)
    (hl : ys.length = (xss.getD j []).length) (hg : 0 < ys.length → Chg (bs j) (bs j + 1) w w') (hg0 : ¬ 0 < ys.length → Chg 0 0 w w') (ho : OwnI (bs j) (bs j + 1) w' u ys) : Ins lo hi b w' us (xss.set j ys) bs := by
  have hget : ∀ i, ((xss.set j ys).getD i []) = if i = j then ys else xss.getD i [] := by
    intro i
    by_cases e : i = j
    · subst e; simp [List.getD, hj]
    · simp [List.getD, List.getElem?_set, Ne.symm e, e]
  have hgl : ∀ i, ((xss.set j ys).getD i []).length = (xss.getD i []).length := by
    intro i; rw [hget i]; split
    · rename_i e; rw [e, hl]
    · rfl
  refine ⟨by simpa using h.len, fun i hi hp => ?_, fun i k hik hk h1 h2 => ?_, fun i v hv => ?_⟩
  · rw [hgl] at hp; exact h.rng i (by simpa using hi) hp
  · rw [hgl] at h1 h2; exact h.inj i k hik (by simpa using hk) h1 h2
  · rw [hget i]
    have hilt : i < xss.length := by rw [← h.len]; exact (List.getElem?_eq_some_iff.1 hv).1
    by_cases e : i = j
    · subst e
      rw [hu] at hv
      obtain rfl : u = v := by simpa using hv
      simpa using ho
    · simp only [e, if_false]
      have hio := h.own i v hv
      by_cases hp : 0 < (xss.getD i []).length
      · by_cases hpj : 0 < ys.length
        · have hne : bs i ≠ bs j := by
            rcases Nat.lt_or_gt_of_ne e with h1 | h1
            · exact h.inj i j h1 hj hp (by omega)
            · exact (h.inj j i h1 hilt (by omega) hp).symm
          exact hio.chg (hg hpj) (by omega)
        · exact hio.chg (hg0 hpj) (by omega)
      · rw [len0 hp] at hio ⊢
        exact hio.empty
def RetSS (w : World) (xss : List (List Int)) (e : Ending) (w' : World) : Prop := ∃ ad n c, e = .returned (.slice ad n c) ∧ OwnS w.heap.size w'.heap.size w' (.slice ad n c) xss ∧ Bel w w'
def RetSSB (w : World) (xss : List (List Int)) (ok : Bool) (e : Ending) (w' : World) : Prop := ∃ ad n c, e = .returned (.tuple #[.slice ad n c, .bool ok]) ∧ OwnS w.heap.size w'.heap.size w' (.slice ad n c) xss ∧ Bel w w'
end Go.Proofs.Ytfhljkjcjnfjfaa
end
