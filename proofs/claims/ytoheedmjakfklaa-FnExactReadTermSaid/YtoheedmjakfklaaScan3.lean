import Derived.Test.YtoheedmjakfklaaScan2
import Derived.Lib.Bytealg
import Derived.Lib.Strings
namespace Go.Proofs.Ytoheedmjakfklaa
open Go.RowKit

theorem slIndex_q (s : ByteArray) (c : Int) (w : World) :
    Calls Try.prog 94 #[.string s, .int .u8 c] w fun e w' => e = .returned (.int .i64 (Lib.indexByte s.data.toList c.toNat.toUInt8)) ∧ w' = w := by
  go_enter Try.func94, Try.ntmps94
  go_wp2_with fail
  rw [run_callFunc_extern Try.func95 (by kernel_rfl) (by kernel_rfl) (by kernel_rfl) (e := Extern.BytealgIndexByte.indexByte) (by kernel_rfl), Lib.run_indexByteString]
  simp only [Result.andThen]
  rw [Oper.upon_value]
  go_wp2_with fail
  go_ret
  exact ⟨rfl, rfl⟩
theorem sIndex_q (s : ByteArray) (c : Int) (w : World) :
    Calls Try.prog 92 #[.string s, .int .u8 c] w fun e w' => e = .returned (.int .i64 (Lib.indexByte s.data.toList c.toNat.toUInt8)) ∧ w' = w := by
  go_enter Try.func92, Try.ntmps92
  go_wp2_with (go_at_call 94; refine (slIndex_q s c _).mono ?_; rintro e w' ⟨rfl, rfl⟩)
  go_ret
  exact ⟨rfl, rfl⟩

theorem varIdx : ∀ n : Nat, n < 256 → Lib.indexByte [65, 66, 67, 68, 69, 70, 71, 72, 73, 74, 75, 76] (UInt8.ofNat n) = if inB n 65 76 then (n : Int) - 65 else -1 := by decide +kernel
theorem symIdx : ∀ n : Nat, n < 256 → Lib.indexByte [97, 98, 99, 100, 101, 102, 103, 104, 105, 106] (UInt8.ofNat n) = if inB n 97 106 then (n : Int) - 97 else -1 := by decide +kernel
theorem varIdx_v (c : UInt8) (w : World) : Calls Try.prog 92 #[.string ⟨#[65, 66, 67, 68, 69, 70, 71, 72, 73, 74, 75, 76]⟩, .int .u8 (c.toNat : Int)] w fun e w' => e = .returned (.int .i64 (if inB c.toNat 65 76 then (c.toNat : Int) - 65 else -1)) ∧ w' = w := by
  have h := sIndex_q ⟨#[65, 66, 67, 68, 69, 70, 71, 72, 73, 74, 75, 76]⟩ (c.toNat : Int) w
  have h2 := varIdx c.toNat c.toNat_lt
  simp only [Int.toNat_natCast] at h
  rw [← h2]; exact h
theorem symIdx_v (c : UInt8) (w : World) : Calls Try.prog 92 #[.string ⟨#[97, 98, 99, 100, 101, 102, 103, 104, 105, 106]⟩, .int .u8 (c.toNat : Int)] w fun e w' => e = .returned (.int .i64 (if inB c.toNat 97 106 then (c.toNat : Int) - 97 else -1)) ∧ w' = w := by
  have h := sIndex_q ⟨#[97, 98, 99, 100, 101, 102, 103, 104, 105, 106]⟩ (c.toNat : Int) w
  have h2 := symIdx c.toNat c.toNat_lt
  simp only [Int.toNat_natCast] at h
  rw [← h2]; exact h

def numV (ar : List Int) (c : UInt8) : Value := match symAt ar c with | none => .tuple #[.int .i64 0, .bool false] | some x => .tuple #[.int .i64 x, .bool true]

set_option maxRecDepth 100000 in
theorem numberOf_c (l h : Nat) (v : Value) (ar : List Int) (c : UInt8) (w : World) (hg : goodSign ar = true) (hv : SlI l h w v ar) :
    Calls Try.prog 90 #[.agg #[v], .int .u8 (c.toNat : Int)] w (RetV w (numV ar c)) := by
  have hlen := sign_len ar hg
  obtain ⟨ad, cap, rfl⟩ := hv.form
  have hbb : ((c.toNat : Nat) : Int) < 256 := by have := c.toNat_lt; omega
  have hv1 := varIdx_v c
  have hs1 := symIdx_v c
  by_cases h1 : inB c.toNat 65 76 = true
  · have E : Hid (numV ar c = .tuple #[.int .i64 (-1 - ((c.toNat : Int) - 65)), .bool true]) := by show _ = _; unfold numV symAt; rw [if_pos h1]
    simp only [if_pos h1] at hv1
    have HV := Lib.hid hv1
    have h65 : (65 : Int) ≤ c.toNat := by simp [inB] at h1; omega
    clear hv1 hs1 h1
    go_enter Try.func90, Try.ntmps90
    go_wp2_with fail
    refine (HV.out _).mono ?_; rintro e w1 ⟨rfl, rfl⟩
    have hge : decide ((c.toNat : Int) - 65 ≥ 0) = true := by simp; omega
    go_wp2_with fail
    go_ret2
    exact ⟨by rw [E.out]; rfl, Bel.alloc0 _ _⟩
  · simp only [if_neg h1] at hv1
    have HV := Lib.hid hv1
    by_cases h2 : inB c.toNat 97 106 = true
    · simp only [if_pos h2] at hs1
      have HS := Lib.hid hs1
      by_cases h3 : (c.toNat : Int) - 97 < ar.length
      · have E : Hid (numV ar c = .tuple #[.int .i64 ((c.toNat : Int) - 97), .bool true]) := by
          show _ = _; unfold numV symAt; rw [if_neg h1, if_pos (by simp [inB] at h2 ⊢; omega)]
        have h97 : (97 : Int) ≤ c.toNat := by simp [inB] at h2; omega
        clear hv1 hs1 h1 h2
        go_enter Try.func90, Try.ntmps90
        go_wp2_with fail
        refine (HV.out _).mono ?_; rintro e w1 ⟨rfl, rfl⟩
        go_wp2_with fail
        refine (HS.out _).mono ?_; rintro e w1 ⟨rfl, rfl⟩
        go_wp2_with fail
        go_ret2
        exact ⟨by rw [E.out]; rfl, Bel.alloc0 _ _⟩
      · have E : Hid (numV ar c = .tuple #[.int .i64 0, .bool false]) := by
          show _ = _; unfold numV symAt; rw [if_neg h1, if_neg (by simp [inB] at h2 ⊢; omega)]
        have h97 : (97 : Int) ≤ c.toNat := by simp [inB] at h2; omega
        clear hv1 hs1 h1 h2
        go_enter Try.func90, Try.ntmps90
        go_wp2_with fail
        refine (HV.out _).mono ?_; rintro e w1 ⟨rfl, rfl⟩
        go_wp2_with fail
        refine (HS.out _).mono ?_; rintro e w1 ⟨rfl, rfl⟩
        go_wp2_with fail
        go_ret2
        exact ⟨by rw [E.out]; rfl, Bel.alloc0 _ _⟩
    · simp only [if_neg h2] at hs1
      have HS := Lib.hid hs1
      have E : Hid (numV ar c = .tuple #[.int .i64 0, .bool false]) := by
        show _ = _; unfold numV symAt; rw [if_neg h1, if_neg (by simp [inB] at h2 ⊢; omega)]
      clear hv1 hs1 h1 h2
      go_enter Try.func90, Try.ntmps90
      go_wp2_with fail
      refine (HV.out _).mono ?_; rintro e w1 ⟨rfl, rfl⟩
      go_wp2_with fail
      refine (HS.out _).mono ?_; rintro e w1 ⟨rfl, rfl⟩
      go_wp2_with fail
      go_ret2
      exact ⟨by rw [E.out]; rfl, Bel.alloc0 _ _⟩

theorem cut1 (s : ByteArray) (q : Nat) (h : q < s.size) : (s.extract q s.size).extract 0 1 = ⟨#[s[q]]⟩ := by
  apply ByteArray.ext
  simp only [ByteArray.data_extract]
  apply Array.ext
  · have h' : q < s.data.size := h
    simp; omega
  · intro i h1 h2
    simp at h2
    subst h2
    have h' : q < s.data.size := h
    simp only [Array.getElem_extract]
    rfl
theorem one_eq (a b : UInt8) : ((⟨#[a]⟩ : ByteArray).toList == [b]) = decide (some a = some b) := by
  have h : (⟨#[a]⟩ : ByteArray).toList = [a] := by rw [ByteArray.toList_eq]
  rw [h, Bool.eq_iff_iff]; simp

theorem slPrefix_q (s : ByteArray) (q : Nat) (b : UInt8) (hq : q ≤ s.size) (hs : s.size ≤ 1048576) (w : World) :
    Calls Try.prog 93 #[.string (s.extract q s.size), .string ⟨#[b]⟩] w fun e w' => e = .returned (.bool (decide (s.data.toList[q]? = some b))) ∧ w' = w := by
  by_cases h : q < s.size
  · have E : Hid ((((s.extract q s.size).extract 0 1).toList == [b]) = decide (s.data.toList[q]? = some b)) := by
      show _ = _; rw [cut1 s q h, one_eq, sa_get s q h]
    go_enter Try.func93, Try.ntmps93
    go_wp2_with fail
    go_ret
    exact ⟨by rw [← E.out]; rfl, rfl⟩
  · have E : Hid (decide (s.data.toList[q]? = some b) = false) := by
      show _ = _; rw [List.getElem?_eq_none (by rw [Array.length_toList]; show s.size ≤ q; omega)]; rfl
    go_enter Try.func93, Try.ntmps93
    go_wp2_with fail
    go_ret
    exact ⟨by first | (rw [E.out]; rfl) | rfl | (simp; rfl), rfl⟩
theorem sPrefix_v (s : ByteArray) (q : Nat) (b : UInt8) (r : Bool) (hr : decide (s.data.toList[q]? = some b) = r) (hq : q ≤ s.size) (hs : s.size ≤ 1048576) (w : World) :
    Calls Try.prog 91 #[.string (s.extract q s.size), .string ⟨#[b]⟩] w fun e w' => e = .returned (.bool r) ∧ w' = w := by
  have h := fun w => slPrefix_q s q b hq hs w
  rw [hr] at h
  have HH := Lib.hid h
  clear h hr
  go_enter Try.func91, Try.ntmps91
  go_wp2_with (go_at_call 93; refine (HH.out _).mono ?_; rintro e w' ⟨rfl, rfl⟩)
  go_ret
  exact ⟨rfl, rfl⟩
end Go.Proofs.Ytoheedmjakfklaa
