/- Texts merged, part 12. -/
import Derived.Test.YtkbgglejhdodoaaMgTexts11
section
/- Shifted variables: the same up to names. -/
namespace Go.Proofs.Ytkbgglejhdodoaa
open Go.RowKit

theorem shift_same {ar t : List Int} {d : Int} (h : shiftOk ar t d = true) : sameOk ar (shiftAns ar t d) t = true ∧ sameAns ar (shiftAns ar t d) t = true := by
  have h0 := h
  unfold shiftOk at h0
  simp only [Bool.and_eq_true] at h0
  obtain ⟨⟨hgt, hd⟩, hok⟩ := h0
  obtain ⟨hg, hot⟩ := goodTerm_iff.1 hgt
  unfold inB at hd
  simp at hd
  rw [shift_yes h]
  have hs : sameOk ar (shifted t d) t = true := by
    unfold sameOk
    rw [renameOk_one, renameOk_one, hgt]
    unfold goodTerm
    rw [hg, hok]; rfl
  refine ⟨hs, ?_⟩
  unfold sameAns
  rw [hs]
  have hI : Inj1 (fun n => if n < 0 then n - d else n) t := by
    refine ⟨fun n hn => by simp [hn], fun n _ hn => by simp [hn]; omega, fun m _ n _ e => ?_⟩
    split at e <;> split at e <;> omega
  have := (renT_inj hI (t := t) (met := []) (fun x hx => by simp at hx) (fun x hx _ => hx)).1
  rw [List.map_nil] at this
  have he : shifted t d = t.map (fun n => if n < 0 then n - d else n) := rfl
  rw [he, this]
  simp
end Go.Proofs.Ytkbgglejhdodoaa
end
section
/- Contracts of texts with the answers named. -/
namespace Go.Proofs.Ytkbgglejhdodoaa
open Go.RowKit

theorem iTermText_vv {l h l' h' : Nat} {v u : Value} {ar t : List Int} {w : World} (ha : ar.length ≤ 1048576) (hv : SlI l h w v ar) (ht : t.length ≤ 1048576) (hu : SlI l' h' w u t) {s : ByteArray} {k : Bool} (e1 : textBA ar t = s) (e2 : goodTerm ar t = k) :
    Calls Try.prog 30 #[.agg #[v], u] w (RetV w (.tuple #[.string s, .bool k])) := by subst e1 e2; exact iTermText_t ha hv ht hu
theorem iReadTerm_vv {l h : Nat} {v : Value} {ar : List Int} {w : World} (ha : ar.length ≤ 1048576) (hv : SlI l h w v ar) {s : ByteArray} (hs : s.size ≤ 1048576) {y : List Int} {p : Nat} {k : Bool} (e : readAns ar s = (y, p, k)) :
    Calls Try.prog 32 #[.agg #[v], .string s] w (RetScan w (y, p, k)) := by rw [← e]; exact iReadTerm_t ha hv hs
theorem iShiftVars_v {l h l' h' : Nat} {v u : Value} {ar t : List Int} {w : World} (ha : ar.length ≤ 1048576) (hv : SlI l h w v ar) (ht : t.length ≤ 1048576) (hu : SlI l' h' w u t) {i : Int} (h1 : -9223372036854775808 ≤ i) (h2 : i ≤ 9223372036854775807) {xs : List Int} {b : Bool} (e1 : shiftAns ar t i = xs) (e2 : shiftOk ar t i = b) :
    Calls Try.prog 36 #[.agg #[v], u, .int .i64 i] w (RetIB w xs b) := by subst e1 e2; exact iShiftVars_t ha hv ht hu h1 h2
theorem sTermText_vv {l h l' h' : Nat} {v u : Value} {ar t : List Int} {w : World} (ha : ar.length ≤ 1048576) (hv : SlI l h w v ar) (ht : t.length ≤ 1048576) (hu : SlI l' h' w u t) {s : ByteArray} {k : Bool} (e1 : textBA ar t = s) (e2 : goodTerm ar t = k) :
    Calls Try.prog 31 #[.agg #[v], u] w (RetV w (.tuple #[.string s, .bool k])) := by subst e1 e2; exact sTermText_t ha hv ht hu
theorem sReadTerm_vv {l h : Nat} {v : Value} {ar : List Int} {w : World} (ha : ar.length ≤ 1048576) (hv : SlI l h w v ar) {s : ByteArray} (hs : s.size ≤ 1048576) {y : List Int} {p : Nat} {k : Bool} (e : readAns ar s = (y, p, k)) :
    Calls Try.prog 34 #[.agg #[v], .string s] w (RetScan w (y, p, k)) := by rw [← e]; exact sReadTerm_t ha hv hs
theorem sShiftVars_v {l h l' h' : Nat} {v u : Value} {ar t : List Int} {w : World} (ha : ar.length ≤ 1048576) (hv : SlI l h w v ar) (ht : t.length ≤ 1048576) (hu : SlI l' h' w u t) {i : Int} (h1 : -9223372036854775808 ≤ i) (h2 : i ≤ 9223372036854775807) {xs : List Int} {b : Bool} (e1 : shiftAns ar t i = xs) (e2 : shiftOk ar t i = b) :
    Calls Try.prog 37 #[.agg #[v], u, .int .i64 i] w (RetIB w xs b) := by subst e1 e2; exact sShiftVars_t ha hv ht hu h1 h2
theorem text_read2 {ar : List Int} {s : ByteArray} {y : List Int} {p : Nat} (h : readAns ar s = (y, p, true)) : goodTerm ar y = true ∧ textBA ar y = s := by
  have := text_read (ar := ar) (s := s) (by rw [h])
  rwa [h] at this
theorem read_len {ar : List Int} {s : ByteArray} {y : List Int} {p : Nat} {k : Bool} (h : readAns ar s = (y, p, k)) : y.length ≤ 1048576 := by
  have := readAns_len ar s
  rwa [h] at this
end Go.Proofs.Ytkbgglejhdodoaa
end
