/- Contracts with the answers named. -/
import Derived.Test.YtngdhpelnjckjaaReplP
import Derived.Test.YtngdhpelnjckjaaArgs
import Derived.Test.YtngdhpelnjckjaaCount
import Derived.Test.YtngdhpelnjckjaaVars
import Derived.Test.YtngdhpelnjckjaaVars3
import Derived.Test.YtngdhpelnjckjaaSameL
import Derived.Test.YtngdhpelnjckjaaBytes
import Derived.Test.YtngdhpelnjckjaaDraw5
namespace Go.Proofs.Ytngdhpelnjckjaa
open Go.RowKit

theorem SlB.bel {w w' : World} {v : Value} {n : Nat} (h : SlB w.heap.size w v n) (hb : Bel w w') : SlB w'.heap.size w' v n := by
  obtain ⟨ad, cap, e, hc, hr⟩ := h.chg (Chg.of_bel (lo := w.heap.size) (hi := w.heap.size) hb) (Nat.le_refl _)
  exact ⟨ad, cap, e, hc, fun hp => by obtain ⟨b, off, e1, e2, e3⟩ := hr hp; exact ⟨b, off, e1, Nat.lt_of_lt_of_le e2 hb.size, e3⟩⟩
theorem slI_n {lo hi : Nat} {w : World} {ad : Option Addr} {n c : Nat} {xs : List Int} (h : SlI lo hi w (.slice ad n c) xs) : n = xs.length := by
  obtain ⟨ad', c', e⟩ := h.form
  simp only [Value.slice.injEq] at e
  exact e.2.1
theorem SlB.form {hi : Nat} {w : World} {v : Value} {n : Nat} (h : SlB hi w v n) : ∃ a c, v = .slice a n c := by obtain ⟨a, c, e, _⟩ := h; exact ⟨a, c, e⟩
theorem iReplaceAt_v {l h l' h' l2 h2 : Nat} {v u x : Value} {ar t r : List Int} {w : World} (ha : ar.length ≤ 1048576) (hv : SlI l h w v ar) (ht : t.length ≤ 1048576) (hu : SlI l' h' w u t) {i : Int} (h1 : -9223372036854775808 ≤ i) (h2' : i ≤ 9223372036854775807) (hr : r.length ≤ 1048576) (hx : SlI l2 h2 w x r) {xs : List Int} {b : Bool} (e1 : replAns ar t i r = xs) (e2 : replOk ar t i r = b) :
    Calls Try.prog 18 #[.agg #[v], u, .int .i64 i, x] w (RetIB w xs b) := by subst e1 e2; exact iReplaceAt_t ha hv ht hu h1 h2' hr hx
theorem iPartAt_v {l h l' h' : Nat} {v u : Value} {ar t : List Int} {w : World} (ha : ar.length ≤ 1048576) (hv : SlI l h w v ar) (ht : t.length ≤ 1048576) (hu : SlI l' h' w u t) {i : Int} (h1 : -9223372036854775808 ≤ i) (h2 : i ≤ 9223372036854775807) {xs : List Int} {b : Bool} (e1 : partAns ar t i = xs) (e2 : askOk ar t i = b) :
    Calls Try.prog 20 #[.agg #[v], u, .int .i64 i] w (RetIB w xs b) := by subst e1 e2; exact iPartAt_t ha hv ht hu h1 h2
theorem iArgsAt_v {l h l' h' : Nat} {v u : Value} {ar t : List Int} {w : World} (ha : ar.length ≤ 1048576) (hv : SlI l h w v ar) (ht : t.length ≤ 1048576) (hu : SlI l' h' w u t) {i : Int} (h1 : -9223372036854775808 ≤ i) (h2 : i ≤ 9223372036854775807) {xs : List Int} {b : Bool} (e1 : argsAns ar t i = xs) (e2 : askOk ar t i = b) :
    Calls Try.prog 24 #[.agg #[v], u, .int .i64 i] w (RetIB w xs b) := by subst e1 e2; exact iArgsAt_t ha hv ht hu h1 h2
theorem iEndOf_vv {l h l' h' : Nat} {v u : Value} {ar t : List Int} {w : World} (ha : ar.length ≤ 1048576) (hv : SlI l h w v ar) (ht : t.length ≤ 1048576) (hu : SlI l' h' w u t) {i : Int} (h1 : -9223372036854775808 ≤ i) (h2 : i ≤ 9223372036854775807) {x : Int} {b : Bool} (e1 : endN ar t i = x) (e2 : askOk ar t i = b) :
    Calls Try.prog 22 #[.agg #[v], u, .int .i64 i] w (RetV w (.tuple #[.int .i64 x, .bool b])) := by subst e1 e2; exact iEndOf_t ha hv ht hu h1 h2
theorem iCountOf_vv {l h l' h' : Nat} {v u : Value} {ar t : List Int} {w : World} (ha : ar.length ≤ 1048576) (hv : SlI l h w v ar) (ht : t.length ≤ 1048576) (hu : SlI l' h' w u t) {i : Int} (h1 : -9223372036854775808 ≤ i) (h2 : i ≤ 9223372036854775807) {x : Int} {b : Bool} (e1 : countAns ar t i = x) (e2 : goodTerm ar t = b) :
    Calls Try.prog 33 #[.agg #[v], u, .int .i64 i] w (RetV w (.tuple #[.int .i64 x, .bool b])) := by subst e1 e2; exact iCountOf_t ha hv ht hu h1 h2
theorem iDepthOf_vv {l h l' h' : Nat} {v u : Value} {ar t : List Int} {w : World} (ha : ar.length ≤ 1048576) (hv : SlI l h w v ar) (ht : t.length ≤ 1048576) (hu : SlI l' h' w u t) {x : Int} {b : Bool} (e1 : depthAns ar t = x) (e2 : goodTerm ar t = b) :
    Calls Try.prog 35 #[.agg #[v], u] w (RetV w (.tuple #[.int .i64 x, .bool b])) := by subst e1 e2; exact iDepthOf_t ha hv ht hu
theorem iVarsOf_vv {l h l' h' : Nat} {v u : Value} {ar t : List Int} {w : World} (ha : ar.length ≤ 1048576) (hv : SlI l h w v ar) (ht : t.length ≤ 1048576) (hu : SlI l' h' w u t) {xs : List Int} {b : Bool} (e1 : varsAns ar t = xs) (e2 : goodTerm ar t = b) :
    Calls Try.prog 37 #[.agg #[v], u] w (RetIB w xs b) := by subst e1 e2; exact iVarsOf_t ha hv ht hu
theorem sReplaceAt_v {l h l' h' l2 h2 : Nat} {v u x : Value} {ar t r : List Int} {w : World} (ha : ar.length ≤ 1048576) (hv : SlI l h w v ar) (ht : t.length ≤ 1048576) (hu : SlI l' h' w u t) {i : Int} (h1 : -9223372036854775808 ≤ i) (h2' : i ≤ 9223372036854775807) (hr : r.length ≤ 1048576) (hx : SlI l2 h2 w x r) {xs : List Int} {b : Bool} (e1 : replAns ar t i r = xs) (e2 : replOk ar t i r = b) :
    Calls Try.prog 19 #[.agg #[v], u, .int .i64 i, x] w (RetIB w xs b) := by subst e1 e2; exact sReplaceAt_t ha hv ht hu h1 h2' hr hx
theorem sPartAt_v {l h l' h' : Nat} {v u : Value} {ar t : List Int} {w : World} (ha : ar.length ≤ 1048576) (hv : SlI l h w v ar) (ht : t.length ≤ 1048576) (hu : SlI l' h' w u t) {i : Int} (h1 : -9223372036854775808 ≤ i) (h2 : i ≤ 9223372036854775807) {xs : List Int} {b : Bool} (e1 : partAns ar t i = xs) (e2 : askOk ar t i = b) :
    Calls Try.prog 21 #[.agg #[v], u, .int .i64 i] w (RetIB w xs b) := by subst e1 e2; exact sPartAt_t ha hv ht hu h1 h2
theorem sArgsAt_v {l h l' h' : Nat} {v u : Value} {ar t : List Int} {w : World} (ha : ar.length ≤ 1048576) (hv : SlI l h w v ar) (ht : t.length ≤ 1048576) (hu : SlI l' h' w u t) {i : Int} (h1 : -9223372036854775808 ≤ i) (h2 : i ≤ 9223372036854775807) {xs : List Int} {b : Bool} (e1 : argsAns ar t i = xs) (e2 : askOk ar t i = b) :
    Calls Try.prog 25 #[.agg #[v], u, .int .i64 i] w (RetIB w xs b) := by subst e1 e2; exact sArgsAt_t ha hv ht hu h1 h2
theorem sEndOf_vv {l h l' h' : Nat} {v u : Value} {ar t : List Int} {w : World} (ha : ar.length ≤ 1048576) (hv : SlI l h w v ar) (ht : t.length ≤ 1048576) (hu : SlI l' h' w u t) {i : Int} (h1 : -9223372036854775808 ≤ i) (h2 : i ≤ 9223372036854775807) {x : Int} {b : Bool} (e1 : endN ar t i = x) (e2 : askOk ar t i = b) :
    Calls Try.prog 23 #[.agg #[v], u, .int .i64 i] w (RetV w (.tuple #[.int .i64 x, .bool b])) := by subst e1 e2; exact sEndOf_t ha hv ht hu h1 h2
theorem sCountOf_vv {l h l' h' : Nat} {v u : Value} {ar t : List Int} {w : World} (ha : ar.length ≤ 1048576) (hv : SlI l h w v ar) (ht : t.length ≤ 1048576) (hu : SlI l' h' w u t) {i : Int} (h1 : -9223372036854775808 ≤ i) (h2 : i ≤ 9223372036854775807) {x : Int} {b : Bool} (e1 : countAns ar t i = x) (e2 : goodTerm ar t = b) :
    Calls Try.prog 34 #[.agg #[v], u, .int .i64 i] w (RetV w (.tuple #[.int .i64 x, .bool b])) := by subst e1 e2; exact sCountOf_t ha hv ht hu h1 h2
theorem sDepthOf_vv {l h l' h' : Nat} {v u : Value} {ar t : List Int} {w : World} (ha : ar.length ≤ 1048576) (hv : SlI l h w v ar) (ht : t.length ≤ 1048576) (hu : SlI l' h' w u t) {x : Int} {b : Bool} (e1 : depthAns ar t = x) (e2 : goodTerm ar t = b) :
    Calls Try.prog 36 #[.agg #[v], u] w (RetV w (.tuple #[.int .i64 x, .bool b])) := by subst e1 e2; exact sDepthOf_t ha hv ht hu
theorem sVarsOf_vv {l h l' h' : Nat} {v u : Value} {ar t : List Int} {w : World} (ha : ar.length ≤ 1048576) (hv : SlI l h w v ar) (ht : t.length ≤ 1048576) (hu : SlI l' h' w u t) {xs : List Int} {b : Bool} (e1 : varsAns ar t = xs) (e2 : goodTerm ar t = b) :
    Calls Try.prog 38 #[.agg #[v], u] w (RetIB w xs b) := by subst e1 e2; exact sVarsOf_t ha hv ht hu
end Go.Proofs.Ytngdhpelnjckjaa
