/- Texts merged, part 12. -/
import Derived.Test.YtngdhpelnjckjaaMgUnified11
section
/- Contracts of unification with the answers named. -/
namespace Go.Proofs.Ytngdhpelnjckjaa
open Go.RowKit

theorem iUnify_v {l h l' h' l2 h2 : Nat} {v x y : Value} {ar a b : List Int} {w : World} (ha : ar.length ≤ 1048576) (hv : SlI l h w v ar) (hal : a.length ≤ 1048576) (hx : SlI l' h' w x a) (hbl : b.length ≤ 1048576) (hy : SlI l2 h2 w y b) {xs : List (List Int)} {k : Bool} (e1 : unifyAns ar a b = xs) (e2 : unifyOk ar a b = k) :
    Calls Try.prog 50 #[.agg #[v], x, y] w (RetSSB w xs k) := by subst e1 e2; exact iUnify_t ha hv hal hx hbl hy
theorem iIsUnifier_vv {l h l' h' l2 h2 l3 h3 : Nat} {v u x y : Value} {ar : List Int} {b : List (List Int)} {t r : List Int} {w : World} (ha : ar.length ≤ 1048576) (hv : SlI l h w v ar) (hb : short b) (hu : SlS l' h' w u b) (ht : t.length ≤ 1048576) (hx : SlI l2 h2 w x t) (hr : r.length ≤ 1048576) (hy : SlI l3 h3 w y r) {q k : Bool} (e1 : unifAns ar b t r = q) (e2 : (applyOk ar b t && applyOk ar b r) = k) :
    Calls Try.prog 53 #[.agg #[v], u, x, y] w (RetV w (.tuple #[.bool q, .bool k])) := by subst e1 e2; exact iIsUnifier_t ha hv hb hu ht hx hr hy
theorem sUnify_v {l h l' h' l2 h2 : Nat} {v x y : Value} {ar a b : List Int} {w : World} (ha : ar.length ≤ 1048576) (hv : SlI l h w v ar) (hal : a.length ≤ 1048576) (hx : SlI l' h' w x a) (hbl : b.length ≤ 1048576) (hy : SlI l2 h2 w y b) {xs : List (List Int)} {k : Bool} (e1 : unifyAns ar a b = xs) (e2 : unifyOk ar a b = k) :
    Calls Try.prog 51 #[.agg #[v], x, y] w (RetSSB w xs k) := by subst e1 e2; exact sUnify_t ha hv hal hx hbl hy
theorem sIsUnifier_vv {l h l' h' l2 h2 l3 h3 : Nat} {v u x y : Value} {ar : List Int} {b : List (List Int)} {t r : List Int} {w : World} (ha : ar.length ≤ 1048576) (hv : SlI l h w v ar) (hb : short b) (hu : SlS l' h' w u b) (ht : t.length ≤ 1048576) (hx : SlI l2 h2 w x t) (hr : r.length ≤ 1048576) (hy : SlI l3 h3 w y r) {q k : Bool} (e1 : unifAns ar b t r = q) (e2 : (applyOk ar b t && applyOk ar b r) = k) :
    Calls Try.prog 56 #[.agg #[v], u, x, y] w (RetV w (.tuple #[.bool q, .bool k])) := by subst e1 e2; exact sIsUnifier_t ha hv hb hu ht hx hr hy
end Go.Proofs.Ytngdhpelnjckjaa
end
