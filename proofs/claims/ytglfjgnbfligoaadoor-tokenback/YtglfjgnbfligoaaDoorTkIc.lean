/-
  A slice of tokens that comes in as an argument: it has room for them.
-/
import Derived.Test.YtglfjgnbfligoaaDoorTkI
namespace Go.Proofs.YtglfjgnbfligoaaDoor
open Go.RowKit Go.Deep

theorem open_tks_cap {H : Type} {enc : TypeId × Value → H} {W : World} {spare : Nat → Bool} {held : Bool} {fuel : Nat} {a : Option Addr} {len cp : Nat} {x : DataW H × List MemPlace}
    (h : DataW.trod enc Tryd.prog W 0 spare held fuel 22 [.slice a len cp] = some x) : len ≤ cp := by
  rcases open_slice Tryd.underlying22 h with ⟨hcs, _⟩ | ⟨a', len', cap', m, n, D, Pl, hcs, hb, hl, hm, hmm, _, hx⟩
  · simp only [List.cons.injEq, and_true] at hcs
    injection hcs with _ e1 e2
    omega
  · simp only [List.cons.injEq, and_true] at hcs
    injection hcs with _ e1 e2
    omega
end Go.Proofs.YtglfjgnbfligoaaDoor
