/-
  Rows of events put together in a statement whose order is drawn; what Read tells.
-/
import Derived.Test.YtkcbjjpbcgdabaaSSt0
namespace Go.Proofs.Ytkcbjjpbcgdabaa
open Go.RowKit

theorem step_evs {ops : Array Oper} {o : Oper} {a : Act} {w : World} {K : Act → World → Prop} {Q : Exit → Act → World → Prop} {E : Prop} (hw : Region.wanted o (yielded ops a.tmps) = true) (s x : Operand) (hop : o.op = Op.call { callee := Callee.builtin Builtin.append, args := #[s, x], argTypes := #[51, 51] })
    {hv ov : Value} {A l : List Ev} (hs : a.eval s = ov) (hx : a.eval x = hv) (h : EvRow w hv l) (ho : EvRow w ov A) (hov : ov ≠ .slice none 0 0) (hl : A.length + l.length ≤ 1000000)
    (hK : ∀ g cap N w', Hid (N = (A ++ l).length) → Hid (EvRow w' (.slice (some ⟨g, 0, none⟩) N cap) (A ++ l)) → Hid (w.grownBy w' ov.ownBlock) → Hid (some g = ov.ownBlock ∨ g = w.heap.size) → K (a.put o.dst (.slice (some ⟨g, 0, none⟩) N cap)) w') :
    if Region.wanted o (yielded ops a.tmps) = true then Oper.wp Try.prog o a w K Q else E := by
  rw [if_pos hw]
  obtain ⟨v', w', hrun, h1, h2, h3, g, cap, hv'⟩ := appEvs h ho hov hl o.type
  have hk := hK g cap _ w' rfl (by rw [← hv']; exact h1) h2 (by
    rw [hv'] at h3
    rcases h3 with h3 | h3
    · exact Or.inl h3
    · exact Or.inr (by simpa [Value.ownBlock] using h3))
  rw [← hv'] at hk
  unfold Oper.wp
  simp [execOp, hop, resolve, invoke, builtin, hs, hx, hrun, Result.andThen]
  exact hk
theorem slice_ne (g : Addr) (n c : Nat) : Value.slice (some g) n c ≠ .slice none 0 0 := fun h => by injection h with h; cases h
theorem rd_some (ps : List (List Ev)) (j : Nat) (hj : j < ps.length) (f c : Nat) (hf : f ≤ ps[j].length) : rdE ps (j : Int) (f : Int) (c : Int) = 0 ∧ rdL ps (j : Int) (f : Int) (c : Int) = (ps[j].drop f).take c := by
  have hpj : (ps[((j : Nat) : Int).toNat]?.getD []) = ps[j] := by rw [Int.toNat_natCast, List.getElem?_eq_getElem hj]; rfl
  have hE : rdE ps (j : Int) (f : Int) (c : Int) = 0 := by
    unfold rdE
    rw [hpj, if_pos ⟨by omega, by omega⟩, if_pos ⟨by omega, by omega⟩, if_pos (by omega)]
  refine ⟨hE, ?_⟩
  unfold rdL
  rw [if_pos hE, hpj, Int.toNat_natCast, Int.toNat_natCast]
theorem in_parts {p q : List Ev} (h : p <+: q) (n : Nat) (hn : n ≤ p.length) : (q.drop 0).take n ++ (q.drop n).take (p.length - n) = p := by
  obtain ⟨t, rfl⟩ := h
  have e : (p.drop n).take (p.length - n) = p.drop n := List.take_of_length_le (by rw [List.length_drop]; omega)
  rw [List.drop_zero, List.take_append_of_le_length hn, List.drop_append_of_le_length hn, List.take_append_of_le_length (by rw [List.length_drop]; omega), e]
  exact List.take_append_drop n p
/-- Two rows put together behind an empty one, and held against a third: what stays. -/
theorem stay1 {W w10 : World} {g10 : Nat} (hg : (W.alloc (.cells #[] 45)).grownBy w10 (Value.slice (some ⟨W.heap.size, 0, none⟩) 0 0).ownBlock) (hat : some g10 = (Value.slice (some ⟨W.heap.size, 0, none⟩) 0 0).ownBlock ∨ g10 = (W.alloc (.cells #[] 45)).heap.size) : Kp [] W w10 ∧ W.heap.size ≤ g10 := by
  refine ⟨(Kp.alloc W (.cells #[] 45)).trans (Kp.of hg) (fun x hx => Or.inr (by simp [Value.ownBlock] at hx; omega)), ?_⟩
  rcases hat with h | h
  · simp [Value.ownBlock] at h; omega
  · simp at h; omega
theorem stay2 {W w10 w11 : World} {g10 N cap : Nat} (hk : Kp [] W w10) (h0 : W.heap.size ≤ g10) (hg : w10.grownBy w11 (Value.slice (some ⟨g10, 0, none⟩) N cap).ownBlock) : Kp [] W w11 :=
  hk.trans (Kp.of hg) (fun x hx => Or.inr (by simp [Value.ownBlock] at hx; omega))
theorem StS.endCell {w0 w : World} {g be : Nat} {v : Value} {xs : List Value} {P ps : List (List Ev)} {X : List Nat} (h : StS w0 w g be v xs P ps X) (j : Nat) (hj : j < P.length) : w.cell? ⟨be, j, none⟩ = some (.int .i64 ((P[j].length : Nat) : Int)) := h.ends.cell (by simp [intC, hj])
end Go.Proofs.Ytkcbjjpbcgdabaa
