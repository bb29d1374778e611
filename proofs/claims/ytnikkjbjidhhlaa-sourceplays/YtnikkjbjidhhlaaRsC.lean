/-
  The document's source: Read.
-/
import Derived.Test.YtnikkjbjidhhlaaRsB
namespace Go.Proofs.Ytnikkjbjidhhlaa
open Go.RowKit

theorem wpList_evsAt {w : World} {ops : Array Oper} {rest : List Oper} {o : Oper} {a : Act} {Q : Exit → Act → World → Prop} (hg : o.guard = none) (s x : Operand) (hop : o.op = .call { callee := .builtin .append, args := #[s, x], argTypes := #[51, 51] })
    {ad : Option Addr} {m c : Nat} {ov : Value} {A l : List Ev} (hs : a.eval s = ov) (hx : a.eval x = .slice ad m c) (hm : m = l.length) (h : EvsAt w ad l) (ha : ad = none → c = 0) (hsp : ∀ a, ad = some a → a.spot = none) (ho : EvRow w ov A) (hov : ov ≠ .slice none 0 0) (hl : A.length + l.length ≤ 1000000) (hc : c = 0 → l = [])
    (hK : ∀ g cap N w', Hid (N = (A ++ l).length) → Hid (EvRow w' (.slice (some ⟨g, 0, none⟩) N cap) (A ++ l)) → Hid (w.grownBy w' ov.ownBlock) → Hid (some g = ov.ownBlock ∨ g = w.heap.size) → wpList Try.prog ops Q rest (a.put o.dst (.slice (some ⟨g, 0, none⟩) N cap)) w') : wpList Try.prog ops Q (o :: rest) a w := by
  subst hm
  refine wpList_plain hg fun K' hK' => ?_
  obtain ⟨v', w', hrun, h1, h2, h3, g, cap, hv'⟩ := appEvsAt h ha hsp ho hov hl o.type hc
  have hk := hK' _ _ (hK g cap _ w' rfl (by rw [← hv']; exact h1) h2 (by
    rw [hv'] at h3
    rcases h3 with h3 | h3
    · exact Or.inl h3
    · exact Or.inr (by simpa [Value.ownBlock] using h3)))
  rw [← hv'] at hk
  unfold Oper.wp
  simp [execOp, hop, resolve, invoke, builtin, hs, hx, hrun, Result.andThen]
  exact hk
theorem stayR {W w10 : World} {g10 : Nat} (hg : (W.alloc (.cells #[] 45)).grownBy w10 (Value.slice (some ⟨W.heap.size, 0, none⟩) 0 0).ownBlock) (hat : some g10 = (Value.slice (some ⟨W.heap.size, 0, none⟩) 0 0).ownBlock ∨ g10 = W.heap.size + 1) : Kp [] W w10 ∧ W.heap.size ≤ g10 := by
  refine ⟨(Kp.alloc W (.cells #[] 45)).trans (Kp.of hg) (fun x hx => Or.inr (by simp [Value.ownBlock] at hx; omega)), ?_⟩
  rcases hat with h | h
  · simp [Value.ownBlock] at h; omega
  · omega
set_option maxHeartbeats 2000000 in
set_option maxRecDepth 100000 in
theorem refRead_ok (g q : Nat) (vs : List Value) (ps : List (List Ev)) (j n : Nat) (c : Int) (w : World) (h : RsV w g q vs ps) (hj : j < ps.length) (hn : n ≤ ps[j].length) (hc0 : 0 ≤ c) :
    Calls Try.prog 19 #[.pointer (some ⟨g, 0, none⟩), .int .i64 (j : Int), .int .i64 (n : Int), .int .i64 c] w fun r w' => ∃ v, r = .returned (.tuple #[v, .int .i64 0]) ∧ EvNew w w' v ((ps[j].drop n).take c.toNat) ∧ Kp [] w w' := by
  have c0 := h.cells
  have h2 := h.few
  have hL : ps[j].length ≤ 4096 := h.lim _ (List.getElem_mem _)
  obtain ⟨ad, cap, c1, hv, hr⟩ := h.at j hj
  obtain ⟨m, hm, hmin⟩ : ∃ m : Nat, n + m ≤ ps[j].length ∧ (m : Int) = min c (((ps[j].length - n : Nat) : Int)) := ⟨(min c (((ps[j].length - n : Nat) : Int))).toNat, by omega, by omega⟩
  have htk : (ps[j].drop n).take c.toNat = (ps[j].drop n).take m := by
    by_cases hcm : c.toNat ≤ ps[j].length - n
    · rw [show c.toNat = m by omega]
    · rw [List.take_of_length_le (by rw [List.length_drop]; omega), List.take_of_length_le (by rw [List.length_drop]; omega)]
  rw [htk]
  have hlm : ((ps[j].drop n).take m).length = m := by rw [List.length_take, List.length_drop]; omega
  obtain ⟨e0, hN0⟩ | ⟨gp, capx, ex, hlc, hcm⟩ := hr.shape
  · injection e0 with e1 e2 e3
    subst e1 e3
    have hz : ps[j].length = 0 := e2
    obtain rfl : n = 0 := by omega
    obtain rfl : m = 0 := by omega
    have hLn : (ps[j].drop 0).take 0 = [] := rfl
    rw [hLn]
    have HR0 := hide (EvRow.empty w)
    clear hr hv h hlm htk hN0 hLn hm hn hL
    rw [hz] at c1 hmin
    clear hz e2
    have hji : (j : Int) < (ps.length : Int) := by omega
    have hmn : min c 0 = 0 := by omega
    clear hj hmin
    generalize ps.length = P at *
    have hcn : ¬ c < 0 := by omega
    go_enter Try.func19, Try.ntmps19
    go_wp2_with fail
    go_ret2
    exact ⟨_, rfl, ⟨unhide HR0, fun k hk => by simp [Value.ownBlock] at hk; omega⟩, Kp.alloc _ _⟩
  · injection ex with ex1 ex2 ex3
    subst ex1 ex3
    have hes : ∀ ad', (cap = n ∨ ad' = some (⟨gp, n * 7, none⟩ : Addr)) → EvsAt (w.alloc (.cells #[] 45)) ad' ((ps[j].drop n).take m) := fun ad' hor => by
      rcases hor with hor | rfl
      · intro hl
        have : ps[j].drop n = [] := List.drop_of_length_le (by omega)
        rw [this] at hl
        simp at hl
      · have e : (some (⟨gp, 0, none⟩ : Addr)).map (·.add (n * 7)) = some ⟨gp, n * 7, none⟩ := by simp [Addr.add]; omega
        have h1 := (hr.evs.sub n m hm).kp (Kp.alloc w (.cells #[] 45)) (by simp)
        rw [e] at h1
        exact h1
    have hnil : cap - n = 0 → (ps[j].drop n).take m = [] := fun h0 => by
      rw [List.drop_of_length_le (by omega)]; simp
    have HES := hide hes
    have HLM := hide hlm
    have HNL := hide hnil
    have HR0 := hide (EvRow.empty w)
    clear htk hes hr hv h hlm ex2 hnil
    generalize (ps[j].drop n).take m = L at *
    generalize ps[j].length = N at *
    have hji : (j : Int) < (ps.length : Int) := by omega
    clear hj
    generalize ps.length = P at *
    have hL0 : ([] : List Ev).length + L.length ≤ 1000000 := by rw [unhide HLM, List.length_nil]; omega
    by_cases hcn : cap = n
    · go_enter Try.func19, Try.ntmps19
      go_wp2_with (at_builtin; refine wpList_evsAt (l := L) rfl _ _ rfl rfl rfl ?hm (unhide HES _ (Or.inl hcn)) ?ha ?hs (unhide HR0) ?hv hL0 ?hc ?_)
      case hm => rw [unhide HLM]; omega
      case hs => intro a ha; injection ha with ha; rw [← ha]
      case hc => exact unhide HNL (by omega)
      case hv => intro hx; injection hx with hx; cases hx
      intro g3 cap3 N3 w3 HN3 HR3 HG3 HAT3
      have HK3 := hide (stayR (unhide HG3) (unhide HAT3))
      go_wp2
      go_ret2
      refine ⟨_, rfl, ⟨unhide HR3, fun k hk => ?_⟩, (unhide HK3).1⟩
      have e1 : g3 = k := by simpa [Value.ownBlock] using hk
      rw [← e1]; exact (unhide HK3).2
    · have hcn2 : ¬ cap - n = 0 := by omega
      have hcn3 : ¬ n = cap := by omega
      go_enter Try.func19, Try.ntmps19
      go_wp2_with (at_builtin; refine wpList_evsAt (l := L) rfl _ _ rfl rfl rfl ?hm2 (unhide HES _ (Or.inr rfl)) ?ha2 ?hs2 (unhide HR0) ?hv2 hL0 ?hc2 ?_)
      case hm2 => rw [unhide HLM]; omega
      case hs2 => intro a ha; injection ha with ha; rw [← ha]
      case hc2 => exact fun h0 => absurd h0 hcn2
      case ha2 => intro hx; cases hx
      case hv2 => intro hx; injection hx with hx; cases hx
      intro g3 cap3 N3 w3 HN3 HR3 HG3 HAT3
      have HK3 := hide (stayR (unhide HG3) (unhide HAT3))
      go_wp2
      go_ret2
      refine ⟨_, rfl, ⟨unhide HR3, fun k hk => ?_⟩, (unhide HK3).1⟩
      have e1 : g3 = k := by simpa [Value.ownBlock] using hk
      rw [← e1]; exact (unhide HK3).2
end Go.Proofs.Ytnikkjbjidhhlaa
