/-
  TokenJoins: its walk.
-/
import Derived.Test.YtglfjgnbfligoaaDoorTPar
import Derived.Test.YtglfjgnbfligoaaDoorRkI
import Derived.Deep.DeepAppendWide
import Derived.Laws.AppendOwnNone
namespace Go.Proofs.YtglfjgnbfligoaaDoor
open Go.RowKit

theorem tk_lend {w : World} {g : Addr} {l : List Tk} (h : TksAt w (some g) l) : ∀ j u, (tkC l)[j]? = some u → w.cell? (g.add j) = some u := by
  intro j u hj
  have hlen : (tkC l).length = l.length * 4 := by
    clear hj h
    induction l with
    | nil => rfl
    | cons x r ih =>
      rw [show tkC (x :: r) = [.int .i64 x.kd, .string x.s, .int .i64 x.n, .int .i64 x.pl] ++ tkC r by unfold tkC; rw [List.flatMap_cons], List.length_append, ih, List.length_cons]
      simp
      omega
  have hjl : j < l.length * 4 := by rw [← hlen]; exact (List.getElem?_eq_some_iff.1 hj).1
  obtain ⟨b, off, e, _, hc⟩ := h (by intro e; subst e; simp at hjl)
  injection e with e
  subst e
  have hi : j / 4 < l.length := by omega
  obtain ⟨a0, a1, a2, a3⟩ := tkC_get l (j / 4) hi
  obtain ⟨c0, c1, c2, c3⟩ := hc (j / 4) hi
  rw [Go.WideShapes.add_plain]
  have hm : j % 4 = 0 ∨ j % 4 = 1 ∨ j % 4 = 2 ∨ j % 4 = 3 := by omega
  rcases hm with hm | hm | hm | hm
  · rw [show j = j / 4 * 4 by omega] at hj
    rw [a0] at hj
    rw [← Option.some.inj hj, show off + j = off + j / 4 * 4 by omega]
    exact c0
  · rw [show j = j / 4 * 4 + 1 by omega] at hj
    rw [a1] at hj
    rw [← Option.some.inj hj, show off + j = off + j / 4 * 4 + 1 by omega]
    exact c1
  · rw [show j = j / 4 * 4 + 2 by omega] at hj
    rw [a2] at hj
    rw [← Option.some.inj hj, show off + j = off + j / 4 * 4 + 2 by omega]
    exact c2
  · rw [show j = j / 4 * 4 + 3 by omega] at hj
    rw [a3] at hj
    rw [← Option.some.inj hj, show off + j = off + j / 4 * 4 + 3 by omega]
    exact c3
theorem tkC_one (l : List Tk) : ∀ u ∈ tkC l, u.oneCell' = true := by
  intro u hu
  unfold tkC at hu
  obtain ⟨t, _, ht⟩ := List.mem_flatMap.1 hu
  simp at ht
  rcases ht with rfl | rfl | rfl | rfl <;> rfl
theorem tkC_len (l : List Tk) : (tkC l).length = l.length * 4 := by
  induction l with
  | nil => rfl
  | cons x r ih =>
    rw [show tkC (x :: r) = [.int .i64 x.kd, .string x.s, .int .i64 x.n, .int .i64 x.pl] ++ tkC r by unfold tkC; rw [List.flatMap_cons], List.length_append, ih, List.length_cons]
    simp
    omega
/-- A list of tokens put at the end of a row of the call's own. -/
theorem wpList_tksW {w : World} {ops : Array Oper} {rest : List Oper} {o : Oper} {a : Act} {Q : Exit → Act → World → Prop} (hgd : o.guard = none) (s x : Operand)
    (ho : o.op = .call { callee := .builtin .append, args := #[s, x], argTypes := #[22, 22] })
    (B : Nat) (v : Value) (xs : List Tk) (hs : a.eval s = v) (hown : OwnsK B w v xs) (ad : Option Addr) (cap : Nat) (l : List Tk) (hx : a.eval x = .slice ad l.length cap) (hnil : ad = none → cap = 0) (hI : TksAt w ad l)
    (hb : (xs.length + l.length) * 40 ≤ 140737488351232) (hbase : B ≤ w.heap.size)
    (h : ∀ v' w', OwnsK B w' v' (xs ++ l) → Fr B 35 w w' → wpList Tryd.prog ops Q rest (a.put o.dst v') w') : wpList Tryd.prog ops Q (o :: rest) a w := by
  obtain ⟨i0, hi, hz0, hz1, hz2⟩ := info_parts info_Tk
  cases ad with
  | none =>
    have hl : l = [] := by
      by_cases e : l = []
      · exact e
      · obtain ⟨_, _, e2, _⟩ := hI e; cases e2
    subst hl
    refine wpList_append_own_none hgd s x 22 ho B 35 i0 4 Tryd.underlying22 hi v xs.length (tkC xs) hs hown (by rw [hx, hnil rfl]; rfl) ?_
    exact h v w (by rw [List.append_nil]; exact hown) (Fr.refl _ _ _)
  | some g =>
    refine wpList_append_own_wide w hgd s x 22 ho B 35 i0 (.agg #[.int .i64 0, .string ⟨#[]⟩, .int .i64 0, .int .i64 0]) 4 40 Tryd.underlying22 hi hz0 hz1 hz2 rfl (by decide) v xs.length (tkC xs) hs hown g l.length cap (tkC l) hx (tkC_len l) (tk_lend hI) (tkC_one l) (by unfold maxLen; omega) (by omega) hbase ?_
    intro v' w' h1 h2 _
    refine h v' w' ?_ ((Fr.refl _ _ _).grown hown h2 hbase)
    unfold OwnsK
    rw [tkC_append, List.length_append]
    exact h1
set_option maxHeartbeats 1000000 in
set_option maxRecDepth 100000 in
theorem joins_walk (ad : Option Addr) (cap : Nat) (l : List Tk) (w : World) (hl : l.length * 40 ≤ 140737488351232) (hcap : l.length ≤ cap) (hA : TksAt w ad l) (hok : ∀ t ∈ l, t.ok) (hn : ad = none → cap = 0) (hsz : ∀ t ∈ l, t.s.size ≤ 140737488351232) (hT : TbW w) :
    Calls Tryd.prog 4 #[.slice ad l.length cap] w fun e w' => e = .returned (.bool true) ∧ Kp [] w w' := by
  have hlow := hT.low
  have ow : OwnsK w.heap.size (w.alloc (.cells #[] 35)) (.slice (some ⟨w.heap.size, 0, none⟩) 0 0) [] := World.ownsRow_made w #[] 0 (Nat.le_refl _) (by unfold maxLen; omega) (by simp)
  have hb0 : Below w.heap.size w (w.alloc (.cells #[] 35)) := (Below.refl _ _).alloc (Nat.le_refl _) _
  have ia := hA.kp (Kp.ofBelow hb0)
  have OW := hide ow
  have IA := hide ia
  have HN := hide hn
  have HB0 := hide hb0
  have HA := hide hA
  have HOK := hide hok
  have HSZ := hide hsz
  clear ow ia hn hb0 hA hok hsz
  go_enter Tryd.func4, Tryd.ntmps4
  go_wp2_with (at_builtin; refine wpList_tksW rfl (.tmp 8) (.tmp 9) rfl w.heap.size _ [] rfl (unhide OW) ad cap l rfl (unhide HN) (unhide IA) (by simp; omega) (unhide HB0).size ?_)
  intro v1 w1 ho1 hf1
  have hb1 := (unhide HB0).trans hf1.below
  have hl1 := hb1.size
  have hT1 := hT.below hb1 hlow
  obtain ⟨a1, c1, rfl, hA1, hc1⟩ := ho1.at
  have JO := join_any a1 c1 l w1 hT1 (by omega) hc1 hA1 (unhide HOK)
  have HJO := hide JO
  have HA1 := hide hA1
  have HB1 := hide hb1
  clear hf1 OW IA HB0 JO ho1 hA1 hb1
  go_wp2_with fail
  refine (unhide HJO).mono ?_
  rintro e w2 ⟨rfl, hb2⟩
  have hl2 := hb2.size
  have hk2 : Kp [] w w2 := (Kp.ofBelow (unhide HB1)).trans (Kp.ofBelow hb2) (by simp)
  have hA2 := (unhide HA).kp hk2
  have hAo2 := (unhide HA1).kp (Kp.ofBelow hb2)
  have RJ := rJoin_any ad cap l w2 (by omega) hcap hA2 (unhide HOK) (unhide HSZ)
  have HRJ := hide RJ
  have HK2 := hide hk2
  have HA2 := hide hA2
  have HAO2 := hide hAo2
  clear RJ hk2 hA2 hAo2 hb2 HJO HA HA1 HB1
  generalize txt (joR l).1 = JS at *
  generalize (joR l).2 = JE at *
  go_wp2_with fail
  refine (unhide HRJ).mono ?_
  rintro e w3 ⟨rfl, hb3⟩
  have hk3 : Kp [] w w3 := (unhide HK2).trans (Kp.ofBelow hb3) (by simp)
  have hA3 := (unhide HA2).kp (Kp.ofBelow hb3)
  have hAo3 := (unhide HAO2).kp (Kp.ofBelow hb3)
  have SE := same_eq a1 ad c1 cap l w3 (by omega) hAo3 hA3
  have HSE := hide SE
  have HK3 := hide hk3
  clear SE hk3 hA3 hAo3 hb3 HRJ HK2 HA2 HAO2
  go_wp2_with fail
  refine (unhide HSE).mono ?_
  rintro e w4 ⟨rfl, hk4⟩
  have hk5 := (unhide HK3).trans hk4 (by simp)
  have hT4 := hT.kp hk5 (by simp)
  have HK5 := hide hk5
  clear hk4 hk5 HSE HK3
  go_wp2_with fail
  refine (tworks_any _ hT4).mono ?_
  rintro e w5 ⟨rfl, hb5⟩
  have HK6 : Hid (Kp [] w w5) := hide ((unhide HK5).trans (Kp.ofBelow hb5) (by simp))
  clear hb5
  go_wp2
  go_ret
  exact ⟨rfl, unhide HK6⟩
end Go.Proofs.YtglfjgnbfligoaaDoor
