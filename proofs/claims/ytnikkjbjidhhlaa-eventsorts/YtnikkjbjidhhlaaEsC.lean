/-
  EventSorts: the walk.
-/
import Derived.Test.YtnikkjbjidhhlaaEsB
import Derived.Test.YtnikkjbjidhhlaaEvW
namespace Go.Proofs.Ytnikkjbjidhhlaa
open Go.RowKit

/-- Matches lie where the slice says. -/
def MtsAt (w : World) (ad : Option Addr) (l : List Hd) : Prop :=
  l ≠ [] → ∃ b off, ad = some ⟨b, off, none⟩ ∧ b < w.heap.size ∧ ∀ i (h : i < l.length), w.cell? ⟨b, off + i * 2, none⟩ = some (.string l[i].k) ∧ w.cell? ⟨b, off + i * 2 + 1, none⟩ = some (.slice l[i].a l[i].s.length l[i].c)
def Hd.lies (w : World) (h : Hd) : Prop := MtOk h.k h.s ∧ StagesAt w h.a h.s
/-- A row of matches of the call's own, all of which may be; nil if there are none. -/
structure HIn (w W : World) (ad : Option Addr) (cp : Nat) (l : List Hd) : Prop where
  row : HRow W (.slice ad l.length cp) l
  own : ∀ g, (Value.slice ad l.length cp).ownBlock = some g → w.heap.size ≤ g
  nil : l = [] → ad = none ∧ cp = 0
  ok : ∀ x ∈ l, x.ok w
theorem HIn.kp {w W W' : World} {ad : Option Addr} {cp : Nat} {l : List Hd} (h : HIn w W ad cp l) (hk : Kp [] W W') : HIn w W' ad cp l := ⟨h.row.kp hk (by simp), h.own, h.nil, h.ok⟩
theorem HIn.nil' (w W : World) : HIn w W none 0 [] := ⟨HRow.nil W, (fun g h => by cases h), fun _ => ⟨rfl, rfl⟩, (fun x hx => by cases hx)⟩
/-- One more match in order. -/
theorem HIn.put {w W : World} {ad : Option Addr} {cp : Nat} {l : List Hd} (h : HIn w W ad cp l) (hk : Kp [] w W) (hl : l.length ≤ 20) (m : Hd) (hm : m.ok w) :
    Calls Try.prog 11 #[.slice ad l.length cp, .agg #[.string m.k, .slice m.a m.s.length m.c]] W fun e w' => ∃ ad' cp', e = .returned (.slice ad' (insH m l).length cp') ∧ HIn w w' ad' cp' (insH m l) ∧ Kp [] W w' := by
  refine (put1_any l m ad cp W h.row h.nil hl (fun x hx => (h.ok x hx).kp hk) (hm.kp hk)).mono ?_
  rintro e w' ⟨g, cap, rfl, hr, hg, hk'⟩
  rw [insH_len]
  refine ⟨_, _, rfl, ⟨?_, ?_, ?_, ?_⟩, hk'⟩
  · rw [insH_len]; exact hr
  · intro q hq
    simp [Value.ownBlock] at hq
    subst hq
    exact Nat.le_trans hk.size hg
  · intro e
    have := insH_len m l
    rw [e] at this
    simp at this
  · intro x hx
    rcases List.mem_cons.1 ((insH_perm m l).mem_iff.1 hx) with rfl | hx
    · exact hm
    · exact h.ok x hx
theorem HIn.at {w W : World} {ad : Option Addr} {cp : Nat} {l : List Hd} (h : HIn w W ad cp l) (hl : 0 < l.length) : ∃ g, ad = some ⟨g, 0, none⟩ ∧ g < W.heap.size ∧ ∀ i (hi : i < l.length), W.cell? ⟨g, i * 2, none⟩ = some (.string l[i].k) ∧ W.cell? ⟨g, i * 2 + 1, none⟩ = some (.slice l[i].a l[i].s.length l[i].c) := by
  obtain ⟨g, cap, e, hg, _, _, hc⟩ := h.row.at hl
  simp only [Value.slice.injEq] at e
  obtain ⟨rfl, _, rfl⟩ := e
  exact ⟨g, rfl, hg, hc⟩
theorem HIn.snoc {w W w3 : World} {va : Option Addr} {vc : Nat} {L : List Hd} (h : HIn w W va vc L) (hk : Kp [] w W) {y : Hd} (hy : y.ok w) {g3 cap3 : Nat} {o : Obj} (hown : w3.ownsRow 0 28 2 (.slice (some ⟨g3, 0, none⟩) (L.length + 1) cap3) (L.length + 1) (hdC L ++ [.string y.k, .slice y.a y.s.length y.c]))
    (hgr : (W.alloc o).grownBy w3 (Value.slice va L.length vc).ownBlock) (hat : (Value.slice va L.length vc).ownBlock = some g3 ∨ g3 = (W.alloc o).heap.size) : HIn w w3 (some ⟨g3, 0, none⟩) cap3 (L ++ [y]) ∧ Kp [] w w3 := by
  have hs := hk.size
  have hg : w.heap.size ≤ g3 := by
    rcases hat with e | e
    · exact h.own g3 e
    · rw [e]; simp; omega
  refine ⟨⟨?_, ?_, ?_, ?_⟩, (hk.trans (Kp.alloc W o) (by simp)).trans (Kp.of hgr) ?_⟩
  · unfold HRow
    have e : hdC (L ++ [y]) = hdC L ++ [.string y.k, .slice y.a y.s.length y.c] := by rw [hdC_append]; unfold hdC Hd.c2; simp
    rw [List.length_append, e]
    exact hown
  · intro q hq
    simp [Value.ownBlock] at hq
    subst hq
    exact hg
  · intro e; simp at e
  · intro x hx
    rcases List.mem_append.1 hx with hx | hx
    · exact h.ok x hx
    · rw [List.mem_singleton] at hx; rw [hx]; exact hy
  · intro z hz
    right
    cases hv : (Value.slice va L.length vc).ownBlock with
    | none => rw [hv] at hz; cases hz
    | some q =>
      rw [hv] at hz
      simp at hz
      subst hz
      exact h.own _ hv
set_option maxHeartbeats 4000000 in
set_option maxRecDepth 100000 in
theorem sorts_walk (ad : Option Addr) (cap : Nat) (l : List Hd) (w : World) (_hl : l.length ≤ 9223372036854775807) (hA : MtsAt w ad l) (hok : ∀ h ∈ l, h.lies w) :
    Calls Try.prog 3 #[.slice ad l.length cap] w fun e w' => e = .returned (.bool true) ∧ Below w.heap.size w w' := by
  have WK := hide (evWorks_any w)
  have HA := hide hA
  have CK := hide (fun h (hh : h ∈ l) W (hk : Kp [] w W) => checkMatch_any h.k h.a h.c h.s W (hok h hh).1 ((hok h hh).2.kp hk))
  have HOK := hide hok
  clear hA hok
  obtain ⟨i0, hi0, hz0, hz1, hz2⟩ := info_parts info_match
  go_enter Try.func3, Try.ntmps3
  go_wp2_with fail
  refine (unhide WK).mono ?_
  rintro r w1 ⟨rfl, hb1⟩
  have hk1 := Kp.ofBelow hb1
  clear hb1 WK
  go_wp2
  go_loopw [3, 4] (fun v i wr => ∃ (k : Nat) (va : Option Addr) (vc : Nat) (L : List Hd), k ≤ l.length ∧ k ≤ 20 ∧ i = .int .i64 (k : Int) ∧ v = .slice va L.length vc ∧ L.length ≤ k ∧ Hid (HIn w wr va vc L) ∧ Kp [] w wr) (fun _ i _ => l.length - (intOf i).toNat)
  case atStart => exact ⟨0, none, 0, [], Nat.zero_le _, Nat.zero_le _, rfl, rfl, Nat.le_refl _, hide (HIn.nil' _ _), hk1⟩
  case round =>
    obtain ⟨k, va, vc, L, hk, hk20, rfl, rfl, hLk, HI, kp⟩ := hrel
    by_cases hlt : k < l.length
    · by_cases hlt20 : k < 20
      · obtain ⟨b, off, rfl, hb, hc⟩ := unhide HA (fun e => by rw [e] at hlt; simp at hlt)
        obtain ⟨c0, c1⟩ := hc k hlt
        have d0 := kp.cell c0 (by simp)
        have d1 := kp.cell c1 (by simp)
        have C := hide (unhide CK l[k] (List.getElem_mem _) wr kp)
        have HL := hide (unhide HOK l[k] (List.getElem_mem _))
        have hli : (k : Int) < (l.length : Int) := by omega
        have hl20 : (k : Int) < 20 := by omega
        clear hc c0 c1 CK HOK HA
        generalize l[k] = y at *
        have d2 : (wr.alloc (.cells #[.string y.k, .slice y.a y.s.length y.c] 28)).cell? ⟨b, off + k * 2, none⟩ = some (.string y.k) := (Kp.alloc _ _).cell d0 (by simp)
        have d3 : (wr.alloc (.cells #[.string y.k, .slice y.a y.s.length y.c] 28)).cell? ⟨b, off + k * 2 + 1, none⟩ = some (.slice y.a y.s.length y.c) := (Kp.alloc _ _).cell d1 (by simp)
        have kq := Kp.alloc wr (.cells #[.string y.k, .slice y.a y.s.length y.c] 28)
        have KQ := hide (kp.trans kq (by simp))
        have HI2 := hide ((unhide HI).kp kq)
        clear HI kq kp
        by_cases hm : mayM y.k y.s = true
        · have e0 : chkM y.k y.s = 0 := if_pos hm
          rw [e0] at C
          have HM := hide hm
          clear hm e0
          go_wp2_with fail
          refine (unhide C).mono ?_
          rintro r w2 ⟨rfl, rfl⟩
          generalize wr.alloc (.cells #[.string y.k, .slice y.a y.s.length y.c] 28) = W2 at *
          clear d0 d1 C
          have hrow : W2.ownsRow 0 28 2 (.slice va L.length vc) L.length (hdC L) := (unhide HI2).row
          have hyok : y.ok w := ⟨(unhide HL).1, (unhide HL).2, unhide HM⟩
          have HNX := hide (fun w3 g3 cap3 o => (unhide HI2).snoc (w3 := w3) (g3 := g3) (cap3 := cap3) (o := o) (unhide KQ) hyok)
          clear hyok HL HM KQ HI2
          go_wp2_with (at_builtin; refine wpList_append_lies _ rfl _ _ 22 rfl 0 28 i0 (.agg #[.string ⟨#[]⟩, .slice none 0 0]) 2 40 Try.underlying22 hi0 hz0 hz1 hz2 rfl (by decide) (.slice va L.length vc) L.length (hdC L) rfl (hrow.alloc _) ⟨W2.heap.size, 0, none⟩ 1 1 [.string y.k, .slice y.a y.s.length y.c] rfl rfl (mt_new W2 _ rfl _ _ _ _ rfl) (by intro u hu; simp at hu; rcases hu with rfl | rfl <;> rfl) (by omega) (by unfold maxLen; omega) (by omega) (by simp) _ rfl ?_; intro g3 cap3 w3 hown' hgrow hat3 hlt3; have HAT := hide hat3; clear hat3)
          obtain ⟨hn1, hn2⟩ := unhide HNX _ _ _ _ hown' hgrow (unhide HAT)
          have HN1 := hide hn1
          clear hown' hgrow HAT hrow hn1 HNX
          go_wp2
          go_roundw
          case rel => exact ⟨k + 1, _, cap3, L ++ [y], by omega, by omega, by go_num, by rw [List.length_append]; rfl, by rw [List.length_append]; simp; omega, HN1, hn2⟩
          case measure => simp [intOf]; omega
        · have e0 : chkM y.k y.s = 20 := if_neg hm
          rw [e0] at C
          clear hm e0
          go_wp2_with fail
          refine (unhide C).mono ?_
          rintro r w2 ⟨rfl, rfl⟩
          go_wp2
          go_roundw
          case rel => exact ⟨k + 1, va, vc, L, by omega, by omega, by go_num, rfl, by omega, HI2, unhide KQ⟩
          case measure => simp [intOf]; omega
      · have hl20 : ¬ ((k : Int) < 20) := by omega
        have hli : (k : Int) < (l.length : Int) := by omega
        have hL20 : L.length ≤ 20 := by omega
        have HK := hide kp
        clear CK HOK HA kp hk1
        skip
        go_wp2
        skip
        generalize wr = wA at *
        go_loopw [6, 7, 41] (fun a b i wr' => ∃ (j : Nat) (aa ba : Option Addr) (ac bc : Nat) (A B : List Hd), j ≤ L.length ∧ i = .int .i64 (j : Int) ∧ a = .slice aa A.length ac ∧ b = .slice ba B.length bc ∧ Hid (A = allH (L.take j)) ∧ Hid (B = allH (L.reverse.take j)) ∧ A.length ≤ 20 ∧ B.length ≤ 20 ∧ Hid (HIn w wr' aa ac A) ∧ Hid (HIn w wr' ba bc B) ∧ Kp [] wA wr') (fun _ _ i _ => L.length - (intOf i).toNat)
        case atStart => exact ⟨0, none, none, 0, 0, [], [], Nat.zero_le _, rfl, rfl, rfl, hide rfl, hide rfl, by simp, by simp, hide (HIn.nil' _ _), hide (HIn.nil' _ _), Kp.refl _ _⟩
        case round =>
          obtain ⟨j, aa, ba, ac, bc, A, B, hj, rfl, rfl, rfl, EA, EB, hA20, hB20, RA, RB, kp⟩ := hrel
          by_cases hjl : j < L.length
          · obtain ⟨g, rfl, hg, hc⟩ := ((unhide HI).kp kp).at (by omega)
            obtain ⟨c0, c1⟩ := hc j hjl
            obtain ⟨q, hq⟩ : ∃ q, L.length = q + j + 1 := ⟨L.length - j - 1, by omega⟩
            have hql : q < L.length := by omega
            obtain ⟨f0, f1⟩ := hc q hql
            have hji : (j : Int) < (L.length : Int) := by omega
            have hqi : (q : Int) < (L.length : Int) := by omega
            have hqe : (L.length : Int) - 1 - (j : Int) = (q : Int) := by omega
            have kw := (unhide HK).trans kp (by simp)
            have PA := hide ((unhide RA).put kw hA20 L[j] ((unhide HI).ok _ (List.getElem_mem _)))
            have PB := hide (fun w5 (h5 : Kp [] wr w5) => ((unhide RB).kp h5).put (kw.trans h5 (by simp)) hB20 L[q] ((unhide HI).ok _ (List.getElem_mem _)))
            have NA : Hid (insH L[j] A = allH (L.take (j + 1))) := hide (by rw [allH_take L j hjl, unhide EA])
            have NB : Hid (insH L[q] B = allH (L.reverse.take (j + 1))) := hide (by
              have hjr : j < L.reverse.length := by simpa using hjl
              have e : L.reverse[j] = L[q] := by
                rw [List.getElem_reverse]
                congr 1
                omega
              rw [allH_take L.reverse j hjr, unhide EB, e])
            have F := hide (fun w5 (h5 : Kp [] wr w5) => (⟨h5.cell f0 (by simp), h5.cell f1 (by simp)⟩ : _ ∧ _))
            have KP := hide kp
            clear hc f0 f1 EA EB RA RB kw kp hq
            generalize L[j] = x at *
            generalize L[q] = y at *
            have hlA := insH_len x A
            have hlB := insH_len y B
            have HLA : Hid ((insH x A).length ≤ 20) := hide (by rw [unhide NA, allH_len, List.length_take]; omega)
            have HLB : Hid ((insH y B).length ≤ 20) := hide (by rw [unhide NB, allH_len, List.length_take]; omega)
            clear hlA hlB
            generalize insH x A = A2 at *
            generalize insH y B = B2 at *
            go_wp2_with fail
            refine (unhide PA).mono ?_
            rintro r w5 ⟨a2, c2, rfl, h2, k5⟩
            obtain ⟨g0, g1⟩ := unhide F w5 k5
            have QB := hide (unhide PB w5 k5)
            have H2 := hide h2
            have K5 := hide k5
            clear h2 k5 F PB PA c0 c1
            go_wp2_with fail
            refine (unhide QB).mono ?_
            rintro r w6 ⟨b2, d2, rfl, h3, k6⟩
            have H3 := hide h3
            have H2 := hide ((unhide H2).kp k6)
            have K6 := hide (((unhide KP).trans (unhide K5) (by simp)).trans k6 (by simp))
            clear h3 k6 QB K5 KP g0 g1
            go_wp2
            go_roundw
            case rel => exact ⟨j + 1, a2, b2, c2, d2, A2, B2, by omega, by go_num, rfl, rfl, NA, NB, unhide HLA, unhide HLB, H2, H3, unhide K6⟩
            case measure => simp [intOf]; omega
          · obtain rfl : j = L.length := by omega
            have ea : A = allH L := by have := unhide EA; rwa [List.take_of_length_le (Nat.le_refl _)] at this
            have eb : B = allH L.reverse := by have := unhide EB; rwa [List.take_of_length_le (by simp)] at this
            have hAB : A.length = B.length := by rw [ea, eb, allH_len, allH_len]; simp
            have HZ : Hid (∀ t (h1 : t < A.length) (h2 : t < B.length), cH A[t] B[t] = 0) := hide (by subst ea eb; exact allH_zero L)
            have HSR : Hid (SrtH A) := hide (by rw [ea]; exact (allH_both L).1)
            have HAB := hide hAB
            have KW := hide ((unhide HK).trans kp (by simp))
            clear ea eb hAB EA EB HI HK kp
            go_wp2
            generalize wr = wB at *
            go_loopw [65] (fun i wr' => ∃ t : Nat, t ≤ A.length ∧ i = .int .i64 (t : Int) ∧ Kp [] wB wr') (fun i _ => A.length - (intOf i).toNat)
            case atStart => exact ⟨0, Nat.zero_le _, rfl, Kp.refl _ _⟩
            case round =>
              obtain ⟨t, ht, rfl, kp⟩ := hrel
              by_cases htl : t < A.length
              · have htb : t < B.length := by have := unhide HAB; omega
                obtain ⟨ga, rfl, _, ca⟩ := ((unhide RA).kp kp).at (by omega)
                obtain ⟨gb, rfl, _, cb⟩ := ((unhide RB).kp kp).at (by omega)
                obtain ⟨a0, a1⟩ := ca t htl
                obtain ⟨b0, b1⟩ := cb t htb
                have hti : (t : Int) < (A.length : Int) := by omega
                have htj : (t : Int) < (B.length : Int) := by omega
                have kw := (unhide KW).trans kp (by simp)
                have CA := hide (fun W (hW : Kp [] wr W) => compareH (((unhide RA).ok A[t] (List.getElem_mem _)).kp (kw.trans hW (by simp))) (((unhide RB).ok B[t] (List.getElem_mem _)).kp (kw.trans hW (by simp))))
                rw [unhide HZ t htl htb] at CA
                have KP := hide kp
                have KWW := hide kw
                have PREV : Hid (∀ s, t = s + 1 → ∃ (hs : s < A.length), (∀ W, Kp [] wr W → W.cell? ⟨ga, s * 2, none⟩ = some (.string A[s].k) ∧ W.cell? ⟨ga, s * 2 + 1, none⟩ = some (.slice A[s].a A[s].s.length A[s].c) ∧ W.cell? ⟨ga, t * 2, none⟩ = some (.string A[t].k) ∧ W.cell? ⟨ga, t * 2 + 1, none⟩ = some (.slice A[t].a A[t].s.length A[t].c)) ∧ cH A[s] A[t] ≤ 0 ∧ (∀ W, Kp [] wr W → Calls Try.prog 12 #[.agg #[.string A[s].k, .slice A[s].a A[s].s.length A[s].c], .agg #[.string A[t].k, .slice A[t].a A[t].s.length A[t].c]] W fun e w' => e = .returned (.tuple #[.int .i64 (cH A[s] A[t]), .int .i64 0]) ∧ Kp [] W w')) := hide (fun s hs => by
                  subst hs
                  have hs' : s < A.length := by omega
                  obtain ⟨p0, p1⟩ := ca s hs'
                  exact ⟨hs', fun W hW => ⟨hW.cell p0 (by simp), hW.cell p1 (by simp), hW.cell a0 (by simp), hW.cell a1 (by simp)⟩, srtH_next A (unhide HSR) s htl, fun W hW => compareH (((unhide RA).ok A[s] (List.getElem_mem _)).kp (kw.trans hW (by simp))) (((unhide RA).ok A[s + 1] (List.getElem_mem _)).kp (kw.trans hW (by simp)))⟩)
                clear ca cb kw kp HZ HSR RA RB KW
                generalize B[t] = y at *
                generalize A[t] = x at *
                have cS : wr.drew.cell? ⟨ga, t * 2, none⟩ = some (.string x.k) ∧ wr.drew.cell? ⟨ga, t * 2 + 1, none⟩ = some (.slice x.a x.s.length x.c) ∧ wr.drew.cell? ⟨gb, t * 2, none⟩ = some (.string y.k) ∧ wr.drew.cell? ⟨gb, t * 2 + 1, none⟩ = some (.slice y.a y.s.length y.c) := ⟨a0, a1, b0, b1⟩
                clear a0 a1 b0 b1
                go_wp2
                go_region_held3 (fun W => W.cell? ⟨ga, t * 2, none⟩ = some (.string x.k) ∧ W.cell? ⟨ga, t * 2 + 1, none⟩ = some (.slice x.a x.s.length x.c) ∧ W.cell? ⟨gb, t * 2, none⟩ = some (.string y.k) ∧ W.cell? ⟨gb, t * 2 + 1, none⟩ = some (.slice y.a y.s.length y.c))
                  (first | with_reducible exact cS2 | with_reducible exact cS)
                  (first
                    | (go_at_call 12; refine (unhide CA _ (Kp.drew _)).mono ?_; rintro r w7 ⟨rfl, k7⟩; have cS2 : w7.cell? ⟨ga, t * 2, none⟩ = some (.string x.k) ∧ w7.cell? ⟨ga, t * 2 + 1, none⟩ = some (.slice x.a x.s.length x.c) ∧ w7.cell? ⟨gb, t * 2, none⟩ = some (.string y.k) ∧ w7.cell? ⟨gb, t * 2 + 1, none⟩ = some (.slice y.a y.s.length y.c) := ⟨k7.cell cS.1 (by simp), k7.cell cS.2.1 (by simp), k7.cell cS.2.2.1 (by simp), k7.cell cS.2.2.2 (by simp)⟩))
                have K7 := hide ((Kp.drew wr).trans k7 (by simp))
                clear cS cS2 CA k7
                by_cases h0 : t = 0
                · subst h0
                  clear PREV
                  go_wp2
                  go_roundw
                  case rel => exact ⟨0 + 1, by omega, by go_num, (unhide KP).trans (unhide K7) (by simp)⟩
                  case measure => simp [intOf]; omega
                · obtain ⟨s, hst⟩ : ∃ s, t = s + 1 := ⟨t - 1, by omega⟩
                  obtain ⟨hs, pc, ple, pcm⟩ := unhide PREV s hst
                  have cT : w7.drew.cell? ⟨ga, s * 2, none⟩ = some (.string A[s].k) ∧ w7.drew.cell? ⟨ga, s * 2 + 1, none⟩ = some (.slice A[s].a A[s].s.length A[s].c) ∧ w7.drew.cell? ⟨ga, t * 2, none⟩ = some (.string x.k) ∧ w7.drew.cell? ⟨ga, t * 2 + 1, none⟩ = some (.slice x.a x.s.length x.c) := pc w7.drew ((unhide K7).trans (Kp.drew _) (by simp))
                  have PC := hide (pcm w7.drew ((unhide K7).trans (Kp.drew _) (by simp)))
                  have hsi : (s : Int) < (A.length : Int) := by omega
                  have hs1 : (t : Int) - 1 = (s : Int) := by omega
                  have hs3 : IntKind.i64.wrap (s : Int) = (s : Int) := by rw [IntKind.wrap_i64]; omega
                  have hs2 : 0 < (t : Int) := by omega
                  clear pc pcm PREV hst h0
                  generalize A[s] = z at *
                  generalize cH z x = c at *
                  have hc0 : ¬ 0 < c := by omega
                  go_wp2
                  go_region_held3 (fun W => W.cell? ⟨ga, s * 2, none⟩ = some (.string z.k) ∧ W.cell? ⟨ga, s * 2 + 1, none⟩ = some (.slice z.a z.s.length z.c) ∧ W.cell? ⟨ga, t * 2, none⟩ = some (.string x.k) ∧ W.cell? ⟨ga, t * 2 + 1, none⟩ = some (.slice x.a x.s.length x.c))
                    (first | with_reducible exact cT2 | with_reducible exact cT)
                    (first
                      | (go_at_call 12; refine (unhide PC).mono ?_; rintro r w8 ⟨rfl, k8⟩; have cT2 : w8.cell? ⟨ga, s * 2, none⟩ = some (.string z.k) ∧ w8.cell? ⟨ga, s * 2 + 1, none⟩ = some (.slice z.a z.s.length z.c) ∧ w8.cell? ⟨ga, t * 2, none⟩ = some (.string x.k) ∧ w8.cell? ⟨ga, t * 2 + 1, none⟩ = some (.slice x.a x.s.length x.c) := ⟨k8.cell cT.1 (by simp), k8.cell cT.2.1 (by simp), k8.cell cT.2.2.1 (by simp), k8.cell cT.2.2.2 (by simp)⟩))
                  have K8 := hide (((unhide K7).trans (Kp.drew w7) (by simp)).trans k8 (by simp))
                  clear cT cT2 PC k8
                  go_wp2
                  go_roundw
                  case rel => exact ⟨t + 1, by omega, by go_num, (unhide KP).trans (unhide K8) (by simp)⟩
                  case measure => simp [intOf]; omega
              · have hk' := (unhide KW).trans kp (by simp)
                clear RA RB HZ HSR
                go_wp2
                go_ret
                exact ⟨rfl, hk'.below (Nat.le_refl _) (by simp)⟩
    · have hli : ¬ ((k : Int) < (l.length : Int)) := by omega
      have hL20 : L.length ≤ 20 := by omega
      have HK := hide kp
      clear CK HOK HA kp hk1
      skip
      go_wp2
      skip
      generalize wr = wA at *
      go_loopw [6, 7, 41] (fun a b i wr' => ∃ (j : Nat) (aa ba : Option Addr) (ac bc : Nat) (A B : List Hd), j ≤ L.length ∧ i = .int .i64 (j : Int) ∧ a = .slice aa A.length ac ∧ b = .slice ba B.length bc ∧ Hid (A = allH (L.take j)) ∧ Hid (B = allH (L.reverse.take j)) ∧ A.length ≤ 20 ∧ B.length ≤ 20 ∧ Hid (HIn w wr' aa ac A) ∧ Hid (HIn w wr' ba bc B) ∧ Kp [] wA wr') (fun _ _ i _ => L.length - (intOf i).toNat)
      case atStart => exact ⟨0, none, none, 0, 0, [], [], Nat.zero_le _, rfl, rfl, rfl, hide rfl, hide rfl, by simp, by simp, hide (HIn.nil' _ _), hide (HIn.nil' _ _), Kp.refl _ _⟩
      case round =>
        obtain ⟨j, aa, ba, ac, bc, A, B, hj, rfl, rfl, rfl, EA, EB, hA20, hB20, RA, RB, kp⟩ := hrel
        by_cases hjl : j < L.length
        · obtain ⟨g, rfl, hg, hc⟩ := ((unhide HI).kp kp).at (by omega)
          obtain ⟨c0, c1⟩ := hc j hjl
          obtain ⟨q, hq⟩ : ∃ q, L.length = q + j + 1 := ⟨L.length - j - 1, by omega⟩
          have hql : q < L.length := by omega
          obtain ⟨f0, f1⟩ := hc q hql
          have hji : (j : Int) < (L.length : Int) := by omega
          have hqi : (q : Int) < (L.length : Int) := by omega
          have hqe : (L.length : Int) - 1 - (j : Int) = (q : Int) := by omega
          have kw := (unhide HK).trans kp (by simp)
          have PA := hide ((unhide RA).put kw hA20 L[j] ((unhide HI).ok _ (List.getElem_mem _)))
          have PB := hide (fun w5 (h5 : Kp [] wr w5) => ((unhide RB).kp h5).put (kw.trans h5 (by simp)) hB20 L[q] ((unhide HI).ok _ (List.getElem_mem _)))
          have NA : Hid (insH L[j] A = allH (L.take (j + 1))) := hide (by rw [allH_take L j hjl, unhide EA])
          have NB : Hid (insH L[q] B = allH (L.reverse.take (j + 1))) := hide (by
            have hjr : j < L.reverse.length := by simpa using hjl
            have e : L.reverse[j] = L[q] := by
              rw [List.getElem_reverse]
              congr 1
              omega
            rw [allH_take L.reverse j hjr, unhide EB, e])
          have F := hide (fun w5 (h5 : Kp [] wr w5) => (⟨h5.cell f0 (by simp), h5.cell f1 (by simp)⟩ : _ ∧ _))
          have KP := hide kp
          clear hc f0 f1 EA EB RA RB kw kp hq
          generalize L[j] = x at *
          generalize L[q] = y at *
          have hlA := insH_len x A
          have hlB := insH_len y B
          have HLA : Hid ((insH x A).length ≤ 20) := hide (by rw [unhide NA, allH_len, List.length_take]; omega)
          have HLB : Hid ((insH y B).length ≤ 20) := hide (by rw [unhide NB, allH_len, List.length_take]; omega)
          clear hlA hlB
          generalize insH x A = A2 at *
          generalize insH y B = B2 at *
          go_wp2_with fail
          refine (unhide PA).mono ?_
          rintro r w5 ⟨a2, c2, rfl, h2, k5⟩
          obtain ⟨g0, g1⟩ := unhide F w5 k5
          have QB := hide (unhide PB w5 k5)
          have H2 := hide h2
          have K5 := hide k5
          clear h2 k5 F PB PA c0 c1
          go_wp2_with fail
          refine (unhide QB).mono ?_
          rintro r w6 ⟨b2, d2, rfl, h3, k6⟩
          have H3 := hide h3
          have H2 := hide ((unhide H2).kp k6)
          have K6 := hide (((unhide KP).trans (unhide K5) (by simp)).trans k6 (by simp))
          clear h3 k6 QB K5 KP g0 g1
          go_wp2
          go_roundw
          case rel => exact ⟨j + 1, a2, b2, c2, d2, A2, B2, by omega, by go_num, rfl, rfl, NA, NB, unhide HLA, unhide HLB, H2, H3, unhide K6⟩
          case measure => simp [intOf]; omega
        · obtain rfl : j = L.length := by omega
          have ea : A = allH L := by have := unhide EA; rwa [List.take_of_length_le (Nat.le_refl _)] at this
          have eb : B = allH L.reverse := by have := unhide EB; rwa [List.take_of_length_le (by simp)] at this
          have hAB : A.length = B.length := by rw [ea, eb, allH_len, allH_len]; simp
          have HZ : Hid (∀ t (h1 : t < A.length) (h2 : t < B.length), cH A[t] B[t] = 0) := hide (by subst ea eb; exact allH_zero L)
          have HSR : Hid (SrtH A) := hide (by rw [ea]; exact (allH_both L).1)
          have HAB := hide hAB
          have KW := hide ((unhide HK).trans kp (by simp))
          clear ea eb hAB EA EB HI HK kp
          go_wp2
          generalize wr = wB at *
          go_loopw [65] (fun i wr' => ∃ t : Nat, t ≤ A.length ∧ i = .int .i64 (t : Int) ∧ Kp [] wB wr') (fun i _ => A.length - (intOf i).toNat)
          case atStart => exact ⟨0, Nat.zero_le _, rfl, Kp.refl _ _⟩
          case round =>
            obtain ⟨t, ht, rfl, kp⟩ := hrel
            by_cases htl : t < A.length
            · have htb : t < B.length := by have := unhide HAB; omega
              obtain ⟨ga, rfl, _, ca⟩ := ((unhide RA).kp kp).at (by omega)
              obtain ⟨gb, rfl, _, cb⟩ := ((unhide RB).kp kp).at (by omega)
              obtain ⟨a0, a1⟩ := ca t htl
              obtain ⟨b0, b1⟩ := cb t htb
              have hti : (t : Int) < (A.length : Int) := by omega
              have htj : (t : Int) < (B.length : Int) := by omega
              have kw := (unhide KW).trans kp (by simp)
              have CA := hide (fun W (hW : Kp [] wr W) => compareH (((unhide RA).ok A[t] (List.getElem_mem _)).kp (kw.trans hW (by simp))) (((unhide RB).ok B[t] (List.getElem_mem _)).kp (kw.trans hW (by simp))))
              rw [unhide HZ t htl htb] at CA
              have KP := hide kp
              have KWW := hide kw
              have PREV : Hid (∀ s, t = s + 1 → ∃ (hs : s < A.length), (∀ W, Kp [] wr W → W.cell? ⟨ga, s * 2, none⟩ = some (.string A[s].k) ∧ W.cell? ⟨ga, s * 2 + 1, none⟩ = some (.slice A[s].a A[s].s.length A[s].c) ∧ W.cell? ⟨ga, t * 2, none⟩ = some (.string A[t].k) ∧ W.cell? ⟨ga, t * 2 + 1, none⟩ = some (.slice A[t].a A[t].s.length A[t].c)) ∧ cH A[s] A[t] ≤ 0 ∧ (∀ W, Kp [] wr W → Calls Try.prog 12 #[.agg #[.string A[s].k, .slice A[s].a A[s].s.length A[s].c], .agg #[.string A[t].k, .slice A[t].a A[t].s.length A[t].c]] W fun e w' => e = .returned (.tuple #[.int .i64 (cH A[s] A[t]), .int .i64 0]) ∧ Kp [] W w')) := hide (fun s hs => by
                subst hs
                have hs' : s < A.length := by omega
                obtain ⟨p0, p1⟩ := ca s hs'
                exact ⟨hs', fun W hW => ⟨hW.cell p0 (by simp), hW.cell p1 (by simp), hW.cell a0 (by simp), hW.cell a1 (by simp)⟩, srtH_next A (unhide HSR) s htl, fun W hW => compareH (((unhide RA).ok A[s] (List.getElem_mem _)).kp (kw.trans hW (by simp))) (((unhide RA).ok A[s + 1] (List.getElem_mem _)).kp (kw.trans hW (by simp)))⟩)
              clear ca cb kw kp HZ HSR RA RB KW
              generalize B[t] = y at *
              generalize A[t] = x at *
              have cS : wr.drew.cell? ⟨ga, t * 2, none⟩ = some (.string x.k) ∧ wr.drew.cell? ⟨ga, t * 2 + 1, none⟩ = some (.slice x.a x.s.length x.c) ∧ wr.drew.cell? ⟨gb, t * 2, none⟩ = some (.string y.k) ∧ wr.drew.cell? ⟨gb, t * 2 + 1, none⟩ = some (.slice y.a y.s.length y.c) := ⟨a0, a1, b0, b1⟩
              clear a0 a1 b0 b1
              go_wp2
              go_region_held3 (fun W => W.cell? ⟨ga, t * 2, none⟩ = some (.string x.k) ∧ W.cell? ⟨ga, t * 2 + 1, none⟩ = some (.slice x.a x.s.length x.c) ∧ W.cell? ⟨gb, t * 2, none⟩ = some (.string y.k) ∧ W.cell? ⟨gb, t * 2 + 1, none⟩ = some (.slice y.a y.s.length y.c))
                (first | with_reducible exact cS2 | with_reducible exact cS)
                (first
                  | (go_at_call 12; refine (unhide CA _ (Kp.drew _)).mono ?_; rintro r w7 ⟨rfl, k7⟩; have cS2 : w7.cell? ⟨ga, t * 2, none⟩ = some (.string x.k) ∧ w7.cell? ⟨ga, t * 2 + 1, none⟩ = some (.slice x.a x.s.length x.c) ∧ w7.cell? ⟨gb, t * 2, none⟩ = some (.string y.k) ∧ w7.cell? ⟨gb, t * 2 + 1, none⟩ = some (.slice y.a y.s.length y.c) := ⟨k7.cell cS.1 (by simp), k7.cell cS.2.1 (by simp), k7.cell cS.2.2.1 (by simp), k7.cell cS.2.2.2 (by simp)⟩))
              have K7 := hide ((Kp.drew wr).trans k7 (by simp))
              clear cS cS2 CA k7
              by_cases h0 : t = 0
              · subst h0
                clear PREV
                go_wp2
                go_roundw
                case rel => exact ⟨0 + 1, by omega, by go_num, (unhide KP).trans (unhide K7) (by simp)⟩
                case measure => simp [intOf]; omega
              · obtain ⟨s, hst⟩ : ∃ s, t = s + 1 := ⟨t - 1, by omega⟩
                obtain ⟨hs, pc, ple, pcm⟩ := unhide PREV s hst
                have cT : w7.drew.cell? ⟨ga, s * 2, none⟩ = some (.string A[s].k) ∧ w7.drew.cell? ⟨ga, s * 2 + 1, none⟩ = some (.slice A[s].a A[s].s.length A[s].c) ∧ w7.drew.cell? ⟨ga, t * 2, none⟩ = some (.string x.k) ∧ w7.drew.cell? ⟨ga, t * 2 + 1, none⟩ = some (.slice x.a x.s.length x.c) := pc w7.drew ((unhide K7).trans (Kp.drew _) (by simp))
                have PC := hide (pcm w7.drew ((unhide K7).trans (Kp.drew _) (by simp)))
                have hsi : (s : Int) < (A.length : Int) := by omega
                have hs1 : (t : Int) - 1 = (s : Int) := by omega
                have hs3 : IntKind.i64.wrap (s : Int) = (s : Int) := by rw [IntKind.wrap_i64]; omega
                have hs2 : 0 < (t : Int) := by omega
                clear pc pcm PREV hst h0
                generalize A[s] = z at *
                generalize cH z x = c at *
                have hc0 : ¬ 0 < c := by omega
                go_wp2
                go_region_held3 (fun W => W.cell? ⟨ga, s * 2, none⟩ = some (.string z.k) ∧ W.cell? ⟨ga, s * 2 + 1, none⟩ = some (.slice z.a z.s.length z.c) ∧ W.cell? ⟨ga, t * 2, none⟩ = some (.string x.k) ∧ W.cell? ⟨ga, t * 2 + 1, none⟩ = some (.slice x.a x.s.length x.c))
                  (first | with_reducible exact cT2 | with_reducible exact cT)
                  (first
                    | (go_at_call 12; refine (unhide PC).mono ?_; rintro r w8 ⟨rfl, k8⟩; have cT2 : w8.cell? ⟨ga, s * 2, none⟩ = some (.string z.k) ∧ w8.cell? ⟨ga, s * 2 + 1, none⟩ = some (.slice z.a z.s.length z.c) ∧ w8.cell? ⟨ga, t * 2, none⟩ = some (.string x.k) ∧ w8.cell? ⟨ga, t * 2 + 1, none⟩ = some (.slice x.a x.s.length x.c) := ⟨k8.cell cT.1 (by simp), k8.cell cT.2.1 (by simp), k8.cell cT.2.2.1 (by simp), k8.cell cT.2.2.2 (by simp)⟩))
                have K8 := hide (((unhide K7).trans (Kp.drew w7) (by simp)).trans k8 (by simp))
                clear cT cT2 PC k8
                go_wp2
                go_roundw
                case rel => exact ⟨t + 1, by omega, by go_num, (unhide KP).trans (unhide K8) (by simp)⟩
                case measure => simp [intOf]; omega
            · have hk' := (unhide KW).trans kp (by simp)
              clear RA RB HZ HSR
              go_wp2
              go_ret
              exact ⟨rfl, hk'.below (Nat.le_refl _) (by simp)⟩
end Go.Proofs.Ytnikkjbjidhhlaa
