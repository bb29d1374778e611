/-
  EventBack: whatever the event, the match and the bytes, the law returns true; nothing that was there has changed.
-/
import Derived.Test.YtijckimjcogfjaaEvP
namespace Go.Proofs.Ytijckimjcogfjaa
open Go.RowKit

theorem it_of_dec {b : ByteArray} {l : List It} (h : decS b.data.toList = (l, 0, 0)) : itC b = 0 ∧ itL b = l := by
  have hn : ¬ 262144 < b.size := fun hb => by
    have e3 : b.data.toList.length = b.size := Array.length_toList
    unfold decS at h
    rw [if_pos (by omega)] at h
    simp at h
  have hc : itC b = 0 := by unfold itC; rw [if_neg hn, h]; rfl
  exact ⟨hc, by unfold itL; rw [if_pos hc, h]⟩
theorem Ev.l_back (e : Ev) (h : e.may = true) (hok : e.ok) : itC e.s = 0 ∧ itL e.s = e.l := by
  obtain ⟨h0, hs⟩ := e.l_enc h hok
  have := dec_enc e.l h0 (e.l_ok hok)
  rw [hs] at this
  exact it_of_dec this
theorem evOf_l (e : Ev) : evOf e.l = e := rfl
theorem Ev.back (e : Ev) (h : e.may = true) (hok : e.ok) : dC e.s = 0 ∧ dV e.s = e ∧ dmC e.s = 20 := by
  obtain ⟨hc, hl⟩ := e.l_back h hok
  have hC : dC e.s = 0 := by unfold dC; rw [hl, evOf_l, if_neg (by simp [hc]), if_pos h]
  refine ⟨hC, ?_, ?_⟩
  · unfold dV; rw [if_pos hC, hl, evOf_l]
  · unfold dmC
    rw [if_neg (by simp [hc]), hl]
    have : mtOf e.l = none := by
      unfold Ev.l
      rw [mtOf, if_neg]
      rintro ⟨_, h2⟩
      cases h2
    rw [this]
theorem mt_back {k : ByteArray} {ss : List (List Int)} (h : mayM k ss = true) : itC (mtS k ss) = 0 ∧ itL (mtS k ss) = mtL k ss ∧ dmC (mtS k ss) = 0 := by
  obtain ⟨h0, hs⟩ := mtL_enc h
  have := dec_enc (mtL k ss) h0 (fun y hy => (mtL_ok h y hy).1)
  rw [hs] at this
  obtain ⟨hc, hl⟩ := it_of_dec this
  refine ⟨hc, hl, ?_⟩
  unfold dmC
  rw [if_neg (by simp [hc]), hl, mtOf_mtL h]
  exact if_pos h
theorem ev_bytes (b : ByteArray) (h : dC b = 0) : (dV b).s = b ∧ (dV b).chk = 0 ∧ (dV b).may = true := by
  have hV : dV b = evOf (itL b) := if_pos h
  have hc : itC b = 0 := by
    unfold dC at h
    by_cases hc : itC b = 0
    · exact hc
    · rw [if_pos hc] at h; exact absurd h hc
  have hm : (evOf (itL b)).may = true := by
    unfold dC at h
    rw [if_neg (by simp [hc])] at h
    by_cases hm : (evOf (itL b)).may = true
    · exact hm
    · rw [if_neg hm] at h; cases h
  obtain ⟨hmay, hlist⟩ := itL_may b hc
  rw [hV]
  have hk : (itL b).map It.t = kinds := by
    by_cases hk : (itL b).map It.t = kinds
    · exact hk
    · have : evOf (itL b) = Ev.zero := if_neg hk
      rw [this] at hm
      exact absurd hm (by decide +kernel)
  have hl : (evOf (itL b)).l = itL b := by
    have h7 : (itL b).length = 7 := by have := congrArg List.length hk; simpa [kinds] using this
    generalize itL b = L at *
    match L, h7 with
    | [z0, z1, z2, z3, z4, z5, z6], _ =>
      simp only [List.map_cons, List.map_nil, kinds, List.cons.injEq, and_true] at hk
      obtain ⟨t0, t1, t2, t3, t4, t5, t6⟩ := hk
      have e : evOf [z0, z1, z2, z3, z4, z5, z6] = ⟨z0.s, z1.s, z2.n, z3.n, z4.n, z5.n, z6.s⟩ := if_pos (by simp only [List.map_cons, List.map_nil, kinds, t0, t1, t2, t3, t4, t5, t6])
      rw [e]
      unfold Ev.l
      dsimp only
      rw [← tx_of (hmay z0 (by simp)) t0, ← tx_of (hmay z1 (by simp)) t1, ← nu_of (hmay z2 (by simp)) t2, ← nu_of (hmay z3 (by simp)) t3, ← nu_of (hmay z4 (by simp)) t4, ← nu_of (hmay z5 (by simp)) t5, ← tx_of (hmay z6 (by simp)) t6]
  refine ⟨?_, if_pos hm, hm⟩
  unfold Ev.s
  rw [if_pos hm, hl, hlist]
theorem mt_bytes {b : ByteArray} {k : ByteArray} {ss : List (List Int)} (hc : itC b = 0) (h : mtOf (itL b) = some (k, ss)) (hm : mayM k ss = true) : mtS k ss = b := by
  obtain ⟨hmay, hlist⟩ := itL_may b hc
  unfold mtS
  rw [if_pos hm, ← mtOf_inv hmay h, hlist]
/-- What stays in EventBack. -/
structure BS (w : World) (e : Ev) (k : ByteArray) (ad : Option Addr) (n cap : Nat) (W : World) : Prop where
  bel : Below w.heap.size w W
  bx : EBox w.heap.size e W
  bm : MBox (w.heap.size + 1) k ad n cap W
section
variable {w : World} {e : Ev} {k : ByteArray} {ad : Option Addr} {n cap : Nat} {W W' : World}
theorem BS.alloc (h : BS w e k ad n cap W) (o : Obj) : BS w e k ad n cap (W.alloc o) := ⟨h.bel.alloc h.bel.size o, h.bx.alloc o, h.bm.alloc o⟩
theorem BS.next (h : BS w e k ad n cap W) (hb : Below W.heap.size W W') : BS w e k ad n cap W' := ⟨h.bel.trans (hb.mono h.bel.size), h.bx.below hb h.bx.lt, h.bm.below hb h.bm.lt⟩
theorem BS.cells (h : BS w e k ad n cap W) : W.cell? ⟨w.heap.size, 0, none⟩ = some (.string e.k) ∧ W.cell? ⟨w.heap.size, 1, none⟩ = some (.string e.t) ∧ W.cell? ⟨w.heap.size, 2, none⟩ = some (.int .i64 e.n0) ∧ W.cell? ⟨w.heap.size, 3, none⟩ = some (.int .i64 e.n1) ∧ W.cell? ⟨w.heap.size, 4, none⟩ = some (.int .i64 e.n2) ∧ W.cell? ⟨w.heap.size, 5, none⟩ = some (.int .i64 e.n3) ∧ W.cell? ⟨w.heap.size, 6, none⟩ = some (.string e.x) ∧ W.cell? ⟨w.heap.size + 1, 0, none⟩ = some (.string k) ∧ W.cell? ⟨w.heap.size + 1, 1, none⟩ = some (.slice ad n cap) := by
  obtain ⟨a, b, c, d, f, g, i⟩ := h.bx.cells
  exact ⟨a, b, c, d, f, g, i, h.bm.cells.1, h.bm.cells.2⟩
end
set_option maxHeartbeats 16000000 in
set_option maxRecDepth 100000 in
theorem eventBack_walk (e : Ev) (k : ByteArray) (ad : Option Addr) (cap : Nat) (ss : List (List Int)) (b : ByteArray) (w : World) (hok : e.ok) (hmo : MtOk k ss) (hA : StagesAt w ad ss) (hb : b.size ≤ 9223372036854775807) :
    Calls Try.prog 4 #[.agg e.c, .agg #[.string k, .slice ad ss.length cap], .string b] w fun r w' => r = .returned (.bool true) ∧ Below w.heap.size w w' := by
  have S0 : BS w e k ad ss.length cap ((w.alloc (.cells e.c 24)).alloc (.cells #[.string k, .slice ad ss.length cap] 35)) := by
    refine ⟨((Below.refl _ _).alloc (Nat.le_refl _) _).alloc (by simp) _, EBox.alloc (heap_alloc_new w _) _, ?_⟩
    have := heap_alloc_new (w.alloc (.cells e.c 24)) (.cells #[.string k, .slice ad ss.length cap] 35)
    unfold MBox
    simpa using this
  have c1 := fun W => evEncode_any e W hok
  have es : e.may = true → e.s.size ≤ 9223372036854775807 := fun h => by
    have := e.l_len h hok
    have e1 : e.s = ⟨(listB e.l).toArray⟩ := if_pos h
    rw [e1]
    show (List.toArray _).size ≤ _
    rw [List.size_toArray]; omega
  have d1 : e.may = true → e.chk = 0 ∧ (∀ W, Calls Try.prog 10 #[.string e.s] W fun r w' => r = .returned (.tuple #[.agg e.c, .int .i64 0]) ∧ Below W.heap.size W w') ∧
      (∀ W, Calls Try.prog 15 #[.string e.s] W fun r w' => ∃ (k : ByteArray) (ss : List (List Int)) (a : Option Addr) (c : Nat), r = .returned (.tuple #[.agg #[.string k, .slice a ss.length c], .int .i64 20]) ∧ Below W.heap.size W w') := fun h => by
    obtain ⟨q1, q2, q3⟩ := e.back h hok
    refine ⟨if_pos h, fun W => ?_, fun W => ?_⟩
    · have := evDecode_any e.s W (es h)
      rw [q1, q2] at this
      exact this
    · refine (decodeMatch_any e.s W (es h)).mono ?_
      rintro r w' ⟨k, ss, a, c, h1, _, _, _, h5⟩
      rw [q3] at h1
      exact ⟨k, ss, a, c, h1, h5⟩
  have c2 := fun W (hW : Below w.heap.size w W) => encodeMatch_any k ad cap ss W hmo (hA.below hW (Nat.le_refl _))
  have ms : mayM k ss = true → (mtS k ss).size ≤ 9223372036854775807 := fun h => by
    have h1 := listB_le (mtL k ss) (fun y hy => (mtL_ok h y hy).2.2)
    have h2 := (mtL_len h).1
    have e1 : mtS k ss = ⟨(listB (mtL k ss)).toArray⟩ := if_pos h
    rw [e1]
    show (List.toArray _).size ≤ _
    rw [List.size_toArray]; omega
  have d2 : mayM k ss = true → chkM k ss = 0 ∧ (∀ W, Calls Try.prog 15 #[.string (mtS k ss)] W fun r w' => ∃ a c, r = .returned (.tuple #[.agg #[.string k, .slice a ss.length c], .int .i64 0]) ∧ StagesAt w' a ss ∧ Below W.heap.size W w') := fun h => by
    obtain ⟨q1, q2, q3⟩ := mt_back h
    refine ⟨if_pos h, fun W => (decodeMatch_any (mtS k ss) W (ms h)).mono ?_⟩
    rintro r w' ⟨k', ss', a, c, h1, h2, _, h4, h5⟩
    rw [q3] at h1
    have h6 := (h4 q3).2.1
    rw [q2, mtOf_mtL h] at h6
    simp only [Option.some.injEq, Prod.mk.injEq] at h6
    obtain ⟨rfl, rfl⟩ := h6
    exact ⟨a, c, h1, h2, h5⟩
  have sm := fun a c W (h1 : StagesAt W a ss) (hW : Below w.heap.size w W) => sameMatch_any k a c ss k ad cap ss W hmo hmo h1 (hA.below hW (Nat.le_refl _))
  simp only [and_self, decide_true] at sm
  have c3 := fun W => evDecode_any b W hb
  have e3 : dC b = 0 → ∀ W, Calls Try.prog 8 #[.agg (dV b).c] W fun r w' => r = .returned (.tuple #[.string b, .int .i64 0]) ∧ Below W.heap.size W w' := fun h W => by
    obtain ⟨q1, q2, _⟩ := ev_bytes b h
    have := evEncode_any (dV b) W (dV_ok b)
    rw [q1, q2] at this
    exact this
  have c4 := fun W => decodeMatch_any b W hb
  have e4' : ∀ k8 s8 a8 c8 W, MtOk k8 s8 → StagesAt W a8 s8 → (itC b = 0 ∧ mtOf (itL b) = some (k8, s8) ∧ mayM k8 s8 = true) → Calls Try.prog 16 #[.agg #[.string k8, .slice a8 s8.length c8]] W fun r w' => r = .returned (.tuple #[.string b, .int .i64 0]) ∧ Below W.heap.size W w' := fun k8 s8 a8 c8 W h1 h2 h3 => by
    have := encodeMatch_any k8 a8 c8 s8 W h1 h2
    rw [mt_bytes h3.1 h3.2.1 h3.2.2, show chkM k8 s8 = 0 from if_pos h3.2.2] at this
    exact this
  generalize itC b = ic at *
  generalize itL b = iL at *
  generalize dC b = CB at *
  generalize dmC b = MB at *
  generalize dV b = V at *
  have C1 := hide c1
  have D1 := hide d1
  have C2 := hide c2
  have D2 := hide d2
  have SM := hide sm
  have C3 := hide c3
  have E3 := hide e3
  have C4 := hide c4
  have E4 := hide e4'
  clear c1 d1 c2 d2 sm c3 e3 c4 e4' es ms hA hok hmo
  obtain ⟨x1, x2, n0, n1, n2, n3, x3⟩ := e
  obtain ⟨y1, y2, p0, p1, p2, p3, y3⟩ := V
  unfold Ev.c at *
  dsimp only at *
  have e4 : ∀ w, (Op.equalIn 9999 22 (.agg #[.int .i64 n0, .int .i64 n1, .int .i64 n2, .int .i64 n3]) (.agg #[.int .i64 n0, .int .i64 n1, .int .i64 n2, .int .i64 n3])).run Try.prog w = .ok true w := fun w => by
    have := eq4 9997 n0 n1 n2 n3 n0 n1 n2 n3 w
    simpa using this
  go_enter Try.func4, Try.ntmps4
  go_wp2_with fail
  generalize (w.alloc (.cells #[.string x1, .string x2, .int .i64 n0, .int .i64 n1, .int .i64 n2, .int .i64 n3, .string x3] 24)).alloc (.cells #[.string k, .slice ad ss.length cap] 35) = W0 at *
  refine (evWorks_any W0).mono ?_
  rintro r w0 ⟨rfl, hb0⟩
  have S00 := S0.next hb0
  have f00 := S00.cells
  dsimp only at f00
  clear S0 hb0
  go_wp2_with fail
  refine (unhide C1 w0).mono ?_
  rintro r w0b ⟨rfl, hb0b⟩
  have S := S00.next hb0b
  clear S00 f00 hb0b
  by_cases hm : Ev.may ⟨x1, x2, n0, n1, n2, n3, x3⟩ = true
  · obtain ⟨q1, q2, q3⟩ := unhide D1 hm
    rw [q1]
    have DA := hide q2
    have DB := hide q3
    clear q1 q2 q3 hm
    go_wp2_with fail
    refine (unhide DA _).mono ?_
    rintro r w1 ⟨rfl, hb1⟩
    have T := (S.next hb1).alloc (.cells #[.string x1, .string x2, .int .i64 n0, .int .i64 n1, .int .i64 n2, .int .i64 n3, .string x3] 24)
    have b1 : EBox w1.heap.size ⟨x1, x2, n0, n1, n2, n3, x3⟩ (w1.alloc (.cells #[.string x1, .string x2, .int .i64 n0, .int .i64 n1, .int .i64 n2, .int .i64 n3, .string x3] 24)) := heap_alloc_new w1 _
    have f1 := b1.cells
    have ft := T.cells
    dsimp only at f1
    clear S hb1 b1
    go_wp2_with fail
    generalize w1.alloc (.cells #[.string x1, .string x2, .int .i64 n0, .int .i64 n1, .int .i64 n2, .int .i64 n3, .string x3] 24) = W1 at *
    refine (unhide DB _).mono ?_
    rintro r w2 ⟨kz, sz, az, cz, rfl, hb2⟩
    have S := (T.next hb2).alloc (.cells #[.string kz, .slice az sz.length cz] 35)
    clear T hb2 f1 ft DA DB
    have f := S.cells
    go_wp2_with fail
    generalize w2.alloc (.cells #[.string kz, .slice az sz.length cz] 35) = W2 at *
    refine (unhide C2 _ S.bel).mono ?_
    rintro r w3 ⟨rfl, hb3⟩
    have T := S.next hb3
    clear S f hb3
    by_cases hmm : mayM k ss = true
    · obtain ⟨q1, q2⟩ := unhide D2 hmm
      rw [q1]
      have DD := hide q2
      clear q1 q2 hmm
      go_wp2_with fail
      refine (unhide DD _).mono ?_
      rintro r w4 ⟨a4, c4, rfl, hst4, hb4⟩
      have U := (T.next hb4).alloc (.cells #[.string k, .slice a4 ss.length c4] 35)
      have b4 : MBox w4.heap.size k a4 ss.length c4 (w4.alloc (.cells #[.string k, .slice a4 ss.length c4] 35)) := heap_alloc_new w4 _
      have hst5 := hst4.below (below_new w4 (.cells #[.string k, .slice a4 ss.length c4] 35)) (Nat.le_refl _)
      have f4 := b4.cells
      have fu := U.cells
      have sm := unhide SM a4 c4 _ hst5 U.bel
      have SM2 := hide sm
      clear T hb4 hst4 hst5 sm b4
      go_wp2_with fail
      generalize w4.alloc (.cells #[.string k, .slice a4 ss.length c4] 35) = W4 at *
      refine (unhide SM2).mono ?_
      rintro r w4b ⟨rfl, hb4b⟩
      have S := U.next hb4b
      clear U hb4b f4 fu SM2 DD
      go_wp2_with fail
      refine (unhide C3 _).mono ?_
      rintro r w5 ⟨rfl, hb5⟩
      have T := (S.next hb5).alloc (.cells #[.string y1, .string y2, .int .i64 p0, .int .i64 p1, .int .i64 p2, .int .i64 p3, .string y3] 24)
      have b5 : EBox w5.heap.size ⟨y1, y2, p0, p1, p2, p3, y3⟩ (w5.alloc (.cells #[.string y1, .string y2, .int .i64 p0, .int .i64 p1, .int .i64 p2, .int .i64 p3, .string y3] 24)) := heap_alloc_new w5 _
      clear S hb5
      by_cases hcb : CB = 0
      · subst hcb
        have en := fun W => unhide E3 rfl W
        have EN := hide en
        have f5 := b5.cells
        dsimp only at f5
        clear en
        go_wp2_with fail
        generalize w5.alloc (.cells #[.string y1, .string y2, .int .i64 p0, .int .i64 p1, .int .i64 p2, .int .i64 p3, .string y3] 24) = W5 at *
        refine (unhide EN _).mono ?_
        rintro r w6 ⟨rfl, hb6⟩
        have S := T.next hb6
        clear T hb6 b5 f5 EN
        go_wp2_with fail
        refine (unhide C4 _).mono ?_
        rintro r w8 ⟨k8, s8, a8, c8, rfl, hst8, ok8, himp8, hb8⟩
        have T := (S.next hb8).alloc (.cells #[.string k8, .slice a8 s8.length c8] 35)
        have hst9 := hst8.below (below_new w8 (.cells #[.string k8, .slice a8 s8.length c8] 35)) (Nat.le_refl _)
        have b9 : MBox w8.heap.size k8 a8 s8.length c8 (w8.alloc (.cells #[.string k8, .slice a8 s8.length c8] 35)) := heap_alloc_new w8 _
        have em := fun h => unhide E4 k8 s8 a8 c8 _ ok8 hst9 (himp8 h)
        have EM := hide em
        clear S hb8 hst8 em himp8 ok8 hst9
        by_cases hmb : MB = 0
        · subst hmb
          have em := unhide EM rfl
          have EM2 := hide em
          have f9 := b9.cells
          clear em EM
          go_wp2_with fail
          generalize w8.alloc (.cells #[.string k8, .slice a8 s8.length c8] 35) = W9 at *
          refine (unhide EM2).mono ?_
          rintro r w10 ⟨rfl, hb10⟩
          have U := T.next hb10
          clear T hb10
          go_wp2
          go_ret
          exact ⟨rfl, U.bel⟩
        · have gmb : (MB == 0) = false := beq_eq_false_iff_ne.2 hmb
          clear hmb EM b9
          go_wp2
          go_ret
          exact ⟨rfl, T.bel⟩
      · have gcb : (CB == 0) = false := beq_eq_false_iff_ne.2 hcb
        have S := T
        clear T b5 hcb
        go_wp2_with fail
        refine (unhide C4 _).mono ?_
        rintro r w8 ⟨k8, s8, a8, c8, rfl, hst8, ok8, himp8, hb8⟩
        have T := (S.next hb8).alloc (.cells #[.string k8, .slice a8 s8.length c8] 35)
        have hst9 := hst8.below (below_new w8 (.cells #[.string k8, .slice a8 s8.length c8] 35)) (Nat.le_refl _)
        have b9 : MBox w8.heap.size k8 a8 s8.length c8 (w8.alloc (.cells #[.string k8, .slice a8 s8.length c8] 35)) := heap_alloc_new w8 _
        have em := fun h => unhide E4 k8 s8 a8 c8 _ ok8 hst9 (himp8 h)
        have EM := hide em
        clear S hb8 hst8 em himp8 ok8 hst9
        by_cases hmb : MB = 0
        · subst hmb
          have em := unhide EM rfl
          have EM2 := hide em
          have f9 := b9.cells
          clear em EM
          go_wp2_with fail
          generalize w8.alloc (.cells #[.string k8, .slice a8 s8.length c8] 35) = W9 at *
          refine (unhide EM2).mono ?_
          rintro r w10 ⟨rfl, hb10⟩
          have U := T.next hb10
          clear T hb10
          go_wp2
          go_ret
          exact ⟨rfl, U.bel⟩
        · have gmb : (MB == 0) = false := beq_eq_false_iff_ne.2 hmb
          clear hmb EM b9
          go_wp2
          go_ret
          exact ⟨rfl, T.bel⟩
    · have hcm : chkM k ss = 20 := if_neg hmm
      rw [hcm]
      have S := T
      clear T hcm hmm
      go_wp2_with fail
      refine (unhide C3 _).mono ?_
      rintro r w5 ⟨rfl, hb5⟩
      have T := (S.next hb5).alloc (.cells #[.string y1, .string y2, .int .i64 p0, .int .i64 p1, .int .i64 p2, .int .i64 p3, .string y3] 24)
      have b5 : EBox w5.heap.size ⟨y1, y2, p0, p1, p2, p3, y3⟩ (w5.alloc (.cells #[.string y1, .string y2, .int .i64 p0, .int .i64 p1, .int .i64 p2, .int .i64 p3, .string y3] 24)) := heap_alloc_new w5 _
      clear S hb5
      by_cases hcb : CB = 0
      · subst hcb
        have en := fun W => unhide E3 rfl W
        have EN := hide en
        have f5 := b5.cells
        dsimp only at f5
        clear en
        go_wp2_with fail
        generalize w5.alloc (.cells #[.string y1, .string y2, .int .i64 p0, .int .i64 p1, .int .i64 p2, .int .i64 p3, .string y3] 24) = W5 at *
        refine (unhide EN _).mono ?_
        rintro r w6 ⟨rfl, hb6⟩
        have S := T.next hb6
        clear T hb6 b5 f5 EN
        go_wp2_with fail
        refine (unhide C4 _).mono ?_
        rintro r w8 ⟨k8, s8, a8, c8, rfl, hst8, ok8, himp8, hb8⟩
        have T := (S.next hb8).alloc (.cells #[.string k8, .slice a8 s8.length c8] 35)
        have hst9 := hst8.below (below_new w8 (.cells #[.string k8, .slice a8 s8.length c8] 35)) (Nat.le_refl _)
        have b9 : MBox w8.heap.size k8 a8 s8.length c8 (w8.alloc (.cells #[.string k8, .slice a8 s8.length c8] 35)) := heap_alloc_new w8 _
        have em := fun h => unhide E4 k8 s8 a8 c8 _ ok8 hst9 (himp8 h)
        have EM := hide em
        clear S hb8 hst8 em himp8 ok8 hst9
        by_cases hmb : MB = 0
        · subst hmb
          have em := unhide EM rfl
          have EM2 := hide em
          have f9 := b9.cells
          clear em EM
          go_wp2_with fail
          generalize w8.alloc (.cells #[.string k8, .slice a8 s8.length c8] 35) = W9 at *
          refine (unhide EM2).mono ?_
          rintro r w10 ⟨rfl, hb10⟩
          have U := T.next hb10
          clear T hb10
          go_wp2
          go_ret
          exact ⟨rfl, U.bel⟩
        · have gmb : (MB == 0) = false := beq_eq_false_iff_ne.2 hmb
          clear hmb EM b9
          go_wp2
          go_ret
          exact ⟨rfl, T.bel⟩
      · have gcb : (CB == 0) = false := beq_eq_false_iff_ne.2 hcb
        have S := T
        clear T b5 hcb
        go_wp2_with fail
        refine (unhide C4 _).mono ?_
        rintro r w8 ⟨k8, s8, a8, c8, rfl, hst8, ok8, himp8, hb8⟩
        have T := (S.next hb8).alloc (.cells #[.string k8, .slice a8 s8.length c8] 35)
        have hst9 := hst8.below (below_new w8 (.cells #[.string k8, .slice a8 s8.length c8] 35)) (Nat.le_refl _)
        have b9 : MBox w8.heap.size k8 a8 s8.length c8 (w8.alloc (.cells #[.string k8, .slice a8 s8.length c8] 35)) := heap_alloc_new w8 _
        have em := fun h => unhide E4 k8 s8 a8 c8 _ ok8 hst9 (himp8 h)
        have EM := hide em
        clear S hb8 hst8 em himp8 ok8 hst9
        by_cases hmb : MB = 0
        · subst hmb
          have em := unhide EM rfl
          have EM2 := hide em
          have f9 := b9.cells
          clear em EM
          go_wp2_with fail
          generalize w8.alloc (.cells #[.string k8, .slice a8 s8.length c8] 35) = W9 at *
          refine (unhide EM2).mono ?_
          rintro r w10 ⟨rfl, hb10⟩
          have U := T.next hb10
          clear T hb10
          go_wp2
          go_ret
          exact ⟨rfl, U.bel⟩
        · have gmb : (MB == 0) = false := beq_eq_false_iff_ne.2 hmb
          clear hmb EM b9
          go_wp2
          go_ret
          exact ⟨rfl, T.bel⟩
  · have hcx : Ev.chk ⟨x1, x2, n0, n1, n2, n3, x3⟩ = 20 := if_neg hm
    rw [hcx]
    clear hcx hm
    have f := S.cells
    go_wp2_with fail
    refine (unhide C2 _ S.bel).mono ?_
    rintro r w3 ⟨rfl, hb3⟩
    have T := S.next hb3
    clear S f hb3
    by_cases hmm : mayM k ss = true
    · obtain ⟨q1, q2⟩ := unhide D2 hmm
      rw [q1]
      have DD := hide q2
      clear q1 q2 hmm
      go_wp2_with fail
      refine (unhide DD _).mono ?_
      rintro r w4 ⟨a4, c4, rfl, hst4, hb4⟩
      have U := (T.next hb4).alloc (.cells #[.string k, .slice a4 ss.length c4] 35)
      have b4 : MBox w4.heap.size k a4 ss.length c4 (w4.alloc (.cells #[.string k, .slice a4 ss.length c4] 35)) := heap_alloc_new w4 _
      have hst5 := hst4.below (below_new w4 (.cells #[.string k, .slice a4 ss.length c4] 35)) (Nat.le_refl _)
      have f4 := b4.cells
      have fu := U.cells
      have sm := unhide SM a4 c4 _ hst5 U.bel
      have SM2 := hide sm
      clear T hb4 hst4 hst5 sm b4
      go_wp2_with fail
      generalize w4.alloc (.cells #[.string k, .slice a4 ss.length c4] 35) = W4 at *
      refine (unhide SM2).mono ?_
      rintro r w4b ⟨rfl, hb4b⟩
      have S := U.next hb4b
      clear U hb4b f4 fu SM2 DD
      go_wp2_with fail
      refine (unhide C3 _).mono ?_
      rintro r w5 ⟨rfl, hb5⟩
      have T := (S.next hb5).alloc (.cells #[.string y1, .string y2, .int .i64 p0, .int .i64 p1, .int .i64 p2, .int .i64 p3, .string y3] 24)
      have b5 : EBox w5.heap.size ⟨y1, y2, p0, p1, p2, p3, y3⟩ (w5.alloc (.cells #[.string y1, .string y2, .int .i64 p0, .int .i64 p1, .int .i64 p2, .int .i64 p3, .string y3] 24)) := heap_alloc_new w5 _
      clear S hb5
      by_cases hcb : CB = 0
      · subst hcb
        have en := fun W => unhide E3 rfl W
        have EN := hide en
        have f5 := b5.cells
        dsimp only at f5
        clear en
        go_wp2_with fail
        generalize w5.alloc (.cells #[.string y1, .string y2, .int .i64 p0, .int .i64 p1, .int .i64 p2, .int .i64 p3, .string y3] 24) = W5 at *
        refine (unhide EN _).mono ?_
        rintro r w6 ⟨rfl, hb6⟩
        have S := T.next hb6
        clear T hb6 b5 f5 EN
        go_wp2_with fail
        refine (unhide C4 _).mono ?_
        rintro r w8 ⟨k8, s8, a8, c8, rfl, hst8, ok8, himp8, hb8⟩
        have T := (S.next hb8).alloc (.cells #[.string k8, .slice a8 s8.length c8] 35)
        have hst9 := hst8.below (below_new w8 (.cells #[.string k8, .slice a8 s8.length c8] 35)) (Nat.le_refl _)
        have b9 : MBox w8.heap.size k8 a8 s8.length c8 (w8.alloc (.cells #[.string k8, .slice a8 s8.length c8] 35)) := heap_alloc_new w8 _
        have em := fun h => unhide E4 k8 s8 a8 c8 _ ok8 hst9 (himp8 h)
        have EM := hide em
        clear S hb8 hst8 em himp8 ok8 hst9
        by_cases hmb : MB = 0
        · subst hmb
          have em := unhide EM rfl
          have EM2 := hide em
          have f9 := b9.cells
          clear em EM
          go_wp2_with fail
          generalize w8.alloc (.cells #[.string k8, .slice a8 s8.length c8] 35) = W9 at *
          refine (unhide EM2).mono ?_
          rintro r w10 ⟨rfl, hb10⟩
          have U := T.next hb10
          clear T hb10
          go_wp2
          go_ret
          exact ⟨rfl, U.bel⟩
        · have gmb : (MB == 0) = false := beq_eq_false_iff_ne.2 hmb
          clear hmb EM b9
          go_wp2
          go_ret
          exact ⟨rfl, T.bel⟩
      · have gcb : (CB == 0) = false := beq_eq_false_iff_ne.2 hcb
        have S := T
        clear T b5 hcb
        go_wp2_with fail
        refine (unhide C4 _).mono ?_
        rintro r w8 ⟨k8, s8, a8, c8, rfl, hst8, ok8, himp8, hb8⟩
        have T := (S.next hb8).alloc (.cells #[.string k8, .slice a8 s8.length c8] 35)
        have hst9 := hst8.below (below_new w8 (.cells #[.string k8, .slice a8 s8.length c8] 35)) (Nat.le_refl _)
        have b9 : MBox w8.heap.size k8 a8 s8.length c8 (w8.alloc (.cells #[.string k8, .slice a8 s8.length c8] 35)) := heap_alloc_new w8 _
        have em := fun h => unhide E4 k8 s8 a8 c8 _ ok8 hst9 (himp8 h)
        have EM := hide em
        clear S hb8 hst8 em himp8 ok8 hst9
        by_cases hmb : MB = 0
        · subst hmb
          have em := unhide EM rfl
          have EM2 := hide em
          have f9 := b9.cells
          clear em EM
          go_wp2_with fail
          generalize w8.alloc (.cells #[.string k8, .slice a8 s8.length c8] 35) = W9 at *
          refine (unhide EM2).mono ?_
          rintro r w10 ⟨rfl, hb10⟩
          have U := T.next hb10
          clear T hb10
          go_wp2
          go_ret
          exact ⟨rfl, U.bel⟩
        · have gmb : (MB == 0) = false := beq_eq_false_iff_ne.2 hmb
          clear hmb EM b9
          go_wp2
          go_ret
          exact ⟨rfl, T.bel⟩
    · have hcm : chkM k ss = 20 := if_neg hmm
      rw [hcm]
      have S := T
      clear T hcm hmm
      go_wp2_with fail
      refine (unhide C3 _).mono ?_
      rintro r w5 ⟨rfl, hb5⟩
      have T := (S.next hb5).alloc (.cells #[.string y1, .string y2, .int .i64 p0, .int .i64 p1, .int .i64 p2, .int .i64 p3, .string y3] 24)
      have b5 : EBox w5.heap.size ⟨y1, y2, p0, p1, p2, p3, y3⟩ (w5.alloc (.cells #[.string y1, .string y2, .int .i64 p0, .int .i64 p1, .int .i64 p2, .int .i64 p3, .string y3] 24)) := heap_alloc_new w5 _
      clear S hb5
      by_cases hcb : CB = 0
      · subst hcb
        have en := fun W => unhide E3 rfl W
        have EN := hide en
        have f5 := b5.cells
        dsimp only at f5
        clear en
        go_wp2_with fail
        generalize w5.alloc (.cells #[.string y1, .string y2, .int .i64 p0, .int .i64 p1, .int .i64 p2, .int .i64 p3, .string y3] 24) = W5 at *
        refine (unhide EN _).mono ?_
        rintro r w6 ⟨rfl, hb6⟩
        have S := T.next hb6
        clear T hb6 b5 f5 EN
        go_wp2_with fail
        refine (unhide C4 _).mono ?_
        rintro r w8 ⟨k8, s8, a8, c8, rfl, hst8, ok8, himp8, hb8⟩
        have T := (S.next hb8).alloc (.cells #[.string k8, .slice a8 s8.length c8] 35)
        have hst9 := hst8.below (below_new w8 (.cells #[.string k8, .slice a8 s8.length c8] 35)) (Nat.le_refl _)
        have b9 : MBox w8.heap.size k8 a8 s8.length c8 (w8.alloc (.cells #[.string k8, .slice a8 s8.length c8] 35)) := heap_alloc_new w8 _
        have em := fun h => unhide E4 k8 s8 a8 c8 _ ok8 hst9 (himp8 h)
        have EM := hide em
        clear S hb8 hst8 em himp8 ok8 hst9
        by_cases hmb : MB = 0
        · subst hmb
          have em := unhide EM rfl
          have EM2 := hide em
          have f9 := b9.cells
          clear em EM
          go_wp2_with fail
          generalize w8.alloc (.cells #[.string k8, .slice a8 s8.length c8] 35) = W9 at *
          refine (unhide EM2).mono ?_
          rintro r w10 ⟨rfl, hb10⟩
          have U := T.next hb10
          clear T hb10
          go_wp2
          go_ret
          exact ⟨rfl, U.bel⟩
        · have gmb : (MB == 0) = false := beq_eq_false_iff_ne.2 hmb
          clear hmb EM b9
          go_wp2
          go_ret
          exact ⟨rfl, T.bel⟩
      · have gcb : (CB == 0) = false := beq_eq_false_iff_ne.2 hcb
        have S := T
        clear T b5 hcb
        go_wp2_with fail
        refine (unhide C4 _).mono ?_
        rintro r w8 ⟨k8, s8, a8, c8, rfl, hst8, ok8, himp8, hb8⟩
        have T := (S.next hb8).alloc (.cells #[.string k8, .slice a8 s8.length c8] 35)
        have hst9 := hst8.below (below_new w8 (.cells #[.string k8, .slice a8 s8.length c8] 35)) (Nat.le_refl _)
        have b9 : MBox w8.heap.size k8 a8 s8.length c8 (w8.alloc (.cells #[.string k8, .slice a8 s8.length c8] 35)) := heap_alloc_new w8 _
        have em := fun h => unhide E4 k8 s8 a8 c8 _ ok8 hst9 (himp8 h)
        have EM := hide em
        clear S hb8 hst8 em himp8 ok8 hst9
        by_cases hmb : MB = 0
        · subst hmb
          have em := unhide EM rfl
          have EM2 := hide em
          have f9 := b9.cells
          clear em EM
          go_wp2_with fail
          generalize w8.alloc (.cells #[.string k8, .slice a8 s8.length c8] 35) = W9 at *
          refine (unhide EM2).mono ?_
          rintro r w10 ⟨rfl, hb10⟩
          have U := T.next hb10
          clear T hb10
          go_wp2
          go_ret
          exact ⟨rfl, U.bel⟩
        · have gmb : (MB == 0) = false := beq_eq_false_iff_ne.2 hmb
          clear hmb EM b9
          go_wp2
          go_ret
          exact ⟨rfl, T.bel⟩
end Go.Proofs.Ytijckimjcogfjaa
