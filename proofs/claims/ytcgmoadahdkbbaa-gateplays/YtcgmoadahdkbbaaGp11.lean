/-
  The document's gate: Text, Barrier, the first item taken.
-/
import Derived.Test.YtcgmoadahdkbbaaGp10
namespace Go.Proofs.Ytcgmoadahdkbbaa
open Go.RowKit Gt Cr

set_option maxHeartbeats 2000000 in
theorem rText_any (B b L : Nat) (G : Gt) (c : Int) (t : ByteArray) (w : World) (h : RgAt B w b L G) (ht : t.size ≤ 9223372036854775807) :
    Calls Try.prog 22 #[.pointer (some ⟨b, 0, none⟩), .int .i64 c, .string t] w fun e w' => e = .returned (.int .i64 (G.txE c t)) ∧ RgAt B w' b L (G.txS c t) ∧ Ko rgO B w w' := by
  by_cases hc : 0 ≤ c ∧ c < (G.n : Int)
  · obtain ⟨k, rfl, hk, e⟩ := has_nat hc
    have LN := hide (rNone_not h.1 hk)
    by_cases h1 : 60000 < t.size
    · have e2 : G.txE (k : Int) t = 2 := by unfold Gt.txE; rw [if_pos hc, if_pos h1]
      have e3 : G.txS (k : Int) t = G := by unfold Gt.txS; rw [if_pos hc, if_pos h1]
      rw [e2, e3]
      have h1i : (60000 : Int) < (t.size : Int) := by omega
      have HH := hide h
      clear h e2 e3 hc e
      go_enter Try.func22, Try.ntmps22
      go_wp2_with fail
      refine (unhide LN).mono ?_
      rintro r w1 ⟨rfl, rfl⟩
      go_wp2
      go_ret
      exact ⟨rfl, unhide HH, Ko.refl _ _ _⟩
    · have e2 : G.txE (k : Int) t = (G.ch k).psE := by unfold Gt.txE; rw [if_pos hc, if_neg h1, e]
      have e3 : G.txS (k : Int) t = G.upd k ((G.ch k).ps ⟨t, 0⟩) := by unfold Gt.txS; rw [if_pos hc, if_neg h1, e]
      rw [e2, e3]
      have h1i : ¬ (60000 : Int) < (t.size : Int) := by omega
      have PU := hide (rPut_any B b L G k ⟨t, 0⟩ w h hk)
      clear h e2 e3 hc e h1
      generalize G.upd k ((G.ch k).ps ⟨t, 0⟩) = G2 at *
      generalize (G.ch k).psE = E2 at *
      go_enter Try.func22, Try.ntmps22
      go_wp2_with fail
      refine (unhide LN).mono ?_
      rintro r w1 ⟨rfl, rfl⟩
      go_wp2_with fail
      refine (unhide PU).mono ?_
      rintro r w3 ⟨rfl, h3, h4⟩
      have H3 := hide h3
      have H4 := hide h4
      clear h3 h4
      go_wp2
      go_ret
      exact ⟨rfl, unhide H3, unhide H4⟩
  · have e2 : G.txE c t = 210 := if_neg hc
    have e3 : G.txS c t = G := if_neg hc
    rw [e2, e3]
    have LN := hide (rNone_is h.1 hc)
    have HH := hide h
    clear h e2 e3 hc
    go_enter Try.func22, Try.ntmps22
    go_wp2_with fail
    refine (unhide LN).mono ?_
    rintro r w1 ⟨rfl, rfl⟩
    go_wp2
    go_ret
    exact ⟨rfl, unhide HH, Ko.refl _ _ _⟩
theorem rg_next {B : Nat} {w : World} {b L : Nat} {G : Gt} (h : RgAt B w b L G) {k : Nat} (hk : k < G.n) : w.cell? ⟨L, k * 4 + 3, none⟩ = some (.int .i64 ((G.ch k).next : Int)) ∧ w.frozen? ⟨L, k * 4 + 3, none⟩ = false ∧ w.cell? ⟨b, 0, none⟩ = some (.slice (some ⟨L, 0, none⟩) G.n G.n) ∧
    RgAt B (w.setCell ⟨L, k * 4 + 3, none⟩ (.int .i64 (((G.ch k).next : Int) + 1))) b L (G.upd k ⟨(G.ch k).cap, (G.ch k).owed, (G.ch k).q, (G.ch k).next + 1⟩) ∧ Ko rgO B w (w.setCell ⟨L, k * 4 + 3, none⟩ (.int .i64 (((G.ch k).next : Int) + 1))) := by
  obtain ⟨e2, k2⟩ := rg_cell h.1 hk (rc ⟨(G.ch k).cap, (G.ch k).owed, (G.ch k).q, (G.ch k).next + 1⟩) 3 (by omega) (.int .i64 (((G.ch k).next : Int) + 1)) rfl rfl rfl (by rw [if_pos rfl]; rfl)
  exact ⟨(h.1.at hk).2.2.1, h.1.froz _, h.1.lines.1, rg_back e2 rfl h.2 (h.2.ch k hk), k2⟩
set_option maxHeartbeats 4000000 in
theorem rBarrier_any (B b L : Nat) (G : Gt) (c n : Int) (w : World) (h : RgAt B w b L G) (hn : ∀ k, k < G.n → (G.ch k).next ≤ 4611686018427387904) :
    Calls Try.prog 23 #[.pointer (some ⟨b, 0, none⟩), .int .i64 c, .int .i64 n] w fun e w' => e = .returned (.int .i64 (G.baE c n)) ∧ RgAt B w' b L (G.baS c n) ∧ Ko rgO B w w' := by
  by_cases hc : 0 ≤ c ∧ c < (G.n : Int)
  · obtain ⟨k, rfl, hk, e⟩ := has_nat hc
    have LN := hide (rNone_not h.1 hk)
    have e2 : G.baE (k : Int) n = (G.ch k).pbE n := if_pos hc
    have e3 : G.baS (k : Int) n = G.upd k ((G.ch k).pb n) := if_pos hc
    rw [e2, e3]
    obtain ⟨c3, _, c0, _, _⟩ := rg_next h hk
    have hki : (k : Int) < (G.n : Int) := by omega
    have hnk := hn k hk
    by_cases he : n = ((G.ch k).next : Int)
    · have p1 : (G.ch k).pbE n = (G.ch k).psE := if_pos he
      have p2 : (G.ch k).pb n = (if (G.ch k).owed = 0 then G.ch k else ⟨(G.ch k).cap, (G.ch k).owed - 1, (G.ch k).q ++ [⟨⟨#[]⟩, (G.ch k).next⟩], (G.ch k).next + 1⟩) := if_pos he
      rw [p1, p2]
      have PU := hide (rPut_any B b L G k ⟨⟨#[]⟩, (G.ch k).next⟩ w h hk)
      subst he
      by_cases hq : (G.ch k).owed = 0
      · have eE : (G.ch k).psE = 200 := if_pos hq
        have eS : (G.ch k).ps ⟨⟨#[]⟩, (G.ch k).next⟩ = G.ch k := if_pos hq
        rw [if_pos hq, eE]
        rw [eE, eS] at PU
        clear h e2 e3 hq eE eS p1 p2 hn hc e
        generalize G.upd k (G.ch k) = G2 at *
        generalize (G.ch k).next = m at *
        generalize G.n = nn at *
        go_enter Try.func23, Try.ntmps23
        go_wp2_with fail
        refine (unhide LN).mono ?_
        rintro r w1 ⟨rfl, rfl⟩
        go_wp2_with fail
        refine (unhide PU).mono ?_
        rintro r w1 ⟨rfl, h1, h2⟩
        have H1 := hide h1
        have H2 := hide h2
        clear h1 h2
        go_wp2
        go_ret
        exact ⟨rfl, unhide H1, unhide H2⟩
      · have eE : (G.ch k).psE = 0 := if_neg hq
        have eS : (G.ch k).ps ⟨⟨#[]⟩, (G.ch k).next⟩ = ⟨(G.ch k).cap, (G.ch k).owed - 1, (G.ch k).q ++ [⟨⟨#[]⟩, (G.ch k).next⟩], (G.ch k).next⟩ := if_neg hq
        rw [if_neg hq, eE]
        rw [eE, eS] at PU
        have FI : Hid (∀ w1, RgAt B w1 b L (G.upd k ⟨(G.ch k).cap, (G.ch k).owed - 1, (G.ch k).q ++ [⟨⟨#[]⟩, (G.ch k).next⟩], (G.ch k).next⟩) → w1.cell? ⟨L, k * 4 + 3, none⟩ = some (.int .i64 ((G.ch k).next : Int)) ∧ w1.frozen? ⟨L, k * 4 + 3, none⟩ = false ∧ w1.cell? ⟨b, 0, none⟩ = some (.slice (some ⟨L, 0, none⟩) G.n G.n) ∧ RgAt B (w1.setCell ⟨L, k * 4 + 3, none⟩ (.int .i64 (((G.ch k).next : Int) + 1))) b L (G.upd k ⟨(G.ch k).cap, (G.ch k).owed - 1, (G.ch k).q ++ [⟨⟨#[]⟩, (G.ch k).next⟩], (G.ch k).next + 1⟩) ∧ Ko rgO B w1 (w1.setCell ⟨L, k * 4 + 3, none⟩ (.int .i64 (((G.ch k).next : Int) + 1)))) := hide (fun w1 h1 => by
          have := rg_next h1 hk
          rw [Gt.upd_same, Gt.upd_upd] at this
          exact this)
        clear h e2 e3 hq eE eS p1 p2 hn hc e
        generalize G.upd k ⟨(G.ch k).cap, (G.ch k).owed - 1, (G.ch k).q ++ [⟨⟨#[]⟩, (G.ch k).next⟩], (G.ch k).next⟩ = G2 at *
        generalize G.upd k ⟨(G.ch k).cap, (G.ch k).owed - 1, (G.ch k).q ++ [⟨⟨#[]⟩, (G.ch k).next⟩], (G.ch k).next + 1⟩ = G3 at *
        generalize (G.ch k).next = m at *
        generalize G.n = nn at *
        have hw : IntKind.i64.wrap ((m : Int) + 1) = (m : Int) + 1 := by simp [IntKind.wrap, IntKind.signed, go_sem]; omega
        go_enter Try.func23, Try.ntmps23
        go_wp2_with fail
        refine (unhide LN).mono ?_
        rintro r w1 ⟨rfl, rfl⟩
        go_wp2_with fail
        refine (unhide PU).mono ?_
        rintro r w2 ⟨rfl, h1, h2⟩
        obtain ⟨d1, d2, d0, d3, d4⟩ := unhide FI _ h1
        have H1 := hide d3
        have H2 := hide (h2.trans d4)
        clear h1 h2 d3 d4 FI PU c3 c0
        go_wp2
        go_ret
        exact ⟨rfl, unhide H1, unhide H2⟩
    · have p1 : (G.ch k).pbE n = 1 := if_neg he
      have p2 : (G.ch k).pb n = G.ch k := if_neg he
      rw [p1, p2, Gt.upd_self]
      have HH := hide h
      clear h e2 e3 p1 p2 hn hc e
      generalize (G.ch k).next = m at *
      generalize G.n = nn at *
      go_enter Try.func23, Try.ntmps23
      go_wp2_with fail
      refine (unhide LN).mono ?_
      rintro r w1 ⟨rfl, rfl⟩
      go_wp2
      go_ret
      exact ⟨rfl, unhide HH, Ko.refl _ _ _⟩
  · have e2 : G.baE c n = 210 := if_neg hc
    have e3 : G.baS c n = G := if_neg hc
    rw [e2, e3]
    have LN := hide (rNone_is h.1 hc)
    have HH := hide h
    clear h e2 e3 hc hn
    go_enter Try.func23, Try.ntmps23
    go_wp2_with fail
    refine (unhide LN).mono ?_
    rintro r w1 ⟨rfl, rfl⟩
    go_wp2
    go_ret
    exact ⟨rfl, unhide HH, Ko.refl _ _ _⟩
/-- A row that is not empty, and what follows its first item. -/
theorem Kp.cellA {w w' : World} (hk : Kp [] w w') {a : Addr} (ha : a.spot = none) {j : Nat} {u : Value} (h : w.cell? (a.add j) = some u) : w'.cell? (a.add j) = some u := by
  obtain ⟨g, off, spot⟩ := a
  dsimp only at ha
  subst ha
  exact hk.cell h (by simp)
theorem rq_tail {W : World} {v : Value} {l : List It} (h : RqQ W v l) (hl : 0 < l.length) : ∃ g off cap, v = .slice (some ⟨g, off, none⟩) l.length cap ∧ l.length ≤ cap ∧ cap ≤ 9223372036854775807 ∧ W.cell? ⟨g, off, none⟩ = some (.string (l.headD ⟨⟨#[]⟩, 0⟩).t) ∧ W.cell? ⟨g, off + 1, none⟩ = some (.int .i64 ((l.headD ⟨⟨#[]⟩, 0⟩).n : Int)) ∧
    (∀ a, (if cap = 1 then some (⟨g, off, none⟩ : Addr) else some ⟨g, off + 2, none⟩) = some a → a.spot = none) ∧ (∀ a, (if cap = 1 then some (⟨g, off, none⟩ : Addr) else some ⟨g, off + 2, none⟩) = some a → ∀ j u, (itC l.tail)[j]? = some u → W.cell? (a.add j) = some u) := by
  rcases h with ⟨_, e⟩ | ⟨g, off, cap, rfl, _, h1, h2, h3⟩
  · rw [e] at hl; cases hl
  · match l, hl with
    | x :: r, _ =>
      have hc : itC (x :: r) = .string x.t :: .int .i64 (x.n : Int) :: itC r := rfl
      refine ⟨g, off, cap, rfl, h1, h2, h3 0 _ rfl, h3 1 _ rfl, fun a e => ?_, fun a e j u hj => ?_⟩
      · split at e <;> (injection e with e; rw [← e])
      · split at e
        · rename_i hcap
          rw [hcap] at h1
          have : r = [] := List.eq_nil_of_length_eq_zero (by simpa using h1)
          subst this
          cases hj
        · injection e with e
          rw [← e, Go.WideShapes.add_plain, show off + 2 + j = off + (j + 2) by omega]
          exact h3 (j + 2) u (by rw [hc]; exact hj)
theorem ko_fresh {P : Obj → Bool} {B gA : Nat} {w W W5 : World} (h : Ko P B w W) (k : Kp [gA] W W5) (hg : w.heap.size ≤ gA) : Ko P B w W5 :=
  ⟨k.os.trans h.os, k.tape.trans h.tape, k.output.trans h.output, Nat.le_trans h.size k.size, fun x o h1 h2 => by
    have h3 := h.block x o h1 h2
    have h4 := (Array.getElem?_eq_some_iff.1 h1).1
    rw [k.block x (Array.getElem?_eq_some_iff.1 h3).1 (by simp; omega)]
    exact h3⟩
theorem rg_free {B : Nat} {w : World} {b L : Nat} {G : Gt} {W : World} {k : Nat} {v : Value} (h : RgAt B w b L G) (hk : k < G.n) (hq : 0 < (G.ch k).q.length) (hV : Kp [] w W) (hv : RqQ W v (G.ch k).q.tail) {F gA : Nat} (hF : F = (rc (G.ch k)).free) (hA : w.heap.size ≤ gA) (hA2 : ∀ g, v.ownBlock = some g → g ≠ gA) :
    (W.setCell ⟨L, k * 4 + 2, none⟩ v).cell? ⟨b, 0, none⟩ = some (.slice (some ⟨L, 0, none⟩) G.n G.n) ∧ (W.setCell ⟨L, k * 4 + 2, none⟩ v).cell? ⟨L, k * 4, none⟩ = some (.int .i64 (F : Int)) ∧ (W.setCell ⟨L, k * 4 + 2, none⟩ v).frozen? ⟨L, k * 4, none⟩ = false ∧
    ∀ W5, Kp [gA] ((W.setCell ⟨L, k * 4 + 2, none⟩ v).setCell ⟨L, k * 4, none⟩ (.int .i64 ((F : Int) + 1))) W5 → RgAt B W5 b L (G.upd k (G.ch k).tl) ∧ Ko rgO B w W5 := by
  have hlq := Ch.lq (h.2.ch k hk)
  obtain ⟨cs, vs, h0, hb, hL⟩ := h.1
  have hbs := (Array.getElem?_eq_some_iff.1 h0.box).1
  have hls := (Array.getElem?_eq_some_iff.1 h0.lb).1
  have hh : RgV W b L cs vs G.n G.turn (rcs G) := h0.kpF hV (by simp) (by simp) (fun _ _ _ _ => by simp)
  obtain ⟨e1, k1⟩ := rg_cellV (B := B) hh hL hk ⟨F, (G.ch k).owed, (G.ch k).q.tail, (G.ch k).next⟩ 2 (by omega) v (by rw [if_neg (by decide)]; exact hF) rfl (by rw [if_pos rfl]; exact hv) rfl
  obtain ⟨e2, k2⟩ := rg_cellV (B := B) e1 hL hk ⟨F + 1, (G.ch k).owed, (G.ch k).q.tail, (G.ch k).next⟩ 0 (by omega) (.int .i64 ((F : Int) + 1)) (by rw [if_pos rfl]; rfl) (by rw [if_neg (by decide), upR_same]) (by rw [if_neg (by decide), upR_same]) (by rw [if_neg (by decide), upR_same])
  have hE : RgE B (W.setCell ⟨L, k * 4 + 2, none⟩ v) b L G.n G.turn _ := ⟨_, _, e1, hb, hL⟩
  have e3 := (hE.at hk).1
  rw [upR_same] at e3
  refine ⟨hE.lines.1, e3, hE.froz _, fun W5 k5 => ⟨?_, ko_fresh (((Ko.nil hV).trans k1).trans k2) k5 hA⟩⟩
  have e5 := e2.kpF k5 (by simp; omega) (by simp; omega) (fun j hj g hg => by
    simp only [List.mem_singleton]
    (try dsimp only at hg)
    rw [if_neg (by simp)] at hg
    by_cases e : j = k
    · rw [if_pos ⟨e, rfl⟩] at hg
      exact hA2 g hg
    · rw [if_neg (fun x => e x.1)] at hg
      have := (h0.it j hj).lt hg
      omega)
  refine rg_back (c := (G.ch k).tl) ⟨_, _, e5, hb, hL⟩ ?_ h.2 (by rw [Ch.tl_sto]; exact (h.2.ch k hk).tk)
  rw [upR_upR]
  unfold rc Ch.tl
  dsimp only
  unfold rc at hF
  dsimp only at hF
  rw [hF, List.length_tail, show (G.ch k).cap - (G.ch k).q.length - (G.ch k).owed + 1 = (G.ch k).cap - ((G.ch k).q.length - 1) - (G.ch k).owed by omega]
set_option maxHeartbeats 16000000 in
set_option maxRecDepth 100000 in
theorem rTake_any (B b L : Nat) (G : Gt) (k : Nat) (w : World) (h : RgAt B w b L G) (hk : k < G.n) (hq : 0 < (G.ch k).q.length) :
    Calls Try.prog 39 #[.pointer (some ⟨b, 0, none⟩), .int .i64 (k : Int)] w fun e w' => e = .returned (.agg #[.string (G.ch k).hd.t, .int .i64 ((G.ch k).hd.n : Int)]) ∧ RgAt B w' b L (G.upd k (G.ch k).tl) ∧ Ko rgO B w w' := by
  have KA := Kp.alloc w (.cells #[.string ⟨#[]⟩, .int .i64 0] 73)
  have NA := CBox.new w #[.string ⟨#[]⟩, .int .i64 0] 73
  have b0 := h.1.lines.1
  obtain ⟨_, _, _, v, b2, hrq0⟩ := h.1.at hk
  have hrq : RqQ w v (G.ch k).q := hrq0
  clear hrq0
  obtain ⟨g, off, cap, rfl, hcap, hcap2, d0, d1, hsp, hcs⟩ := rq_tail (W := w) hrq hq
  have hki : (k : Int) < (G.n : Int) := by omega
  have hlq := Ch.lq (h.2.ch k hk)
  obtain ⟨F, hF⟩ : ∃ F, F = (rc (G.ch k)).free := ⟨_, rfl⟩
  have hF1 : F ≤ 256 := by rw [hF]; unfold rc; dsimp only; omega
  have hLb : Hid (L < w.heap.size) := hide (by obtain ⟨cs, vs, h1, _⟩ := h.1; exact (Array.getElem?_eq_some_iff.1 h1.lb).1)
  have HFI := hide (fun W v gA (k1 : Kp [] w W) (hv : RqQ W v (G.ch k).q.tail) a1 a2 => rg_free (gA := gA) h hk hq k1 hv hF a1 a2)
  have HZ := hide (fun W (k1 : Kp [] w W) => (h.1.kp k1).froz (k * 4 + 2))
  have HRQ : Hid (RqQ w (.slice (some ⟨g, off, none⟩) (G.ch k).q.length cap) (G.ch k).q) := hide hrq
  have HSP := hide hsp
  have HCS := hide hcs
  have HTL : Hid ((G.ch k).q.tail.length = (G.ch k).q.length - 1) := hide List.length_tail
  have hln : (G.ch k).q.length ≤ 256 := by omega
  have hqi : (0 : Int) < ((G.ch k).q.length : Int) := by omega
  have hw : IntKind.i64.wrap ((F : Int) + 1) = (F : Int) + 1 := by simp [IntKind.wrap, IntKind.signed, go_sem]; omega
  change w.cell? ⟨g, off, none⟩ = some (.string (G.ch k).hd.t) at d0
  change w.cell? ⟨g, off + 1, none⟩ = some (.int .i64 ((G.ch k).hd.n : Int)) at d1
  have HD : Hid (∀ W, Kp [] w W → W.cell? ⟨b, 0, none⟩ = some (.slice (some ⟨L, 0, none⟩) G.n G.n) ∧ W.cell? ⟨L, k * 4 + 2, none⟩ = some (.slice (some ⟨g, off, none⟩) (G.ch k).q.length cap) ∧ W.cell? ⟨g, off, none⟩ = some (.string (G.ch k).hd.t) ∧ W.cell? ⟨g, off + 1, none⟩ = some (.int .i64 ((G.ch k).hd.n : Int))) := hide (fun W k1 => ⟨k1.cell b0 (by simp), k1.cell b2 (by simp), k1.cell d0 (by simp), k1.cell d1 (by simp)⟩)
  obtain ⟨x0, x1, x2, x3⟩ := unhide HD _ KA
  have HKA := hide KA
  have HNA := hide NA
  clear h hF hlq hrq hsp hcs KA NA b0 b2 d0 d1
  generalize G.upd k (G.ch k).tl = G2 at *
  generalize (G.ch k).hd.n = hn' at *
  generalize (G.ch k).hd.t = ht' at *
  generalize (G.ch k).q.tail = l2 at *
  generalize (G.ch k).q = l at *
  generalize hlen : l.length = m at *
  have HLEN := hide hlen
  clear hlen
  generalize G.n = n at *
  go_enter Try.func39, Try.ntmps39
  go_upto_region 1 with fail
  generalize hgA : w.heap.size = gA at *
  have HgA := hide hgA
  clear hgA
  generalize w.alloc (.cells #[.string ⟨#[]⟩, .int .i64 0] 73) = W0 at *
  go_upto_region 2 with fail
  obtain ⟨V, hV⟩ : ∃ V, V = (W0.alloc (.cells #[.string ht', .int .i64 (hn' : Int)] 73)).drew := ⟨_, rfl⟩
  have k0V : Kp [] W0 V := by rw [hV]; exact (Kp.alloc _ _).trans (Kp.drew _) (by simp)
  have KV : Hid (Kp [] w V) := hide ((unhide HKA).trans k0V (by simp))
  have NA : Hid (CBox gA #[.string ⟨#[]⟩, .int .i64 0] 73 V) := hide ((unhide HNA).kp k0V (by simp))
  have NB : Hid (CBox W0.heap.size #[.string ht', .int .i64 (hn' : Int)] 73 V) := hide (by rw [hV]; exact (CBox.new W0 _ _).kp (Kp.drew _) (by simp))
  have HSZ : Hid (gA < W0.heap.size ∧ W0.heap.size < V.heap.size) := hide ⟨(Array.getElem?_eq_some_iff.1 (unhide HNA)).1, (Array.getElem?_eq_some_iff.1 (unhide NB)).1⟩
  have HS : Hid (∀ W, Kp [] V W → W.cell? ⟨b, 0, none⟩ = some (.slice (some ⟨L, 0, none⟩) n n) ∧ W.cell? ⟨L, k * 4 + 2, none⟩ = some (.slice (some ⟨g, off, none⟩) m cap)) := hide (fun W k1 => ⟨(unhide HD W ((unhide KV).trans k1 (by simp))).1, (unhide HD W ((unhide KV).trans k1 (by simp))).2.1⟩)
  have a0 := unhide HS V (Kp.refl _ _)
  refine wp_region_late (fun W => W.cell? ⟨b, 0, none⟩ = some (.slice (some ⟨L, 0, none⟩) n n) ∧ W.cell? ⟨L, k * 4 + 2, none⟩ = some (.slice (some ⟨g, off, none⟩) m cap)) 18 (by kernel_rfl) ?_
  rw [← hV]
  clear hV k0V x0 x1 x2 x3 HKA HNA
  generalize W0.heap.size = gB at *
  have hm1 : (1 : Int) ≤ (m : Int) := by omega
  have hm2 : 1 ≤ cap := by omega
  show wpAnyL _ _ _ _ _ _ 19 (Array.replicate 19 false) _ _
  refine wpAnyL_take3 (i := 0) (oi := { dst := some 16, op := Op.move (Operand.tmp 0), type := 29, pos := "ref.go:113", after := #[], guard := none }) (v := ?_) rfl (by kernel_rfl) (by kernel_rfl) (by kernel_rfl) (by kernel_rfl) (fun _ _ _ h => h) (Or.inl ⟨by rfl, ?_⟩) a0 ?_
  rotate_left 1
  · intro w0 hSw
    (try dsimp only at hSw)
    go_simp
    (try with_reducible rfl)
  try simp only [Act.put, List.setIfInBounds_toArray, List.set_cons_zero, List.set_cons_succ]
  refine wpAnyL_take3 (i := 1) (oi := { dst := some 17, op := Op.nilCheck (Operand.tmp 16), type := 0, pos := "ref.go:113", after := #[{ on := 0, ground := Ground.data }], guard := none }) (v := ?_) rfl (by kernel_rfl) (by kernel_rfl) (by kernel_rfl) (by kernel_rfl) (fun _ _ _ h => h) (Or.inl ⟨by rfl, ?_⟩) a0 ?_
  rotate_left 1
  · intro w0 hSw
    (try dsimp only at hSw)
    go_simp
    (try with_reducible rfl)
  try simp only [Act.put, List.setIfInBounds_toArray, List.set_cons_zero, List.set_cons_succ]
  refine wpAnyL_take3 (i := 2) (oi := { dst := some 18, op := Op.fieldAddr 64 (Operand.tmp 17) 0, type := 0, pos := "ref.go:113", after := #[{ on := 1, ground := Ground.data }], guard := none }) (v := ?_) rfl (by kernel_rfl) (by kernel_rfl) (by kernel_rfl) (by kernel_rfl) (fun _ _ _ h => h) (Or.inl ⟨by rfl, ?_⟩) a0 ?_
  rotate_left 1
  · intro w0 hSw
    (try dsimp only at hSw)
    go_simp
    (try with_reducible rfl)
  try simp only [Act.put, List.setIfInBounds_toArray, List.set_cons_zero, List.set_cons_succ]
  refine wpAnyL_take3 (i := 3) (oi := { dst := some 19, op := Op.load 62 (Operand.tmp 18), type := 62, pos := "ref.go:113", after := #[{ on := 2, ground := Ground.data }], guard := none }) (v := ?_) rfl (by kernel_rfl) (by kernel_rfl) (by kernel_rfl) (by kernel_rfl) (fun _ _ _ h => h) (Or.inl ⟨by rfl, ?_⟩) a0 ?_
  rotate_left 1
  · intro w0 hSw
    (try dsimp only at hSw)
    go_simp
    (try with_reducible rfl)
  try simp only [Act.put, List.setIfInBounds_toArray, List.set_cons_zero, List.set_cons_succ]
  refine wpAnyL_take3 (i := 4) (oi := { dst := some 20, op := Op.move (Operand.tmp 1), type := 3, pos := "ref.go:113", after := #[], guard := none }) (v := ?_) rfl (by kernel_rfl) (by kernel_rfl) (by kernel_rfl) (by kernel_rfl) (fun _ _ _ h => h) (Or.inl ⟨by rfl, ?_⟩) a0 ?_
  rotate_left 1
  · intro w0 hSw
    (try dsimp only at hSw)
    go_simp
    (try with_reducible rfl)
  try simp only [Act.put, List.setIfInBounds_toArray, List.set_cons_zero, List.set_cons_succ]
  refine wpAnyL_take3 (i := 6) (oi := { dst := some 22, op := Op.move (Operand.tmp 0), type := 29, pos := "ref.go:113", after := #[], guard := none }) (v := ?_) rfl (by kernel_rfl) (by kernel_rfl) (by kernel_rfl) (by kernel_rfl) (fun _ _ _ h => h) (Or.inl ⟨by rfl, ?_⟩) a0 ?_
  rotate_left 1
  · intro w0 hSw
    (try dsimp only at hSw)
    go_simp
    (try with_reducible rfl)
  try simp only [Act.put, List.setIfInBounds_toArray, List.set_cons_zero, List.set_cons_succ]
  refine wpAnyL_take3 (i := 7) (oi := { dst := some 23, op := Op.nilCheck (Operand.tmp 22), type := 0, pos := "ref.go:113", after := #[{ on := 6, ground := Ground.data }], guard := none }) (v := ?_) rfl (by kernel_rfl) (by kernel_rfl) (by kernel_rfl) (by kernel_rfl) (fun _ _ _ h => h) (Or.inl ⟨by rfl, ?_⟩) a0 ?_
  rotate_left 1
  · intro w0 hSw
    (try dsimp only at hSw)
    go_simp
    (try with_reducible rfl)
  try simp only [Act.put, List.setIfInBounds_toArray, List.set_cons_zero, List.set_cons_succ]
  refine wpAnyL_take3 (i := 8) (oi := { dst := some 24, op := Op.fieldAddr 64 (Operand.tmp 23) 0, type := 0, pos := "ref.go:113", after := #[{ on := 7, ground := Ground.data }], guard := none }) (v := ?_) rfl (by kernel_rfl) (by kernel_rfl) (by kernel_rfl) (by kernel_rfl) (fun _ _ _ h => h) (Or.inl ⟨by rfl, ?_⟩) a0 ?_
  rotate_left 1
  · intro w0 hSw
    (try dsimp only at hSw)
    go_simp
    (try with_reducible rfl)
  try simp only [Act.put, List.setIfInBounds_toArray, List.set_cons_zero, List.set_cons_succ]
  refine wpAnyL_take3 (i := 9) (oi := { dst := some 25, op := Op.load 62 (Operand.tmp 24), type := 62, pos := "ref.go:113", after := #[{ on := 8, ground := Ground.data }], guard := none }) (v := ?_) rfl (by kernel_rfl) (by kernel_rfl) (by kernel_rfl) (by kernel_rfl) (fun _ _ _ h => h) (Or.inl ⟨by rfl, ?_⟩) a0 ?_
  rotate_left 1
  · intro w0 hSw
    (try dsimp only at hSw)
    go_simp
    (try with_reducible rfl)
  try simp only [Act.put, List.setIfInBounds_toArray, List.set_cons_zero, List.set_cons_succ]
  refine wpAnyL_take3 (i := 10) (oi := { dst := some 26, op := Op.move (Operand.tmp 1), type := 3, pos := "ref.go:113", after := #[], guard := none }) (v := ?_) rfl (by kernel_rfl) (by kernel_rfl) (by kernel_rfl) (by kernel_rfl) (fun _ _ _ h => h) (Or.inl ⟨by rfl, ?_⟩) a0 ?_
  rotate_left 1
  · intro w0 hSw
    (try dsimp only at hSw)
    go_simp
    (try with_reducible rfl)
  try simp only [Act.put, List.setIfInBounds_toArray, List.set_cons_zero, List.set_cons_succ]
  refine wpAnyL_take3 (i := 11) (oi := { dst := some 27, op := Op.indexAddr 62 (Operand.tmp 25) (Operand.tmp 26), type := 0, pos := "ref.go:113", after := #[{ on := 9, ground := Ground.data }, { on := 10, ground := Ground.data }], guard := none }) (v := ?_) rfl (by kernel_rfl) (by kernel_rfl) (by kernel_rfl) (by kernel_rfl) (fun _ _ _ h => h) (Or.inl ⟨by rfl, ?_⟩) a0 ?_
  rotate_left 1
  · intro w0 hSw
    (try dsimp only at hSw)
    go_simp
    (try with_reducible rfl)
  try simp only [Act.put, List.setIfInBounds_toArray, List.set_cons_zero, List.set_cons_succ]
  refine wpAnyL_take3 (i := 12) (oi := { dst := some 28, op := Op.fieldAddr 67 (Operand.tmp 27) 2, type := 0, pos := "ref.go:113", after := #[{ on := 11, ground := Ground.data }], guard := none }) (v := ?_) rfl (by kernel_rfl) (by kernel_rfl) (by kernel_rfl) (by kernel_rfl) (fun _ _ _ h => h) (Or.inl ⟨by rfl, ?_⟩) a0 ?_
  rotate_left 1
  · intro w0 hSw
    (try dsimp only at hSw)
    go_simp
    (try with_reducible rfl)
  try simp only [Act.put, List.setIfInBounds_toArray, List.set_cons_zero, List.set_cons_succ]
  refine wpAnyL_take3 (i := 13) (oi := { dst := some 29, op := Op.load 65 (Operand.tmp 28), type := 65, pos := "ref.go:113", after := #[{ on := 12, ground := Ground.data }], guard := none }) (v := ?_) rfl (by kernel_rfl) (by kernel_rfl) (by kernel_rfl) (by kernel_rfl) (fun _ _ _ h => h) (Or.inl ⟨by rfl, ?_⟩) a0 ?_
  rotate_left 1
  · intro w0 hSw
    (try dsimp only at hSw)
    go_simp
    (try with_reducible rfl)
  try simp only [Act.put, List.setIfInBounds_toArray, List.set_cons_zero, List.set_cons_succ]
  refine wpAnyL_take3 (i := 14) (oi := { dst := some 30, op := Op.slice 65 (Operand.tmp 29) (some (Operand.const (Value.int IntKind.i64 1))) none none, type := 65, pos := "ref.go:113", after := #[{ on := 13, ground := Ground.data }], guard := none }) (v := ?_) rfl (by kernel_rfl) (by kernel_rfl) (by kernel_rfl) (by kernel_rfl) (fun _ _ _ h => h) (Or.inl ⟨by rfl, ?_⟩) a0 ?_
  rotate_left 1
  · intro w0 hSw
    (try dsimp only at hSw)
    go_simp
    (try with_reducible rfl)
  try simp only [Act.put, List.setIfInBounds_toArray, List.set_cons_zero, List.set_cons_succ]
  generalize hAA : (if cap = 1 then some (⟨g, off, none⟩ : Addr) else some ⟨g, off + 2, none⟩) = A at *
  have HAA := hide hAA
  clear hAA
  have kN : Kp [] V (V.alloc (.cells #[] 73)) := Kp.alloc _ _
  have RE := hide (rqn_new V)
  have GE : Hid (GeW V V.heap.size) := hide (Nat.le_refl _)
  have A1 := unhide HS _ kN
  have K1 := hide kN
  clear kN
  refine wpAnyL_one (i := 5) (o := { dst := some 21, op := Op.buildSlice 65 0 #[], type := 65, pos := "ref.go:113", after := #[], guard := none }) rfl (by kernel_rfl) (fun K hK => ?_)
  go_simp
  refine hK _ _ (Or.inr A1) ?_
  clear hK K
  try simp only [Act.put, List.setIfInBounds_toArray, List.set_cons_zero, List.set_cons_succ]
  generalize V.alloc (.cells #[] 73) = W1 at *
  generalize hge : V.heap.size = ge at *
  have HGE := hide hge
  clear hge
  obtain ⟨g3, cap3, W3, run3, r3, hg3, k3, _⟩ := rqn_row (V := V) (ad := A) (cp := cap - 1) (l := l2) (unhide RE) (unhide GE) (unhide K1) (by have := unhide HTL; omega) (fun e => by have h5 := unhide HAA; rw [e] at h5; split at h5 <;> cases h5) (unhide HSP) (fun a e j u hj => ((unhide KV).trans (unhide K1) (by simp)).cellA (unhide HSP a e) (unhide HCS a e j u hj)) 65
  rw [unhide HTL] at run3 r3
  have R3 : Hid (RqQ W3 (.slice (some ⟨g3, 0, none⟩) (m - 1) cap3) l2) := hide (rq_of r3 (unhide HTL).symm)
  have G3 := hide hg3
  have A3 := unhide HS _ k3
  have K3 := hide k3
  have f3 := unhide HZ W3 ((unhide KV).trans k3 (by simp))
  clear r3 hg3 k3
  refine wpAnyL_one (i := 15) (o := { dst := some 31, op := Op.call { callee := Callee.builtin Builtin.append, args := #[Operand.tmp 21, Operand.tmp 30], argTypes := #[65, 65] }, type := 65, pos := "ref.go:113", after := #[{ on := 5, ground := Ground.data }, { on := 14, ground := Ground.data }], guard := none }) rfl (by kernel_rfl) (fun K hK => ?_)
  refine step_app_run rfl _ _ 65 rfl rfl rfl run3 ?_
  refine hK _ _ (Or.inr A3) ?_
  clear hK K run3
  try simp only [Act.put, List.setIfInBounds_toArray, List.set_cons_zero, List.set_cons_succ]
  refine wpAnyL_one (i := 16) (o := { dst := some 32, op := Op.indexAddr 62 (Operand.tmp 19) (Operand.tmp 20), type := 0, pos := "ref.go:113", after := #[{ on := 3, ground := Ground.data }, { on := 4, ground := Ground.data }, { on := 0, ground := Ground.phase }, { on := 1, ground := Ground.phase }, { on := 2, ground := Ground.phase }, { on := 3, ground := Ground.phase }, { on := 4, ground := Ground.phase }, { on := 5, ground := Ground.phase }, { on := 6, ground := Ground.phase }, { on := 7, ground := Ground.phase }, { on := 8, ground := Ground.phase }, { on := 9, ground := Ground.phase }, { on := 10, ground := Ground.phase }, { on := 11, ground := Ground.phase }, { on := 12, ground := Ground.phase }, { on := 13, ground := Ground.phase }, { on := 14, ground := Ground.phase }, { on := 15, ground := Ground.phase }], guard := none }) rfl (by kernel_rfl) (fun K hK => ?_)
  go_simp
  refine hK _ _ (Or.inr A3) ?_
  clear hK K
  try simp only [Act.put, List.setIfInBounds_toArray, List.set_cons_zero, List.set_cons_succ]
  refine wpAnyL_one (i := 17) (o := { dst := some 33, op := Op.fieldAddr 67 (Operand.tmp 32) 2, type := 0, pos := "ref.go:113", after := #[{ on := 16, ground := Ground.data }, { on := 0, ground := Ground.phase }, { on := 1, ground := Ground.phase }, { on := 2, ground := Ground.phase }, { on := 3, ground := Ground.phase }, { on := 4, ground := Ground.phase }, { on := 5, ground := Ground.phase }, { on := 6, ground := Ground.phase }, { on := 7, ground := Ground.phase }, { on := 8, ground := Ground.phase }, { on := 9, ground := Ground.phase }, { on := 10, ground := Ground.phase }, { on := 11, ground := Ground.phase }, { on := 12, ground := Ground.phase }, { on := 13, ground := Ground.phase }, { on := 14, ground := Ground.phase }, { on := 15, ground := Ground.phase }], guard := none }) rfl (by kernel_rfl) (fun K hK => ?_)
  go_simp
  refine hK _ _ (Or.inr A3) ?_
  clear hK K
  try simp only [Act.put, List.setIfInBounds_toArray, List.set_cons_zero, List.set_cons_succ]
  refine wpAnyL_one (i := 18) (o := { dst := none, op := Op.store 65 (Operand.tmp 33) (Operand.tmp 31), type := 0, pos := "ref.go:113", after := #[{ on := 17, ground := Ground.data }, { on := 15, ground := Ground.data }, { on := 15, ground := Ground.chain }, { on := 0, ground := Ground.phase }, { on := 1, ground := Ground.phase }, { on := 2, ground := Ground.phase }, { on := 3, ground := Ground.phase }, { on := 4, ground := Ground.phase }, { on := 5, ground := Ground.phase }, { on := 6, ground := Ground.phase }, { on := 7, ground := Ground.phase }, { on := 8, ground := Ground.phase }, { on := 9, ground := Ground.phase }, { on := 10, ground := Ground.phase }, { on := 11, ground := Ground.phase }, { on := 12, ground := Ground.phase }, { on := 13, ground := Ground.phase }, { on := 14, ground := Ground.phase }, { on := 15, ground := Ground.phase }], guard := none }) rfl (by kernel_rfl) (fun K hK => ?_)
  go_simp
  refine hK _ _ (Or.inl rfl) ?_
  clear hK K
  try simp only [Act.put, List.setIfInBounds_toArray, List.set_cons_zero, List.set_cons_succ]
  refine wpAnyL_done (by kernel_rfl) ?_ _
  obtain ⟨p1, p2, p3, p4⟩ := unhide HFI W3 _ gA ((unhide KV).trans (unhide K3) (by simp)) (unhide R3) (Nat.le_refl _) (fun g' hg' => by
    simp [Value.ownBlock] at hg'
    subst hg'
    have := unhide G3
    have h2 := unhide HSZ
    have h3 := unhide HGE
    unfold GeW at this
    omega)
  have HP := hide p4
  have na3 : CBox gA #[.string ⟨#[]⟩, .int .i64 0] 73 W3 := (unhide NA).kp (unhide K3) (by simp)
  have nb3 : CBox gB #[.string ht', .int .i64 (hn' : Int)] 73 W3 := (unhide NB).kp (unhide K3) (by simp)
  have hLgA : L < gA := unhide hLb
  have hsz := unhide HSZ
  have kL : Kp [L] W3 ((W3.setCell ⟨L, k * 4 + 2, none⟩ (.slice (some ⟨g3, 0, none⟩) (m - 1) cap3)).setCell ⟨L, k * 4, none⟩ (.int .i64 ((F : Int) + 1))) := (Kp.set W3 L _ _).trans (Kp.set _ L _ _) (fun _ hx => Or.inl hx)
  have na5 := na3.kp kL (by simp; omega)
  have nb5 := nb3.kp kL (by simp; omega)
  go_upto_region 4 with fail
  generalize (W3.setCell ⟨L, k * 4 + 2, none⟩ (.slice (some ⟨g3, 0, none⟩) (m - 1) cap3)).setCell ⟨L, k * 4, none⟩ (.int .i64 ((F : Int) + 1)) = W5 at *
  have ba0 := nb5.cell (i := 0) (v := .string ht') rfl
  have ba1 := nb5.cell (i := 1) (v := .int .i64 (hn' : Int)) rfl
  have aa0 := na5.cell (i := 0) (v := .string ⟨#[]⟩) rfl
  have aa1 := na5.cell (i := 1) (v := .int .i64 0) rfl
  have af0 := na5.froz 0
  have af1 := na5.froz 1
  have HBX : Hid (CBox gA #[.string ht', .int .i64 (hn' : Int)] 73 ((W5.setCell ⟨gA, 0, none⟩ (.string ht')).setCell ⟨gA, 1, none⟩ (.int .i64 (hn' : Int)))) := hide ((na5.set 0 (.string ht')).set 1 (.int .i64 (hn' : Int)))
  have HK5 : Hid (∀ a b, Kp [gA] W5 ((W5.setCell ⟨gA, 0, none⟩ a).setCell ⟨gA, 1, none⟩ b)) := hide (fun a b => (Kp.set W5 gA 0 a).trans (Kp.set _ gA 1 b) (fun _ hx => Or.inl hx))
  clear na3 nb3 na5 nb5 p1 p2 p3 p4 A3 f3 kL a0
  go_wp2
  exact bodyPost_ret (results_cell_row Try.results39 _ _ gA 73 _ (0, 0) _ rfl (unhide HBX) Try.underlying73 rfl info_rq2) rfl ⟨rfl, unhide HP _ (unhide HK5 _ _)⟩

end Go.Proofs.Ytcgmoadahdkbbaa
