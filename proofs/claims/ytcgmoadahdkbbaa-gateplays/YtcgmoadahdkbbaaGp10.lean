/-
  The document's gate: an item, for a credit.
-/
import Derived.Test.YtcgmoadahdkbbaaGp09
import Derived.Test.YtcgmoadahdkbbaaGp02
namespace Go.Proofs.Ytcgmoadahdkbbaa
open Go.RowKit Gt Cr

/-- Behind all that there was. -/
def GeW (V : World) (g : Nat) : Prop := V.heap.size ≤ g
/-- A row begun anew, in any world. -/
def RqN (W : World) (g n cap : Nat) (l : List It) : Prop := W.ownsRow 0 73 2 (.slice (some ⟨g, 0, none⟩) n cap) n (itC l)
theorem rqn_kp {W W' : World} {g n cap : Nat} {l : List It} (h : RqN W g n cap l) (hk : Kp [] W W') : RqN W' g n cap l := by
  obtain ⟨h1, ⟨e, _⟩ | ⟨g', cp, cur, e, hb, hh, r⟩⟩ := h
  · cases e
  · exact ⟨h1, Or.inr ⟨g', cp, cur, e, hb, (hk.block g' (Array.getElem?_eq_some_iff.1 hh).1 (by simp)).trans hh, r⟩⟩
theorem rqn_lt {W : World} {g n cap : Nat} {l : List It} (h : RqN W g n cap l) : g < W.heap.size := by
  obtain ⟨_, ⟨e, _⟩ | ⟨g', cp, cur, e, _, hh, _⟩⟩ := h
  · cases e
  · injection e with e1 e2 e3
    injection e1 with e1
    injection e1 with e1
    subst e1
    exact (Array.getElem?_eq_some_iff.1 hh).1
theorem rqn_new (W : World) : RqN (W.alloc (.cells #[] 73)) W.heap.size 0 0 [] := ⟨rfl, Or.inr ⟨W.heap.size, 0, #[], rfl, Nat.zero_le _, heap_alloc_new W _, Nat.le_refl _, Nat.zero_le _, rfl, rfl⟩⟩
set_option maxRecDepth 100000 in
theorem rqn_row {V W : World} {g : Nat} {ad : Option Addr} {cp : Nat} {l : List It} (h : RqN W g 0 0 []) (hg : GeW V g) (hk : Kp [] V W) (hl : l.length ≤ 100000) (hnone : ad = none → l.length = 0 ∧ cp = 0) (hsp : ∀ a, ad = some a → a.spot = none) (hc : ∀ a, ad = some a → ∀ j u, (itC l)[j]? = some u → W.cell? (a.add j) = some u) (ty : TypeId) :
    ∃ g3 cap3 W3, (Builtin.append_ #[65, 65] ty #[.slice (some ⟨g, 0, none⟩) 0 0, .slice ad l.length cp]).run Try.prog W = .ok (.slice (some ⟨g3, 0, none⟩) l.length cap3) W3 ∧ RqN W3 g3 l.length cap3 l ∧ GeW V g3 ∧ Kp [] V W3 ∧ Kp [g] W W3 := by
  obtain ⟨i0, hi, hz0, hz1, hz2⟩ := info_parts info_rq
  obtain ⟨g3, cap3, W3, run3, r3, gr3, at3⟩ := run_app_any (P := Try.prog) 65 ty 73 i0 _ 2 24 Try.underlying65 hi hz0 hz1 hz2 rfl (by decide) h ad l.length cp (itC l) (itC_len l) hnone hsp hc (itC_cell l) (by unfold maxLen; omega) (by omega)
  simp only [Nat.zero_add] at run3
  have r3' : W3.ownsRow 0 73 2 (.slice (some ⟨g3, 0, none⟩) l.length cap3) l.length (itC l) := by
    have := r3
    rw [show itC [] = [] from rfl, List.nil_append, Nat.zero_add] at this
    exact this
  have := hk.size
  unfold GeW at *
  refine ⟨g3, cap3, W3, run3, r3', ?_, hk.trans (Kp.of gr3) (fun x hx => Or.inr (by simp at hx; subst hx; exact hg)), Kp.of gr3⟩
  rcases at3 with e | e <;> omega
set_option maxRecDepth 100000 in
theorem rqn_item {V W : World} {g n cap y : Nat} {l : List It} {x : It} (h : RqN W g n cap l) (hn : n = l.length) (hg : GeW V g) (hk : Kp [] V W) (hl : l.length ≤ 100000) (hy : CBox y #[.string x.t, .int .i64 (x.n : Int)] 73 W) (ty : TypeId) :
    ∃ g5 cap5 W5, (Builtin.append_ #[65, 65] ty #[.slice (some ⟨g, 0, none⟩) n cap, .slice (some ⟨y, 0, none⟩) 1 1]).run Try.prog W = .ok (.slice (some ⟨g5, 0, none⟩) (n + 1) cap5) W5 ∧ RqQ W5 (.slice (some ⟨g5, 0, none⟩) (n + 1) cap5) (l ++ [x]) ∧ Kp [] V W5 := by
  obtain ⟨i0, hi, hz0, hz1, hz2⟩ := info_parts info_rq
  subst hn
  obtain ⟨g5, cap5, W5, run5, r5, gr5, at5⟩ := run_app_any (P := Try.prog) 65 ty 73 i0 _ 2 24 Try.underlying65 hi hz0 hz1 hz2 rfl (by decide) h (some ⟨y, 0, none⟩) 1 1 (itC [x]) rfl (fun e => by cases e) (fun a e => by injection e with e; subst e; rfl) (fun a e j u hj => by
    injection e with e
    subst e
    rw [Go.WideShapes.add_plain, Nat.zero_add]
    exact hy.cell (by
      have : (itC [x])[j]? = (#[Value.string x.t, .int .i64 (x.n : Int)] : Array Value)[j]? := by
        rw [← Array.getElem?_toList]
        rfl
      rw [← this]
      exact hj)) (itC_cell _) (by unfold maxLen; omega) (by omega)
  rw [← itC_append] at r5
  exact ⟨g5, cap5, W5, run5, rq_of r5 (by simp), hk.trans (Kp.of gr5) (fun x hx => Or.inr (by simp at hx; subst hx; exact hg))⟩
theorem rq_src {W : World} {ad : Option Addr} {n cp : Nat} {l : List It} (h : RqQ W (.slice ad n cp) l) : (ad = none → l.length = 0 ∧ cp = 0) ∧ (∀ a, ad = some a → a.spot = none) ∧ (∀ a, ad = some a → ∀ j u, (itC l)[j]? = some u → W.cell? (a.add j) = some u) := by
  refine ⟨fun e => ?_, fun a e => ?_, fun a e j u hj => ?_⟩
  · rcases h with ⟨e1, e2⟩ | ⟨g, off, cap, e1, _⟩
    · injection e1 with _ _ e3; exact ⟨by rw [e2]; rfl, e3⟩
    · injection e1 with e2; rw [e] at e2; cases e2
  · rcases h with ⟨e1, _⟩ | ⟨g, off, cap, e1, _⟩
    · injection e1 with e2; rw [e] at e2; cases e2
    · injection e1 with e2; rw [e] at e2; injection e2 with e2; rw [e2]
  · rcases h with ⟨e1, _⟩ | ⟨g, off, cap, e1, _, _, _, hcs⟩
    · injection e1 with e2; rw [e] at e2; cases e2
    · injection e1 with e2; rw [e] at e2; injection e2 with e2; rw [e2, Go.WideShapes.add_plain]; exact hcs j u hj
set_option maxHeartbeats 16000000 in
set_option maxRecDepth 100000 in
theorem rPut_any (B b L : Nat) (G : Gt) (k : Nat) (x : It) (w : World) (h : RgAt B w b L G) (hk : k < G.n) :
    Calls Try.prog 38 #[.pointer (some ⟨b, 0, none⟩), .int .i64 (k : Int), .agg #[.string x.t, .int .i64 (x.n : Int)]] w fun e w' => e = .returned (.int .i64 (G.ch k).psE) ∧ RgAt B w' b L (G.upd k ((G.ch k).ps x)) ∧ Ko rgO B w w' := by
  have KA := Kp.alloc w (.cells #[.string x.t, .int .i64 (x.n : Int)] 73)
  have NB := CBox.new w #[.string x.t, .int .i64 (x.n : Int)] 73
  have hA := h.kp KA
  have c0 := hA.1.lines.1
  have c1 := (hA.1.at hk).2.1
  have z1 := hA.1.froz (k * 4 + 1)
  have hki : (k : Int) < (G.n : Int) := by omega
  have hlq := Ch.lq (h.2.ch k hk)
  by_cases hq : (G.ch k).owed = 0
  · have eE : (G.ch k).psE = 200 := if_pos hq
    have eS : (G.ch k).ps x = G.ch k := if_pos hq
    rw [eE, eS, Gt.upd_self]
    have HH := hide hA
    have HK := hide (Ko.nil (P := rgO) (B := B) KA)
    change (w.alloc (.cells #[.string x.t, .int .i64 (x.n : Int)] 73)).cell? ⟨L, k * 4 + 1, none⟩ = some (.int .i64 ((G.ch k).owed : Int)) at c1
    rw [hq] at c1
    clear h hA eE eS hq hlq z1 KA NB
    generalize G.n = n at *
    go_enter Try.func38, Try.ntmps38
    go_upto_region 1 with fail
    generalize w.alloc (.cells #[.string x.t, .int .i64 (x.n : Int)] 73) = W0 at *
    go_wp2
    go_ret
    exact ⟨rfl, unhide HH, unhide HK⟩
  · have eE : (G.ch k).psE = 0 := if_neg hq
    have eS : (G.ch k).ps x = ⟨(G.ch k).cap, (G.ch k).owed - 1, (G.ch k).q ++ [x], (G.ch k).next⟩ := if_neg hq
    rw [eE]
    change (w.alloc (.cells #[.string x.t, .int .i64 (x.n : Int)] 73)).cell? ⟨L, k * 4 + 1, none⟩ = some (.int .i64 ((G.ch k).owed : Int)) at c1
    obtain ⟨o1, o2⟩ := rg_cell hA.1 hk ⟨(rc (G.ch k)).free, (G.ch k).owed - 1, (G.ch k).q, (G.ch k).next⟩ 1 (by omega) (.int .i64 (((G.ch k).owed : Int) - 1)) rfl (by rw [if_pos rfl]; refine congrArg _ ?_; (try dsimp only); omega) rfl rfl
    have hbx : CBox w.heap.size #[.string x.t, .int .i64 (x.n : Int)] 73 ((w.alloc (.cells #[.string x.t, .int .i64 (x.n : Int)] 73)).setCell ⟨L, k * 4 + 1, none⟩ (.int .i64 (((G.ch k).owed : Int) - 1))) := NB.kp (Kp.set _ L _ _) (by
      obtain ⟨cs, vs, h1, _⟩ := h.1
      have := (Array.getElem?_eq_some_iff.1 h1.lb).1
      simp; omega)
    have HO := hide (show RgE B _ b L G.n G.turn _ ∧ Ko rgO B w _ from ⟨o1, (Ko.nil KA).trans o2⟩)
    have HBX := hide hbx
    have hoi : ¬ ((G.ch k).owed : Int) = 0 := by omega
    have hw : IntKind.i64.wrap (((G.ch k).owed : Int) - 1) = ((G.ch k).owed : Int) - 1 := by simp [IntKind.wrap, IntKind.signed, go_sem]; omega
    have HFI : Hid (∀ V W v, RgE B V b L G.n G.turn (upR (rcs G) k ⟨(rc (G.ch k)).free, (G.ch k).owed - 1, (G.ch k).q, (G.ch k).next⟩) → Ko rgO B w V → Kp [] V W → RqQ W v ((G.ch k).q ++ [x]) → RgAt B (W.setCell ⟨L, k * 4 + 2, none⟩ v) b L (G.upd k ((G.ch k).ps x)) ∧ Ko rgO B w (W.setCell ⟨L, k * 4 + 2, none⟩ v)) := hide (fun V W v e0 k0 k1 hv => by
      obtain ⟨e2, k2⟩ := rg_cell (e0.kp k1) hk ⟨(rc (G.ch k)).free, (G.ch k).owed - 1, (G.ch k).q ++ [x], (G.ch k).next⟩ 2 (by omega) v (by rw [if_neg (by decide), upR_same]) (by rw [if_neg (by decide), upR_same]) (by rw [if_pos rfl]; exact hv) (by rw [if_neg (by decide), upR_same])
      refine ⟨rg_back (c := (G.ch k).ps x) e2 ?_ h.2 (by rw [Ch.ps_sto]; exact (h.2.ch k hk).pt _), (k0.trans (Ko.nil k1)).trans k2⟩
      rw [upR_upR, eS]
      unfold rc
      dsimp only
      rw [List.length_append, List.length_singleton, show (G.ch k).cap - (G.ch k).q.length - (G.ch k).owed = (G.ch k).cap - ((G.ch k).q.length + 1) - ((G.ch k).owed - 1) by omega])
    have HAT : Hid (∀ V, RgE B V b L G.n G.turn (upR (rcs G) k ⟨(rc (G.ch k)).free, (G.ch k).owed - 1, (G.ch k).q, (G.ch k).next⟩) → V.cell? ⟨b, 0, none⟩ = some (.slice (some ⟨L, 0, none⟩) G.n G.n) ∧ V.frozen? ⟨L, k * 4 + 2, none⟩ = false ∧ ∃ v, V.cell? ⟨L, k * 4 + 2, none⟩ = some v ∧ RqQ V v (G.ch k).q) := hide (fun V e => by
      obtain ⟨_, _, _, v, h1, h2⟩ := e.at hk
      rw [upR_same] at h2
      exact ⟨e.lines.1, e.froz _, v, h1, h2⟩)
    have hln : (G.ch k).q.length ≤ 256 := by omega
    clear h hA eE eS hq hlq KA NB o1 o2 hbx
    generalize upR (rcs G) k ⟨(rc (G.ch k)).free, (G.ch k).owed - 1, (G.ch k).q, (G.ch k).next⟩ = R1 at *
    generalize G.upd k ((G.ch k).ps x) = G2 at *
    generalize (G.ch k).q = l at *
    generalize (G.ch k).owed = ow at *
    generalize G.n = n at *
    generalize G.turn = tn at *
    go_enter Try.func38, Try.ntmps38
    go_upto_region 1 with fail
    generalize w.heap.size = gx at *
    generalize w.alloc (.cells #[.string x.t, .int .i64 (x.n : Int)] 73) = W0 at *
    go_upto_region 4 with fail
    clear c0 c1 z1
    obtain ⟨V, hV⟩ : ∃ V, V = (W0.setCell ⟨L, k * 4 + 1, none⟩ (.int .i64 ((ow : Int) - 1))).drew := ⟨_, rfl⟩
    have HV : Hid (RgE B V b L n tn R1 ∧ Ko rgO B w V) := hide (by rw [hV]; exact ⟨(unhide HO).1.kp (Kp.drew _), (unhide HO).2.trans (Ko.nil (Kp.drew _))⟩)
    have NB : Hid (CBox gx #[.string x.t, .int .i64 (x.n : Int)] 73 V) := hide (by rw [hV]; exact (unhide HBX).kp (Kp.drew _) (by simp))
    obtain ⟨b0, f2, v, b2, hrq⟩ := unhide HAT V (unhide HV).1
    obtain ⟨ad, cp, rfl⟩ := hrq.slice
    have F2 : Hid (∀ W, Kp [] V W → W.frozen? ⟨L, k * 4 + 2, none⟩ = false) := hide (fun W k1 => ((unhide HAT W ((unhide HV).1.kp k1)).2.1))
    have HS : Hid (∀ W, Kp [] V W → W.cell? ⟨b, 0, none⟩ = some (.slice (some ⟨L, 0, none⟩) n n) ∧ W.cell? ⟨L, k * 4 + 2, none⟩ = some (.slice ad l.length cp) ∧ W.cell? ⟨gx, 0, none⟩ = some (.string x.t) ∧ W.cell? ⟨gx, 1, none⟩ = some (.int .i64 (x.n : Int))) := hide (fun W k1 => ⟨k1.cell b0 (by simp), k1.cell b2 (by simp), k1.cell ((unhide NB).cell rfl) (by simp), k1.cell ((unhide NB).cell rfl) (by simp)⟩)
    have HRQ := hide hrq
    have a0 := unhide HS V (Kp.refl _ _)
    have K0 : Hid (Kp [] V V) := hide (Kp.refl _ _)
    clear b0 f2 b2 hrq HO HBX HAT
    refine wp_region_late (fun W => W.cell? ⟨b, 0, none⟩ = some (.slice (some ⟨L, 0, none⟩) n n) ∧ W.cell? ⟨L, k * 4 + 2, none⟩ = some (.slice ad l.length cp) ∧ W.cell? ⟨gx, 0, none⟩ = some (.string x.t) ∧ W.cell? ⟨gx, 1, none⟩ = some (.int .i64 (x.n : Int))) 20 (by kernel_rfl) ?_
    rw [← hV]
    clear hV
    show wpAnyL _ _ _ _ _ _ 21 (Array.replicate 21 false) _ _
    refine wpAnyL_take3 (i := 0) (oi := { dst := some 27, op := Op.move (Operand.tmp 0), type := 29, pos := "ref.go:71", after := #[], guard := none }) (v := ?_) rfl (by kernel_rfl) (by kernel_rfl) (by kernel_rfl) (by kernel_rfl) (fun _ _ _ h => h) (Or.inl ⟨by rfl, ?_⟩) a0 ?_
    rotate_left 1
    · intro w0 hSw
      (try dsimp only at hSw)
      go_simp
      (try with_reducible rfl)
    try simp only [Act.put, List.setIfInBounds_toArray, List.set_cons_zero, List.set_cons_succ]
    refine wpAnyL_take3 (i := 1) (oi := { dst := some 28, op := Op.nilCheck (Operand.tmp 27), type := 0, pos := "ref.go:71", after := #[{ on := 0, ground := Ground.data }], guard := none }) (v := ?_) rfl (by kernel_rfl) (by kernel_rfl) (by kernel_rfl) (by kernel_rfl) (fun _ _ _ h => h) (Or.inl ⟨by rfl, ?_⟩) a0 ?_
    rotate_left 1
    · intro w0 hSw
      (try dsimp only at hSw)
      go_simp
      (try with_reducible rfl)
    try simp only [Act.put, List.setIfInBounds_toArray, List.set_cons_zero, List.set_cons_succ]
    refine wpAnyL_take3 (i := 2) (oi := { dst := some 29, op := Op.fieldAddr 64 (Operand.tmp 28) 0, type := 0, pos := "ref.go:71", after := #[{ on := 1, ground := Ground.data }], guard := none }) (v := ?_) rfl (by kernel_rfl) (by kernel_rfl) (by kernel_rfl) (by kernel_rfl) (fun _ _ _ h => h) (Or.inl ⟨by rfl, ?_⟩) a0 ?_
    rotate_left 1
    · intro w0 hSw
      (try dsimp only at hSw)
      go_simp
      (try with_reducible rfl)
    try simp only [Act.put, List.setIfInBounds_toArray, List.set_cons_zero, List.set_cons_succ]
    refine wpAnyL_take3 (i := 3) (oi := { dst := some 30, op := Op.load 62 (Operand.tmp 29), type := 62, pos := "ref.go:71", after := #[{ on := 2, ground := Ground.data }], guard := none }) (v := ?_) rfl (by kernel_rfl) (by kernel_rfl) (by kernel_rfl) (by kernel_rfl) (fun _ _ _ h => h) (Or.inl ⟨by rfl, ?_⟩) a0 ?_
    rotate_left 1
    · intro w0 hSw
      (try dsimp only at hSw)
      go_simp
      (try with_reducible rfl)
    try simp only [Act.put, List.setIfInBounds_toArray, List.set_cons_zero, List.set_cons_succ]
    refine wpAnyL_take3 (i := 4) (oi := { dst := some 31, op := Op.move (Operand.tmp 1), type := 3, pos := "ref.go:71", after := #[], guard := none }) (v := ?_) rfl (by kernel_rfl) (by kernel_rfl) (by kernel_rfl) (by kernel_rfl) (fun _ _ _ h => h) (Or.inl ⟨by rfl, ?_⟩) a0 ?_
    rotate_left 1
    · intro w0 hSw
      (try dsimp only at hSw)
      go_simp
      (try with_reducible rfl)
    try simp only [Act.put, List.setIfInBounds_toArray, List.set_cons_zero, List.set_cons_succ]
    refine wpAnyL_take3 (i := 6) (oi := { dst := some 33, op := Op.move (Operand.tmp 0), type := 29, pos := "ref.go:71", after := #[], guard := none }) (v := ?_) rfl (by kernel_rfl) (by kernel_rfl) (by kernel_rfl) (by kernel_rfl) (fun _ _ _ h => h) (Or.inl ⟨by rfl, ?_⟩) a0 ?_
    rotate_left 1
    · intro w0 hSw
      (try dsimp only at hSw)
      go_simp
      (try with_reducible rfl)
    try simp only [Act.put, List.setIfInBounds_toArray, List.set_cons_zero, List.set_cons_succ]
    refine wpAnyL_take3 (i := 7) (oi := { dst := some 34, op := Op.nilCheck (Operand.tmp 33), type := 0, pos := "ref.go:71", after := #[{ on := 6, ground := Ground.data }], guard := none }) (v := ?_) rfl (by kernel_rfl) (by kernel_rfl) (by kernel_rfl) (by kernel_rfl) (fun _ _ _ h => h) (Or.inl ⟨by rfl, ?_⟩) a0 ?_
    rotate_left 1
    · intro w0 hSw
      (try dsimp only at hSw)
      go_simp
      (try with_reducible rfl)
    try simp only [Act.put, List.setIfInBounds_toArray, List.set_cons_zero, List.set_cons_succ]
    refine wpAnyL_take3 (i := 8) (oi := { dst := some 35, op := Op.fieldAddr 64 (Operand.tmp 34) 0, type := 0, pos := "ref.go:71", after := #[{ on := 7, ground := Ground.data }], guard := none }) (v := ?_) rfl (by kernel_rfl) (by kernel_rfl) (by kernel_rfl) (by kernel_rfl) (fun _ _ _ h => h) (Or.inl ⟨by rfl, ?_⟩) a0 ?_
    rotate_left 1
    · intro w0 hSw
      (try dsimp only at hSw)
      go_simp
      (try with_reducible rfl)
    try simp only [Act.put, List.setIfInBounds_toArray, List.set_cons_zero, List.set_cons_succ]
    refine wpAnyL_take3 (i := 9) (oi := { dst := some 36, op := Op.load 62 (Operand.tmp 35), type := 62, pos := "ref.go:71", after := #[{ on := 8, ground := Ground.data }], guard := none }) (v := ?_) rfl (by kernel_rfl) (by kernel_rfl) (by kernel_rfl) (by kernel_rfl) (fun _ _ _ h => h) (Or.inl ⟨by rfl, ?_⟩) a0 ?_
    rotate_left 1
    · intro w0 hSw
      (try dsimp only at hSw)
      go_simp
      (try with_reducible rfl)
    try simp only [Act.put, List.setIfInBounds_toArray, List.set_cons_zero, List.set_cons_succ]
    refine wpAnyL_take3 (i := 10) (oi := { dst := some 37, op := Op.move (Operand.tmp 1), type := 3, pos := "ref.go:71", after := #[], guard := none }) (v := ?_) rfl (by kernel_rfl) (by kernel_rfl) (by kernel_rfl) (by kernel_rfl) (fun _ _ _ h => h) (Or.inl ⟨by rfl, ?_⟩) a0 ?_
    rotate_left 1
    · intro w0 hSw
      (try dsimp only at hSw)
      go_simp
      (try with_reducible rfl)
    try simp only [Act.put, List.setIfInBounds_toArray, List.set_cons_zero, List.set_cons_succ]
    refine wpAnyL_take3 (i := 11) (oi := { dst := some 38, op := Op.indexAddr 62 (Operand.tmp 36) (Operand.tmp 37), type := 0, pos := "ref.go:71", after := #[{ on := 9, ground := Ground.data }, { on := 10, ground := Ground.data }], guard := none }) (v := ?_) rfl (by kernel_rfl) (by kernel_rfl) (by kernel_rfl) (by kernel_rfl) (fun _ _ _ h => h) (Or.inl ⟨by rfl, ?_⟩) a0 ?_
    rotate_left 1
    · intro w0 hSw
      (try dsimp only at hSw)
      go_simp
      (try with_reducible rfl)
    try simp only [Act.put, List.setIfInBounds_toArray, List.set_cons_zero, List.set_cons_succ]
    refine wpAnyL_take3 (i := 12) (oi := { dst := some 39, op := Op.fieldAddr 67 (Operand.tmp 38) 2, type := 0, pos := "ref.go:71", after := #[{ on := 11, ground := Ground.data }], guard := none }) (v := ?_) rfl (by kernel_rfl) (by kernel_rfl) (by kernel_rfl) (by kernel_rfl) (fun _ _ _ h => h) (Or.inl ⟨by rfl, ?_⟩) a0 ?_
    rotate_left 1
    · intro w0 hSw
      (try dsimp only at hSw)
      go_simp
      (try with_reducible rfl)
    try simp only [Act.put, List.setIfInBounds_toArray, List.set_cons_zero, List.set_cons_succ]
    refine wpAnyL_take3 (i := 13) (oi := { dst := some 40, op := Op.load 65 (Operand.tmp 39), type := 65, pos := "ref.go:71", after := #[{ on := 12, ground := Ground.data }], guard := none }) (v := ?_) rfl (by kernel_rfl) (by kernel_rfl) (by kernel_rfl) (by kernel_rfl) (fun _ _ _ h => h) (Or.inl ⟨by rfl, ?_⟩) a0 ?_
    rotate_left 1
    · intro w0 hSw
      (try dsimp only at hSw)
      go_simp
      (try with_reducible rfl)
    try simp only [Act.put, List.setIfInBounds_toArray, List.set_cons_zero, List.set_cons_succ]
    refine wpAnyL_take3 (i := 15) (oi := { dst := some 42, op := Op.load 73 (Operand.tmp 5), type := 73, pos := "ref.go:71", after := #[], guard := none }) (v := ?_) rfl (by kernel_rfl) (by kernel_rfl) (by kernel_rfl) (by kernel_rfl) (fun _ _ _ h => h) (Or.inl ⟨by rfl, ?_⟩) a0 ?_
    rotate_left 1
    · intro w0 hSw
      (try dsimp only at hSw)
      go_simp
      (try with_reducible rfl)
    try simp only [Act.put, List.setIfInBounds_toArray, List.set_cons_zero, List.set_cons_succ]
    refine wpAnyL_two (i := 5) (j := 16) (o := { dst := some 32, op := Op.buildSlice 65 0 #[], type := 65, pos := "ref.go:71", after := #[], guard := none }) (o' := { dst := some 43, op := Op.buildSlice 65 1 #[(0, Operand.tmp 42)], type := 65, pos := "ref.go:71", after := #[{ on := 15, ground := Ground.data }], guard := none }) rfl rfl (by kernel_rfl) (fun K hK => ?_) (fun K hK => ?_)
    · go_simp
      have kN1 : Kp [] V (V.alloc (.cells #[] 73)) := (unhide K0).trans (Kp.alloc _ _) (by simp)
      have RE1 := hide (rqn_new V)
      have GE1 : Hid (GeW V V.heap.size) := hide (unhide K0).size
      have A1 := unhide HS _ kN1
      have K1 := hide kN1
      clear kN1
      refine hK _ _ (Or.inr A1) ?_
      clear hK K
      try simp only [Act.put, List.setIfInBounds_toArray, List.set_cons_zero, List.set_cons_succ]
      generalize V.alloc (.cells #[] 73) = W1_ at *
      generalize V.heap.size = ge1 at *
      refine wpAnyL_two (i := 14) (j := 16) (o := { dst := some 41, op := Op.call { callee := Callee.builtin Builtin.append, args := #[Operand.tmp 32, Operand.tmp 40], argTypes := #[65, 65] }, type := 65, pos := "ref.go:71", after := #[{ on := 5, ground := Ground.data }, { on := 13, ground := Ground.data }], guard := none }) (o' := { dst := some 43, op := Op.buildSlice 65 1 #[(0, Operand.tmp 42)], type := 65, pos := "ref.go:71", after := #[{ on := 15, ground := Ground.data }], guard := none }) rfl rfl (by kernel_rfl) (fun K hK => ?_) (fun K hK => ?_)
      · obtain ⟨g3, cap3, W2_, run2, r3, hg3, k3, kg3⟩ := rqn_row (ad := ad) (cp := cp) (l := l) (unhide RE1) (unhide GE1) (unhide K1) (by omega) (rq_src ((unhide HRQ).kp (unhide K1))).1 (rq_src ((unhide HRQ).kp (unhide K1))).2.1 (rq_src ((unhide HRQ).kp (unhide K1))).2.2 65
        have R32 := hide r3
        have G3 := hide hg3
        have A2 := unhide HS _ k3
        have K2 := hide k3
        clear r3 hg3 k3 kg3
        refine step_app_run rfl _ _ 65 rfl rfl rfl run2 ?_
        refine hK _ _ (Or.inr A2) ?_
        clear hK K run2
        try simp only [Act.put, List.setIfInBounds_toArray, List.set_cons_zero, List.set_cons_succ]
        refine wpAnyL_one (i := 16) (o := { dst := some 43, op := Op.buildSlice 65 1 #[(0, Operand.tmp 42)], type := 65, pos := "ref.go:71", after := #[{ on := 15, ground := Ground.data }], guard := none }) rfl (by kernel_rfl) (fun K hK => ?_)
        go_simp
        have kN3 : Kp [] V (W2_.alloc (.cells #[.string x.t, .int .i64 (x.n : Int)] 73)) := (unhide K2).trans (Kp.alloc _ _) (by simp)
        have NY3 := hide (CBox.new W2_ #[.string x.t, .int .i64 (x.n : Int)] 73)
        have R33 := hide (rqn_kp (unhide R32) (Kp.alloc W2_ (.cells #[.string x.t, .int .i64 (x.n : Int)] 73)))
        have A3 := unhide HS _ kN3
        have K3 := hide kN3
        clear kN3
        refine hK _ _ (Or.inr A3) ?_
        clear hK K
        try simp only [Act.put, List.setIfInBounds_toArray, List.set_cons_zero, List.set_cons_succ]
        generalize W2_.alloc (.cells #[.string x.t, .int .i64 (x.n : Int)] 73) = W3_ at *
        generalize W2_.heap.size = gy3 at *
        refine wpAnyL_one (i := 17) (o := { dst := some 44, op := Op.call { callee := Callee.builtin Builtin.append, args := #[Operand.tmp 41, Operand.tmp 43], argTypes := #[65, 65] }, type := 65, pos := "ref.go:71", after := #[{ on := 14, ground := Ground.data }, { on := 16, ground := Ground.data }, { on := 14, ground := Ground.chain }], guard := none }) rfl (by kernel_rfl) (fun K hK => ?_)
        obtain ⟨g5, cap5, W4_, run4, r5, k5⟩ := rqn_item (x := x) (unhide R33) rfl (unhide G3) (unhide K3) (by omega) (unhide NY3) 65
        have A4 := unhide HS _ k5
        have f5 := unhide F2 _ k5
        have FN := hide (unhide HFI V W4_ _ (unhide HV).1 (unhide HV).2 k5 r5)
        have K4 := hide k5
        clear r5 k5
        refine step_app_run rfl _ _ 65 rfl rfl rfl run4 ?_
        refine hK _ _ (Or.inr A4) ?_
        clear hK K run4
        try simp only [Act.put, List.setIfInBounds_toArray, List.set_cons_zero, List.set_cons_succ]
        refine wpAnyL_one (i := 18) (o := { dst := some 45, op := Op.indexAddr 62 (Operand.tmp 30) (Operand.tmp 31), type := 0, pos := "ref.go:71", after := #[{ on := 3, ground := Ground.data }, { on := 4, ground := Ground.data }, { on := 0, ground := Ground.phase }, { on := 1, ground := Ground.phase }, { on := 2, ground := Ground.phase }, { on := 3, ground := Ground.phase }, { on := 4, ground := Ground.phase }, { on := 5, ground := Ground.phase }, { on := 6, ground := Ground.phase }, { on := 7, ground := Ground.phase }, { on := 8, ground := Ground.phase }, { on := 9, ground := Ground.phase }, { on := 10, ground := Ground.phase }, { on := 11, ground := Ground.phase }, { on := 12, ground := Ground.phase }, { on := 13, ground := Ground.phase }, { on := 14, ground := Ground.phase }, { on := 15, ground := Ground.phase }, { on := 16, ground := Ground.phase }, { on := 17, ground := Ground.phase }], guard := none }) rfl (by kernel_rfl) (fun K hK => ?_)
        go_simp
        refine hK _ _ (Or.inr A4) ?_
        clear hK K
        try simp only [Act.put, List.setIfInBounds_toArray, List.set_cons_zero, List.set_cons_succ]
        refine wpAnyL_one (i := 19) (o := { dst := some 46, op := Op.fieldAddr 67 (Operand.tmp 45) 2, type := 0, pos := "ref.go:71", after := #[{ on := 18, ground := Ground.data }, { on := 0, ground := Ground.phase }, { on := 1, ground := Ground.phase }, { on := 2, ground := Ground.phase }, { on := 3, ground := Ground.phase }, { on := 4, ground := Ground.phase }, { on := 5, ground := Ground.phase }, { on := 6, ground := Ground.phase }, { on := 7, ground := Ground.phase }, { on := 8, ground := Ground.phase }, { on := 9, ground := Ground.phase }, { on := 10, ground := Ground.phase }, { on := 11, ground := Ground.phase }, { on := 12, ground := Ground.phase }, { on := 13, ground := Ground.phase }, { on := 14, ground := Ground.phase }, { on := 15, ground := Ground.phase }, { on := 16, ground := Ground.phase }, { on := 17, ground := Ground.phase }], guard := none }) rfl (by kernel_rfl) (fun K hK => ?_)
        go_simp
        refine hK _ _ (Or.inr A4) ?_
        clear hK K
        try simp only [Act.put, List.setIfInBounds_toArray, List.set_cons_zero, List.set_cons_succ]
        refine wpAnyL_one (i := 20) (o := { dst := none, op := Op.store 65 (Operand.tmp 46) (Operand.tmp 44), type := 0, pos := "ref.go:71", after := #[{ on := 19, ground := Ground.data }, { on := 17, ground := Ground.data }, { on := 17, ground := Ground.chain }, { on := 0, ground := Ground.phase }, { on := 1, ground := Ground.phase }, { on := 2, ground := Ground.phase }, { on := 3, ground := Ground.phase }, { on := 4, ground := Ground.phase }, { on := 5, ground := Ground.phase }, { on := 6, ground := Ground.phase }, { on := 7, ground := Ground.phase }, { on := 8, ground := Ground.phase }, { on := 9, ground := Ground.phase }, { on := 10, ground := Ground.phase }, { on := 11, ground := Ground.phase }, { on := 12, ground := Ground.phase }, { on := 13, ground := Ground.phase }, { on := 14, ground := Ground.phase }, { on := 15, ground := Ground.phase }, { on := 16, ground := Ground.phase }, { on := 17, ground := Ground.phase }], guard := none }) rfl (by kernel_rfl) (fun K hK => ?_)
        go_simp
        refine hK _ _ (Or.inl rfl) ?_
        clear hK K
        try simp only [Act.put, List.setIfInBounds_toArray, List.set_cons_zero, List.set_cons_succ]
        refine wpAnyL_done (by kernel_rfl) ?_ _
        go_wp2
        go_ret
        exact ⟨rfl, unhide FN⟩
      · go_simp
        have kN6 : Kp [] V (W1_.alloc (.cells #[.string x.t, .int .i64 (x.n : Int)] 73)) := (unhide K1).trans (Kp.alloc _ _) (by simp)
        have NY6 := hide (CBox.new W1_ #[.string x.t, .int .i64 (x.n : Int)] 73)
        have NE : Hid (W1_.heap.size ≠ ge1) := hide (by have := rqn_lt (unhide RE1); omega)
        have RE6 := hide (rqn_kp (unhide RE1) (Kp.alloc W1_ (.cells #[.string x.t, .int .i64 (x.n : Int)] 73)))
        have A6 := unhide HS _ kN6
        have K6 := hide kN6
        clear kN6
        refine hK _ _ (Or.inr A6) ?_
        clear hK K
        try simp only [Act.put, List.setIfInBounds_toArray, List.set_cons_zero, List.set_cons_succ]
        generalize W1_.alloc (.cells #[.string x.t, .int .i64 (x.n : Int)] 73) = W6_ at *
        generalize W1_.heap.size = gy6 at *
        refine wpAnyL_one (i := 14) (o := { dst := some 41, op := Op.call { callee := Callee.builtin Builtin.append, args := #[Operand.tmp 32, Operand.tmp 40], argTypes := #[65, 65] }, type := 65, pos := "ref.go:71", after := #[{ on := 5, ground := Ground.data }, { on := 13, ground := Ground.data }], guard := none }) rfl (by kernel_rfl) (fun K hK => ?_)
        obtain ⟨g3, cap3, W7_, run7, r3, hg3, k3, kg3⟩ := rqn_row (ad := ad) (cp := cp) (l := l) (unhide RE6) (unhide GE1) (unhide K6) (by omega) (rq_src ((unhide HRQ).kp (unhide K6))).1 (rq_src ((unhide HRQ).kp (unhide K6))).2.1 (rq_src ((unhide HRQ).kp (unhide K6))).2.2 65
        have R37 := hide r3
        have G3 := hide hg3
        have A7 := unhide HS _ k3
        have K7 := hide k3
        have NY7 : Hid (CBox gy6 #[.string x.t, .int .i64 (x.n : Int)] 73 W7_) := hide ((unhide NY6).kp kg3 (by simpa using unhide NE))
        clear r3 hg3 k3 kg3
        refine step_app_run rfl _ _ 65 rfl rfl rfl run7 ?_
        refine hK _ _ (Or.inr A7) ?_
        clear hK K run7
        try simp only [Act.put, List.setIfInBounds_toArray, List.set_cons_zero, List.set_cons_succ]
        refine wpAnyL_one (i := 17) (o := { dst := some 44, op := Op.call { callee := Callee.builtin Builtin.append, args := #[Operand.tmp 41, Operand.tmp 43], argTypes := #[65, 65] }, type := 65, pos := "ref.go:71", after := #[{ on := 14, ground := Ground.data }, { on := 16, ground := Ground.data }, { on := 14, ground := Ground.chain }], guard := none }) rfl (by kernel_rfl) (fun K hK => ?_)
        obtain ⟨g5, cap5, W8_, run8, r5, k5⟩ := rqn_item (x := x) (unhide R37) rfl (unhide G3) (unhide K7) (by omega) (unhide NY7) 65
        have A8 := unhide HS _ k5
        have f5 := unhide F2 _ k5
        have FN := hide (unhide HFI V W8_ _ (unhide HV).1 (unhide HV).2 k5 r5)
        have K8 := hide k5
        clear r5 k5
        refine step_app_run rfl _ _ 65 rfl rfl rfl run8 ?_
        refine hK _ _ (Or.inr A8) ?_
        clear hK K run8
        try simp only [Act.put, List.setIfInBounds_toArray, List.set_cons_zero, List.set_cons_succ]
        refine wpAnyL_one (i := 18) (o := { dst := some 45, op := Op.indexAddr 62 (Operand.tmp 30) (Operand.tmp 31), type := 0, pos := "ref.go:71", after := #[{ on := 3, ground := Ground.data }, { on := 4, ground := Ground.data }, { on := 0, ground := Ground.phase }, { on := 1, ground := Ground.phase }, { on := 2, ground := Ground.phase }, { on := 3, ground := Ground.phase }, { on := 4, ground := Ground.phase }, { on := 5, ground := Ground.phase }, { on := 6, ground := Ground.phase }, { on := 7, ground := Ground.phase }, { on := 8, ground := Ground.phase }, { on := 9, ground := Ground.phase }, { on := 10, ground := Ground.phase }, { on := 11, ground := Ground.phase }, { on := 12, ground := Ground.phase }, { on := 13, ground := Ground.phase }, { on := 14, ground := Ground.phase }, { on := 15, ground := Ground.phase }, { on := 16, ground := Ground.phase }, { on := 17, ground := Ground.phase }], guard := none }) rfl (by kernel_rfl) (fun K hK => ?_)
        go_simp
        refine hK _ _ (Or.inr A8) ?_
        clear hK K
        try simp only [Act.put, List.setIfInBounds_toArray, List.set_cons_zero, List.set_cons_succ]
        refine wpAnyL_one (i := 19) (o := { dst := some 46, op := Op.fieldAddr 67 (Operand.tmp 45) 2, type := 0, pos := "ref.go:71", after := #[{ on := 18, ground := Ground.data }, { on := 0, ground := Ground.phase }, { on := 1, ground := Ground.phase }, { on := 2, ground := Ground.phase }, { on := 3, ground := Ground.phase }, { on := 4, ground := Ground.phase }, { on := 5, ground := Ground.phase }, { on := 6, ground := Ground.phase }, { on := 7, ground := Ground.phase }, { on := 8, ground := Ground.phase }, { on := 9, ground := Ground.phase }, { on := 10, ground := Ground.phase }, { on := 11, ground := Ground.phase }, { on := 12, ground := Ground.phase }, { on := 13, ground := Ground.phase }, { on := 14, ground := Ground.phase }, { on := 15, ground := Ground.phase }, { on := 16, ground := Ground.phase }, { on := 17, ground := Ground.phase }], guard := none }) rfl (by kernel_rfl) (fun K hK => ?_)
        go_simp
        refine hK _ _ (Or.inr A8) ?_
        clear hK K
        try simp only [Act.put, List.setIfInBounds_toArray, List.set_cons_zero, List.set_cons_succ]
        refine wpAnyL_one (i := 20) (o := { dst := none, op := Op.store 65 (Operand.tmp 46) (Operand.tmp 44), type := 0, pos := "ref.go:71", after := #[{ on := 19, ground := Ground.data }, { on := 17, ground := Ground.data }, { on := 17, ground := Ground.chain }, { on := 0, ground := Ground.phase }, { on := 1, ground := Ground.phase }, { on := 2, ground := Ground.phase }, { on := 3, ground := Ground.phase }, { on := 4, ground := Ground.phase }, { on := 5, ground := Ground.phase }, { on := 6, ground := Ground.phase }, { on := 7, ground := Ground.phase }, { on := 8, ground := Ground.phase }, { on := 9, ground := Ground.phase }, { on := 10, ground := Ground.phase }, { on := 11, ground := Ground.phase }, { on := 12, ground := Ground.phase }, { on := 13, ground := Ground.phase }, { on := 14, ground := Ground.phase }, { on := 15, ground := Ground.phase }, { on := 16, ground := Ground.phase }, { on := 17, ground := Ground.phase }], guard := none }) rfl (by kernel_rfl) (fun K hK => ?_)
        go_simp
        refine hK _ _ (Or.inl rfl) ?_
        clear hK K
        try simp only [Act.put, List.setIfInBounds_toArray, List.set_cons_zero, List.set_cons_succ]
        refine wpAnyL_done (by kernel_rfl) ?_ _
        go_wp2
        go_ret
        exact ⟨rfl, unhide FN⟩
    · go_simp
      have kN10 : Kp [] V (V.alloc (.cells #[.string x.t, .int .i64 (x.n : Int)] 73)) := (unhide K0).trans (Kp.alloc _ _) (by simp)
      have NY10 := hide (CBox.new V #[.string x.t, .int .i64 (x.n : Int)] 73)
      have A10 := unhide HS _ kN10
      have K10 := hide kN10
      clear kN10
      refine hK _ _ (Or.inr A10) ?_
      clear hK K
      try simp only [Act.put, List.setIfInBounds_toArray, List.set_cons_zero, List.set_cons_succ]
      generalize V.alloc (.cells #[.string x.t, .int .i64 (x.n : Int)] 73) = W10_ at *
      generalize V.heap.size = gy10 at *
      refine wpAnyL_one (i := 5) (o := { dst := some 32, op := Op.buildSlice 65 0 #[], type := 65, pos := "ref.go:71", after := #[], guard := none }) rfl (by kernel_rfl) (fun K hK => ?_)
      go_simp
      have kN11 : Kp [] V (W10_.alloc (.cells #[] 73)) := (unhide K10).trans (Kp.alloc _ _) (by simp)
      have RE11 := hide (rqn_new W10_)
      have GE11 : Hid (GeW V W10_.heap.size) := hide (unhide K10).size
      have NE : Hid (gy10 ≠ W10_.heap.size) := hide (by have := (Array.getElem?_eq_some_iff.1 (unhide NY10)).1; omega)
      have NY11 : Hid (CBox gy10 #[.string x.t, .int .i64 (x.n : Int)] 73 (W10_.alloc (.cells #[] 73))) := hide ((unhide NY10).kp (Kp.alloc _ _) (by simp))
      have A11 := unhide HS _ kN11
      have K11 := hide kN11
      clear kN11
      refine hK _ _ (Or.inr A11) ?_
      clear hK K
      try simp only [Act.put, List.setIfInBounds_toArray, List.set_cons_zero, List.set_cons_succ]
      generalize W10_.alloc (.cells #[] 73) = W11_ at *
      generalize W10_.heap.size = ge11 at *
      refine wpAnyL_one (i := 14) (o := { dst := some 41, op := Op.call { callee := Callee.builtin Builtin.append, args := #[Operand.tmp 32, Operand.tmp 40], argTypes := #[65, 65] }, type := 65, pos := "ref.go:71", after := #[{ on := 5, ground := Ground.data }, { on := 13, ground := Ground.data }], guard := none }) rfl (by kernel_rfl) (fun K hK => ?_)
      obtain ⟨g3, cap3, W12_, run12, r3, hg3, k3, kg3⟩ := rqn_row (ad := ad) (cp := cp) (l := l) (unhide RE11) (unhide GE11) (unhide K11) (by omega) (rq_src ((unhide HRQ).kp (unhide K11))).1 (rq_src ((unhide HRQ).kp (unhide K11))).2.1 (rq_src ((unhide HRQ).kp (unhide K11))).2.2 65
      have R312 := hide r3
      have G3 := hide hg3
      have A12 := unhide HS _ k3
      have K12 := hide k3
      have NY12 : Hid (CBox gy10 #[.string x.t, .int .i64 (x.n : Int)] 73 W12_) := hide ((unhide NY11).kp kg3 (by simpa using unhide NE))
      clear r3 hg3 k3 kg3
      refine step_app_run rfl _ _ 65 rfl rfl rfl run12 ?_
      refine hK _ _ (Or.inr A12) ?_
      clear hK K run12
      try simp only [Act.put, List.setIfInBounds_toArray, List.set_cons_zero, List.set_cons_succ]
      refine wpAnyL_one (i := 17) (o := { dst := some 44, op := Op.call { callee := Callee.builtin Builtin.append, args := #[Operand.tmp 41, Operand.tmp 43], argTypes := #[65, 65] }, type := 65, pos := "ref.go:71", after := #[{ on := 14, ground := Ground.data }, { on := 16, ground := Ground.data }, { on := 14, ground := Ground.chain }], guard := none }) rfl (by kernel_rfl) (fun K hK => ?_)
      obtain ⟨g5, cap5, W13_, run13, r5, k5⟩ := rqn_item (x := x) (unhide R312) rfl (unhide G3) (unhide K12) (by omega) (unhide NY12) 65
      have A13 := unhide HS _ k5
      have f5 := unhide F2 _ k5
      have FN := hide (unhide HFI V W13_ _ (unhide HV).1 (unhide HV).2 k5 r5)
      have K13 := hide k5
      clear r5 k5
      refine step_app_run rfl _ _ 65 rfl rfl rfl run13 ?_
      refine hK _ _ (Or.inr A13) ?_
      clear hK K run13
      try simp only [Act.put, List.setIfInBounds_toArray, List.set_cons_zero, List.set_cons_succ]
      refine wpAnyL_one (i := 18) (o := { dst := some 45, op := Op.indexAddr 62 (Operand.tmp 30) (Operand.tmp 31), type := 0, pos := "ref.go:71", after := #[{ on := 3, ground := Ground.data }, { on := 4, ground := Ground.data }, { on := 0, ground := Ground.phase }, { on := 1, ground := Ground.phase }, { on := 2, ground := Ground.phase }, { on := 3, ground := Ground.phase }, { on := 4, ground := Ground.phase }, { on := 5, ground := Ground.phase }, { on := 6, ground := Ground.phase }, { on := 7, ground := Ground.phase }, { on := 8, ground := Ground.phase }, { on := 9, ground := Ground.phase }, { on := 10, ground := Ground.phase }, { on := 11, ground := Ground.phase }, { on := 12, ground := Ground.phase }, { on := 13, ground := Ground.phase }, { on := 14, ground := Ground.phase }, { on := 15, ground := Ground.phase }, { on := 16, ground := Ground.phase }, { on := 17, ground := Ground.phase }], guard := none }) rfl (by kernel_rfl) (fun K hK => ?_)
      go_simp
      refine hK _ _ (Or.inr A13) ?_
      clear hK K
      try simp only [Act.put, List.setIfInBounds_toArray, List.set_cons_zero, List.set_cons_succ]
      refine wpAnyL_one (i := 19) (o := { dst := some 46, op := Op.fieldAddr 67 (Operand.tmp 45) 2, type := 0, pos := "ref.go:71", after := #[{ on := 18, ground := Ground.data }, { on := 0, ground := Ground.phase }, { on := 1, ground := Ground.phase }, { on := 2, ground := Ground.phase }, { on := 3, ground := Ground.phase }, { on := 4, ground := Ground.phase }, { on := 5, ground := Ground.phase }, { on := 6, ground := Ground.phase }, { on := 7, ground := Ground.phase }, { on := 8, ground := Ground.phase }, { on := 9, ground := Ground.phase }, { on := 10, ground := Ground.phase }, { on := 11, ground := Ground.phase }, { on := 12, ground := Ground.phase }, { on := 13, ground := Ground.phase }, { on := 14, ground := Ground.phase }, { on := 15, ground := Ground.phase }, { on := 16, ground := Ground.phase }, { on := 17, ground := Ground.phase }], guard := none }) rfl (by kernel_rfl) (fun K hK => ?_)
      go_simp
      refine hK _ _ (Or.inr A13) ?_
      clear hK K
      try simp only [Act.put, List.setIfInBounds_toArray, List.set_cons_zero, List.set_cons_succ]
      refine wpAnyL_one (i := 20) (o := { dst := none, op := Op.store 65 (Operand.tmp 46) (Operand.tmp 44), type := 0, pos := "ref.go:71", after := #[{ on := 19, ground := Ground.data }, { on := 17, ground := Ground.data }, { on := 17, ground := Ground.chain }, { on := 0, ground := Ground.phase }, { on := 1, ground := Ground.phase }, { on := 2, ground := Ground.phase }, { on := 3, ground := Ground.phase }, { on := 4, ground := Ground.phase }, { on := 5, ground := Ground.phase }, { on := 6, ground := Ground.phase }, { on := 7, ground := Ground.phase }, { on := 8, ground := Ground.phase }, { on := 9, ground := Ground.phase }, { on := 10, ground := Ground.phase }, { on := 11, ground := Ground.phase }, { on := 12, ground := Ground.phase }, { on := 13, ground := Ground.phase }, { on := 14, ground := Ground.phase }, { on := 15, ground := Ground.phase }, { on := 16, ground := Ground.phase }, { on := 17, ground := Ground.phase }], guard := none }) rfl (by kernel_rfl) (fun K hK => ?_)
      go_simp
      refine hK _ _ (Or.inl rfl) ?_
      clear hK K
      try simp only [Act.put, List.setIfInBounds_toArray, List.set_cons_zero, List.set_cons_succ]
      refine wpAnyL_done (by kernel_rfl) ?_ _
      go_wp2
      go_ret
      exact ⟨rfl, unhide FN⟩

end Go.Proofs.Ytcgmoadahdkbbaa
