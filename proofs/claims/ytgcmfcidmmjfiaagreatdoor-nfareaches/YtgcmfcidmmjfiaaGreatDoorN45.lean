/-
  How a pattern is written: its tokens, plainly; tokens put at a row's end; the tokens of a condition.
  The tokens of a stage.
-/
import Derived.Test.YtgcmfcidmmjfiaaGreatDoorN31
import Derived.Test.YtgcmfcidmmjfiaaGreatDoorN35
import Derived.Test.YtgcmfcidmmjfiaaGreatDoorN44
namespace Go.Proofs.YtgcmfcidmmjfiaaGreatDoor
open Go.RowKit Go.Shelf

/-- The tokens of a condition. -/
def cdT (x : List Pt) : List Tk := match tsR (wrS x) with
  | .good ts => ts
  | .bad _ _ => []
theorem cdT_is {x : List Pt} (h : ckK x ≠ 0) (hok : ∀ p ∈ x, p.ok) : ∃ t : Ex, t.wf ∧ t.fine ∧ x = t.flat ∧ t.dn ≤ 32 ∧ tsR (wrS x) = .good (cdT x) ∧ (cdT x).map (Tk.out · 0) = t.bod.map (Tk.out · 0) ∧ (cdT x).length ≤ 1000 ∧ cdT x ≠ [] := by
  obtain ⟨t, h1, h2, h3, h4, h5, h6⟩ := ckK_leaves h
  have hfd : fdX wrv x = some (t.val wrv) := by rw [h3]; exact fdX_flat wrv t h1
  have hlv := t.fine_leaves h2
  have hnk : ∀ q ∈ t.flat, q.nk := fun q hq => (hok q (by rw [h3]; exact hq)).2.1.2
  have hlen := t.wr_len h1 hlv hnk
  have hw : wrS x = txt t.wr := by unfold wrS; rw [if_neg h, hfd]; rfl
  obtain ⟨b1, b2⟩ := t.bod_wr h2 hnk
  rw [← h3] at hlen b2
  obtain ⟨ts, g1, g2⟩ := toks_join t.bod 0 b1 (by omega)
  have hsz : (txt t.wr).size = t.wr.length := txt_size _
  have ht : tsR (wrS x) = .good ts := by
    rw [hw]
    unfold tsR
    rw [if_neg (by rw [hsz]; unfold Ex.wr; omega), txt_list, t.wr_tok]
    exact g1
  have hc : cdT x = ts := by unfold cdT; rw [ht]
  have hl : ts.length = t.bod.length := by
    have := congrArg List.length g2
    simpa using this
  refine ⟨t, h1, h2, h3, h4, by rw [hc]; exact ht, by rw [hc]; exact g2, by rw [hc]; omega, ?_⟩
  rw [hc]
  intro e
  rw [e] at hl
  have := t.bod_ne
  exact this (List.eq_nil_of_length_eq_zero (by simpa using hl.symm))
def hwW (h : Int) : List UInt8 := if h = 0 then [115, 116, 97, 114, 116] else if h = 1 then [110, 101, 120, 116] else if h = 2 then [116, 104, 101, 110] else [97, 110, 121]
def wdK (s : ByteArray) : Tk := ⟨1, s, 0, 0⟩
def sgK (s : ByteArray) : Tk := ⟨4, s, 0, 0⟩
/-- A stage's tokens. -/
def stK (s : Stg) : List Tk := [wdK (txt (hwW s.hw)), wdK s.nm] ++ ((if s.mn then [sgK (txt [43])] else []) ++ ([sgK (txt [58])] ++ (cdT s.cd ++ [sgK (txt [59])])))
/-- A pattern's tokens. -/
def ptK (p : Ptn) : List Tk := p.ss.flatMap stK ++ [wdK (txt witW), ⟨2, ⟨#[]⟩, p.wi, 0⟩]
/-- What Write tells. -/
def wrP (p : Ptn) : ByteArray × Int := if (pcR p).2 = 0 then (txt (joR (ptK p)).1, (joR (ptK p)).2) else (⟨#[]⟩, (pcR p).2)
/-! Tokens put at a row's end. -/
def tkE (t : Tk) : List Value := [.int .i64 t.kd, .string t.s, .int .i64 t.n, .int .i64 t.pl]
theorem tkE_len (t : Tk) : (tkE t).length = 4 := rfl
theorem tkC_e (l : List Tk) : tkC l = l.flatMap tkE := rfl
theorem tkC_one (l : List Tk) : ∀ v ∈ tkC l, v.oneCell' = true := by
  intro v hv
  obtain ⟨r, _, h⟩ := List.mem_flatMap.1 hv
  simp only [List.mem_cons, List.not_mem_nil, or_false] at h
  rcases h with rfl | rfl | rfl | rfl <;> rfl
theorem tks_cells {w : World} {b off : Nat} {x : List Tk} (h : TksAt w (some ⟨b, off, none⟩) x) : ∀ j u, (tkC x)[j]? = some u → w.cell? ((⟨b, off, none⟩ : Addr).add j) = some u := by
  intro j u hj
  have hl := flat_len tkE 4 tkE_len x
  have hjl : j < x.length * 4 := by
    rw [← hl]
    exact (List.getElem?_eq_some_iff.1 hj).1
  have h4 := flat_at tkE 4 tkE_len x (j / 4) (j % 4) (by omega) (by omega)
  rw [show j / 4 * 4 + j % 4 = j by omega] at h4
  rw [tkC_e, h4] at hj
  obtain ⟨b', off', e, _, c0, c1, c2, c3⟩ := h.at (j / 4) (by omega)
  cases e
  have ea : (⟨b, off, none⟩ : Addr).add j = ⟨b, off + j / 4 * 4 + j % 4, none⟩ := by rw [Go.WideShapes.add_plain]; congr 1; omega
  rw [ea]
  rcases (show j % 4 = 0 ∨ j % 4 = 1 ∨ j % 4 = 2 ∨ j % 4 = 3 by omega) with e | e | e | e
  all_goals
    rw [e] at hj ⊢
    cases hj
    assumption
theorem OwnsK.app {B : Nat} {w : World} {v : Value} {l : List Tk} (ho : OwnsK B w v l) (hB : B ≤ w.heap.size) {b off c : Nat} {x : List Tk} (hx : TksAt w (some ⟨b, off, none⟩) x) (hm : 0 < x.length) (hl : l.length + x.length ≤ 1000000) (ty : TypeId) :
    ∃ g' cap w', (Builtin.append_ #[72, 72] ty #[v, .slice (some ⟨b, off, none⟩) x.length c]).run Tryz.prog w = .ok (.slice (some ⟨g', 0, none⟩) (l.length + x.length) cap) w' ∧ OwnsK B w' (.slice (some ⟨g', 0, none⟩) (l.length + x.length) cap) (l ++ x) ∧ Below B w w' := by
  obtain ⟨i0, hi, hz0, hz1, hz2⟩ := info_parts info_Tk
  obtain ⟨g', cap, w', hrun, r1, r2, _⟩ := run_append_lies (P := Tryz.prog) (w := w) 72 ty B 75 i0 (.agg #[.int .i64 0, .string ⟨#[]⟩, .int .i64 0, .int .i64 0]) 4 40 Tryz.underlying72 hi hz0 hz1 hz2 rfl (by decide) v l.length (tkC l) ho ⟨b, off, none⟩ x.length c (tkC x) (by rw [tkC_e]; exact flat_len tkE 4 tkE_len x) (tks_cells hx) (tkC_one x) hm (by unfold maxLen; omega) (by omega) hB _ rfl
  refine ⟨g', cap, w', hrun, ?_, (Kp.of r2).below hB (fun k hk => ?_)⟩
  · unfold OwnsK
    rw [List.length_append, tkC_append]
    exact r1
  · have : v.ownBlock = some k := by simpa using hk
    exact (World.ownsRow.lt ho k this).1
theorem OwnsK.kp {B : Nat} {w w' : World} {v : Value} {l : List Tk} (h : OwnsK B w v l) (hk : Kp [] w w') : OwnsK B w' v l := row_kp h hk (by simp)
theorem tks1 {w : World} {g : Nat} {t : Tk} {ty : TypeId} (h : CBox g #[.int .i64 t.kd, .string t.s, .int .i64 t.n, .int .i64 t.pl] ty w) : TksAt w (some ⟨g, 0, none⟩) [t] := fun _ => ⟨g, 0, rfl, (Array.getElem?_eq_some_iff.1 h).1, fun i hi => by
  obtain rfl : i = 0 := by simp at hi; omega
  exact ⟨h.cell rfl, h.cell rfl, h.cell rfl, h.cell rfl⟩⟩
theorem tks2 {w : World} {g : Nat} {t u : Tk} {ty : TypeId} (h : CBox g #[.int .i64 t.kd, .string t.s, .int .i64 t.n, .int .i64 t.pl, .int .i64 u.kd, .string u.s, .int .i64 u.n, .int .i64 u.pl] ty w) : TksAt w (some ⟨g, 0, none⟩) [t, u] := fun _ => ⟨g, 0, rfl, (Array.getElem?_eq_some_iff.1 h).1, fun i hi => by
  have : i = 0 ∨ i = 1 := by simp at hi; omega
  rcases this with rfl | rfl
  · exact ⟨h.cell rfl, h.cell rfl, h.cell rfl, h.cell rfl⟩
  · exact ⟨h.cell rfl, h.cell rfl, h.cell rfl, h.cell rfl⟩⟩
theorem info_T4 : (Tryz.prog.info? 75).map (·.size) = some 4 := by kernel_rfl
theorem word_tok (s : ByteArray) (w : World) : Calls Tryz.prog 42 #[.string s] w fun e w' => e = .returned (.agg #[.int .i64 1, .string s, .int .i64 0, .int .i64 0]) ∧ Below w.heap.size w w' := by
  go_enter Tryz.func42, Tryz.ntmps42
  go_wp2
  have hb := CBox.new w #[.int .i64 1, .string s, .int .i64 0, .int .i64 0] 75
  have y0 := hb.cell (i := 0) (v := .int .i64 1) rfl
  have y1 := hb.cell (i := 1) (v := .string s) rfl
  have y2 := hb.cell (i := 2) (v := .int .i64 0) rfl
  have y3 := hb.cell (i := 3) (v := .int .i64 0) rfl
  exact bodyPost_ret (v := .agg #[.int .i64 1, .string s, .int .i64 0, .int .i64 0]) (by simp [results, Tryz.results42, go_sem, y0, y1, y2, y3]) rfl ⟨rfl, (Below.refl _ _).alloc (Nat.le_refl _) _⟩
theorem sign_tok (s : ByteArray) (w : World) : Calls Tryz.prog 62 #[.string s] w fun e w' => e = .returned (.agg #[.int .i64 4, .string s, .int .i64 0, .int .i64 0]) ∧ Below w.heap.size w w' := by
  go_enter Tryz.func62, Tryz.ntmps62
  go_wp2
  have hb := CBox.new w #[.int .i64 4, .string s, .int .i64 0, .int .i64 0] 75
  have y0 := hb.cell (i := 0) (v := .int .i64 4) rfl
  have y1 := hb.cell (i := 1) (v := .string s) rfl
  have y2 := hb.cell (i := 2) (v := .int .i64 0) rfl
  have y3 := hb.cell (i := 3) (v := .int .i64 0) rfl
  exact bodyPost_ret (v := .agg #[.int .i64 4, .string s, .int .i64 0, .int .i64 0]) (by simp [results, Tryz.results62, go_sem, y0, y1, y2, y3]) rfl ⟨rfl, (Below.refl _ _).alloc (Nat.le_refl _) _⟩
theorem TksAt.front {w : World} {ad : Option Addr} {a b : List Tk} (h : TksAt w ad (a ++ b)) : TksAt w ad a := by
  have := h.take a.length
  rwa [List.take_left' rfl] at this
set_option maxHeartbeats 2000000 in
set_option maxRecDepth 100000 in
theorem condTokens_any (ad : Option Addr) (cap : Nat) (xs : List Pt) (w : World) (hc : PtsAt w ad xs) (hT : TbE w) (hok : ∀ p ∈ xs, p.ok) (h0 : ckK xs ≠ 0) :
    Calls Tryz.prog 63 #[.slice ad xs.length cap] w fun e w' => ∃ g c, e = .returned (.slice (some ⟨g, 0, none⟩) (cdT xs).length c) ∧ TksAt w' (some ⟨g, 0, none⟩) (cdT xs) ∧ Below w.heap.size w w' := by
  obtain ⟨_, -, -, -, -, ht, -, hlen, hne⟩ := cdT_is h0 hok
  have WR := write_any ad cap xs w hc hT hok
  rw [if_neg h0] at WR
  have HTK := hide (fun W hW => tokens_any (wrS xs) W hW (by have := wrS_size xs hok; omega))
  rw [ht] at HTK
  have e1 : tsL (wrS xs).size (.good (cdT xs)) = cdT xs ++ [endZ (wrS xs).size] := rfl
  have e2 : tsA (.good (cdT xs)) = 0 := rfl
  have e3 : tsC (.good (cdT xs)) = 0 := rfl
  rw [e1, e2, e3] at HTK
  have HWR := hide WR
  have HTB := hide hT
  clear WR hc hT hok ht e1 e2 e3
  generalize wrS xs = S at *
  generalize hL : cdT xs = L at *
  clear hL
  have hpos : 0 < L.length := List.length_pos_iff.2 hne
  clear h0 hne
  go_enter Tryz.func63, Tryz.ntmps63
  go_wp2_with fail
  refine (unhide HWR).mono ?_
  rintro e w1 ⟨rfl, hb1⟩
  have T1 := hide (unhide HTK w1 ((unhide HTB).blw hb1).tok)
  have HB1 := hide hb1
  clear HWR hb1 HTK HTB
  go_wp2_with fail
  refine (unhide T1).mono ?_
  rintro e w2 ⟨v, rfl, ho, hb2⟩
  obtain ⟨_, ⟨rfl, h00⟩ | ⟨g, cp, cur, rfl, hg⟩⟩ := (id ho : w2.ownsRow _ _ _ _ _ _)
  · rw [List.length_append] at h00; simp at h00
  obtain ⟨a', c', e', hat, hcap⟩ := ho.at
  injection e' with ea eb ec
  subst ea ec
  have hcm : cp ≤ 9223372036854775807 := by have := hg.2.2.2.1; unfold maxLen at this; omega
  have kf := Kp.alloc w2 (.cells #[.int .i64 0, .int .i64 0] 62)
  have HAT := hide ((hat.kp kf).front)
  have HB2 := hide (((unhide HB1).trans (hb2.mono (unhide HB1).size)).alloc (by have := (unhide HB1).size; have := hb2.size; omega) (.cells #[.int .i64 0, .int .i64 0] 62))
  have hll : (L ++ [endZ S.size]).length = L.length + 1 := by simp
  rw [hll] at hcap ⊢
  clear T1 ho hg hat kf hb2 HB1 eb hll
  obtain ⟨LN, hLN⟩ : ∃ q, L.length = q := ⟨_, rfl⟩
  have HLN := hide hLN
  rw [hLN] at hcap hlen hpos ⊢
  clear hLN
  go_wp2
  refine bodyPost_ret (results_tmp rfl _ _ _) rfl ⟨g, cp, ?_, unhide HAT, unhide HB2⟩
  rw [unhide HLN]
  rfl
end Go.Proofs.YtgcmfcidmmjfiaaGreatDoor
namespace Go.Proofs.YtgcmfcidmmjfiaaGreatDoor
open Go.RowKit Go.Shelf

/-- What the package variables hold, the words of stages too. -/
structure TbP (w : World) : Prop where
  ex : TbE w
  fol : ∀ i, i < 4 → w.cell? ⟨1, i, none⟩ = some (.string (txt (hwW (i : Int))))
theorem TbP.same {w w' : World} (h : TbP w) (hs : w.heap.size ≤ w'.heap.size) (hb : ∀ k, k < 9 → w'.heap[k]? = w.heap[k]?) : TbP w' := by
  refine ⟨h.ex.same hs hb, fun i hi => ?_⟩
  rw [World.cell?_of_block (w := w') (w' := w) (a := ⟨1, i, none⟩) (hb 1 (by omega)).symm |>.symm]
  exact h.fol i hi
theorem TbP.low {w : World} (h : TbP w) : 9 ≤ w.heap.size := h.ex.low
theorem TbP.below {B : Nat} {w w' : World} (h : TbP w) (hb : Below B w w') (hB : 9 ≤ B) : TbP w' := h.same hb.size fun k hk => hb.block k (by omega)
theorem TbP.blw {w w' : World} (h : TbP w) (hb : Below w.heap.size w w') : TbP w' := h.below hb h.low
theorem TbP.kp {w w' : World} {F : List Nat} (h : TbP w) (hk : Kp F w w') (hF : ∀ k ∈ F, 9 ≤ k) : TbP w' := h.same hk.size fun k hk6 => hk.block k (by have := h.low; omega) (fun hm => by have := hF k hm; omega)
theorem OwnsK.app1 {B : Nat} {w : World} {v : Value} {l : List Tk} (ho : OwnsK B w v l) (hB : B ≤ w.heap.size) (t : Tk) (hl : l.length + 1 ≤ 1000000) (ty : TypeId) :
    ∃ g' cap w', (Builtin.append_ #[72, 72] ty #[v, .slice (some ⟨w.heap.size, 0, none⟩) 1 1]).run Tryz.prog (w.alloc (.cells #[.int .i64 t.kd, .string t.s, .int .i64 t.n, .int .i64 t.pl] 75)) = .ok (.slice (some ⟨g', 0, none⟩) (l.length + 1) cap) w' ∧ OwnsK B w' (.slice (some ⟨g', 0, none⟩) (l.length + 1) cap) (l ++ [t]) ∧ Below B w w' := by
  have ka := Kp.alloc w (.cells #[.int .i64 t.kd, .string t.s, .int .i64 t.n, .int .i64 t.pl] 75)
  obtain ⟨g', cap, w', h1, h2, h3⟩ := OwnsK.app (c := 1) (ho.kp ka) (by have := ka.size; omega) (x := [t]) (tks1 (CBox.new w _ _)) (by simp) (by simpa using hl) ty
  exact ⟨g', cap, w', h1, h2, (ka.below hB (by simp)).trans h3⟩
theorem OwnsK.two {B g : Nat} {w : World} {a b : Tk} (h : CBox g #[.int .i64 a.kd, .string a.s, .int .i64 a.n, .int .i64 a.pl, .int .i64 b.kd, .string b.s, .int .i64 b.n, .int .i64 b.pl] 75 w) (hg : B ≤ g) : OwnsK B w (.slice (some ⟨g, 0, none⟩) 2 2) [a, b] :=
  ⟨by simp [tkC], Or.inr ⟨g, 2, _, rfl, hg, h, Nat.le_refl _, by unfold maxLen; omega, rfl, by simp [tkC]⟩⟩
/-- What is kept while a stage's tokens are put together. -/
structure TkS (V W : World) (v : Value) (l : List Tk) : Prop where
  own : OwnsK V.heap.size W v l
  bel : Below V.heap.size V W
set_option maxHeartbeats 4000000 in
set_option maxRecDepth 100000 in
theorem stageTokens_any (s : Stg) (ad : Option Addr) (c : Nat) (w : World) (hc : PtsAt w ad s.cd) (hT : TbP w) (hok : s.ok) (h0 : ckK s.cd ≠ 0) (hh : 0 ≤ s.hw ∧ s.hw ≤ 3) :
    Calls Tryz.prog 41 #[.agg (stV s ad c)] w fun e w' => ∃ g cp, e = .returned (.slice (some ⟨g, 0, none⟩) (stK s).length cp) ∧ TksAt w' (some ⟨g, 0, none⟩) (stK s) ∧ Below w.heap.size w w' := by
  obtain ⟨nm, hw, mn, cd⟩ := s
  unfold stV
  dsimp only at *
  obtain ⟨H, rfl⟩ := Int.eq_ofNat_of_zero_le hh.1
  have hH : H < 4 := by omega
  have k0 : Kp [] w (w.alloc (.cells #[.string nm, .int .i64 (H : Int), .bool mn, .slice ad cd.length c] 51)).drew := (Kp.alloc _ _).trans (Kp.drew _) (by simp)
  have bx : CBox w.heap.size #[.string nm, .int .i64 (H : Int), .bool mn, .slice ad cd.length c] 51 (w.alloc (.cells #[.string nm, .int .i64 (H : Int), .bool mn, .slice ad cd.length c] 51)).drew := CBox.new w _ _
  have HS : Hid (∀ W, Kp [] (w.alloc (.cells #[.string nm, .int .i64 (H : Int), .bool mn, .slice ad cd.length c] 51)).drew W → W.cell? ⟨w.heap.size, 0, none⟩ = some (.string nm) ∧ W.cell? ⟨w.heap.size, 1, none⟩ = some (.int .i64 (H : Int)) ∧ W.cell? ⟨1, H, none⟩ = some (.string (txt (hwW (H : Int))))) := hide (fun W hk => ⟨(bx.kp hk (by simp)).cell rfl, (bx.kp hk (by simp)).cell rfl, ((hT.kp k0 (by simp)).kp hk (by simp)).fol H hH⟩)
  have HW : Hid (∀ W, Kp [] (w.alloc (.cells #[.string nm, .int .i64 (H : Int), .bool mn, .slice ad cd.length c] 51)).drew W → W.cell? ⟨w.heap.size, 2, none⟩ = some (.bool mn) ∧ W.cell? ⟨w.heap.size, 3, none⟩ = some (.slice ad cd.length c) ∧ w.heap.size < W.heap.size ∧ Hid (Below w.heap.size w W) ∧ Hid (PtsAt W ad cd) ∧ Hid (TbP W)) := hide (fun W hk => ⟨(bx.kp hk (by simp)).cell rfl, (bx.kp hk (by simp)).cell rfl, (Array.getElem?_eq_some_iff.1 (bx.kp hk (by simp))).1, hide ((k0.trans hk (by simp)).below (Nat.le_refl _) (by simp)), hide (hc.kp (k0.trans hk (by simp))), hide (hT.kp (k0.trans hk (by simp)) (by simp))⟩)
  have HCT : Hid (∀ W, PtsAt W ad cd → TbE W → Calls Tryz.prog 63 #[.slice ad cd.length c] W fun e w' => ∃ g c, e = .returned (.slice (some ⟨g, 0, none⟩) (cdT cd).length c) ∧ TksAt w' (some ⟨g, 0, none⟩) (cdT cd) ∧ Below W.heap.size W w') := hide (fun W h1 h2 => condTokens_any ad c cd W h1 h2 hok.2.2 h0)
  obtain ⟨_, -, -, -, -, -, -, hlen, hne⟩ := cdT_is h0 hok.2.2
  have hpos : 0 < (cdT cd).length := List.length_pos_iff.2 hne
  have hHi : (H : Int) < 4 := by omega
  have HK : Hid (Kp [] (w.alloc (.cells #[.string nm, .int .i64 (H : Int), .bool mn, .slice ad cd.length c] 51)).drew (w.alloc (.cells #[.string nm, .int .i64 (H : Int), .bool mn, .slice ad cd.length c] 51)).drew) := hide (Kp.refl _ _)
  clear hc hT hok h0 hh k0 bx hne
  obtain ⟨ST, hST⟩ : ∃ q, stK ⟨nm, (H : Int), mn, cd⟩ = q := ⟨_, rfl⟩
  have HST : Hid (ST = [wdK (txt (hwW (H : Int))), wdK nm] ++ ((if mn then [sgK (txt [43])] else []) ++ ([sgK (txt [58])] ++ (cdT cd ++ [sgK (txt [59])])))) := hide (by rw [← hST]; rfl)
  rw [hST]
  clear hST
  generalize txt (hwW (H : Int)) = HWT at *
  generalize cdT cd = CT at *
  generalize cd.length = CL at *
  go_enter Tryz.func41, Tryz.ntmps41
  go_wp2_with fail
  generalize (w.alloc (.cells #[.string nm, .int .i64 (H : Int), .bool mn, .slice ad CL c] 51)) = V at *
  generalize hGG : w.heap.size = G at *
  have HGG := hide hGG
  clear hGG
  go_cut [3] (fun v3 wc => ∃ g, v3 = .slice (some ⟨g, 0, none⟩) 2 2 ∧ Hid (CBox g #[.int .i64 1, .string HWT, .int .i64 0, .int .i64 0, .int .i64 1, .string nm, .int .i64 0, .int .i64 0] 75 wc ∧ V.heap.size ≤ g ∧ Kp [] V.drew wc))
  case first =>
    go_region_held3 (fun W => W.cell? ⟨G, 0, none⟩ = some (.string nm) ∧ W.cell? ⟨G, 1, none⟩ = some (.int .i64 (H : Int)) ∧ W.cell? ⟨1, H, none⟩ = some (.string HWT))
      (first | exact unhide HS _ (unhide (by assumption)) | exact unhide HS _ (Kp.trans (unhide (by assumption)) (Kp.alloc _ _) (by simp)))
      (first | (go_at_call 42; refine (word_tok _ _).mono ?_; rintro e wk ⟨rfl, hbk⟩; have HKk := hide (Kp.trans (unhide (by assumption)) (Kp.ofBelow hbk) (by simp)); clear hbk))
    go_wp2_with fail
    go_meet
    exact ⟨wk.heap.size, rfl, hide ⟨CBox.new wk _ _, (unhide HKk).size, (unhide HKk).trans (Kp.alloc _ _) (by simp)⟩⟩
  case rest =>
    obtain ⟨g, rfl, HX⟩ := hcut
    obtain ⟨hbx, hgg, hkw⟩ := unhide HX
    have ho : OwnsK V.heap.size wc (.slice (some ⟨g, 0, none⟩) 2 2) [wdK HWT, wdK nm] := OwnsK.two (a := wdK HWT) (b := wdK nm) hbx hgg
    have HKW : Hid (∀ W, Below V.heap.size V W → Kp [] V.drew W) := hide (fun W hb => ⟨hb.os, hb.tape, hb.output, hb.size, fun i hi _ => hb.block i hi⟩)
    have HBC : Hid (Below V.heap.size V wc) := hide ⟨hkw.os, hkw.tape, hkw.output, hkw.size, fun i hi => hkw.block i hi (by simp)⟩
    obtain ⟨c2, c3, hltc, _, _, _⟩ := unhide HW wc hkw
    have HOC := hide ho
    clear HX hbx hgg hkw ho HS HK
    cases mn with
    | true =>
      go_wp2_with fail
      refine (sign_tok _ _).mono ?_
      rintro e w1 ⟨rfl, hb1⟩
      obtain ⟨g2, cp2, w2, hrun2, ho2, hb2⟩ := OwnsK.app1 (B := V.heap.size) ((unhide HOC).kp (Kp.ofBelow hb1)) (by have := (unhide HBC).size; have := hb1.size; omega) (sgK ⟨#[43]⟩) (by simp) 72
      have HBW := hide (((unhide HBC).trans (hb1.mono (unhide HBC).size)).trans hb2)
      have hl2 : [wdK HWT, wdK nm].length + 1 = 3 := rfl
      rw [hl2] at hrun2 ho2
      have HO2 := hide ho2
      have HR2 := hide hrun2
      clear hb1 hrun2 ho2 hb2 HBC HOC hl2 c2 c3
      dsimp only
      obtain ⟨L3, hL3⟩ : ∃ q, [wdK HWT, wdK nm] ++ [sgK ⟨#[43]⟩] = q := ⟨_, rfl⟩
      have HO : Hid (OwnsK V.heap.size w2 (.slice (some ⟨g2, 0, none⟩) 3 cp2) L3) := by rw [← hL3]; exact HO2
      obtain ⟨NL, hNL⟩ : ∃ q : Nat, q = 3 := ⟨_, rfl⟩
      have HNL : Hid (L3.length = NL) := hide (by rw [← hL3, hNL]; rfl)
      have HL3E : [wdK HWT, wdK nm] ++ ((if true then [sgK (txt [43])] else []) ++ ([sgK (txt [58])] ++ (CT ++ [sgK (txt [59])]))) = L3 ++ ([sgK (txt [58])] ++ (CT ++ [sgK (txt [59])])) := by rw [← hL3]; rfl
      have hNLb : NL ≤ 3 := by omega
      have HL3E2 := hide HL3E
      clear hL3 HO2 HL3E
      rw [← hNL] at HO HR2
      clear hNL
      go_wp2_with (first | (at_builtin; refine wpList_app_run rfl _ _ _ rfl rfl rfl (unhide HR2) ?_) | fail)
      refine (sign_tok _ _).mono ?_
      rintro e wA ⟨rfl, hbA⟩
      obtain ⟨gB, cB, wB, hrunB, hoB, hbB⟩ := OwnsK.app1 (B := V.heap.size) ((unhide HO).kp (Kp.ofBelow hbA)) (by have := (unhide HBW).size; have := hbA.size; omega) (sgK ⟨#[58]⟩) (by rw [unhide HNL]; omega) 72
      have HBB := hide (((unhide HBW).trans (hbA.mono (unhide HBW).size)).trans hbB)
      rw [unhide HNL] at hrunB hoB
      have HOB := hide hoB
      have HRB := hide hrunB
      obtain ⟨_, d3, hltB, _, HPB, HTB⟩ := unhide HW wB (unhide HKW wB (unhide HBB))
      have CT1 := hide (unhide HCT wB (unhide HPB) (unhide HTB).ex)
      have HLB : Hid ((L3 ++ [sgK ⟨#[58]⟩]).length = NL + 1) := hide (by rw [List.length_append, unhide HNL]; rfl)
      clear hbA hrunB hoB hbB HPB HTB
      dsimp only
      go_wp2_with (first | (at_builtin; refine wpList_app_run rfl _ _ _ rfl rfl rfl (unhide HRB) ?_) | fail)
      refine (unhide CT1).mono ?_
      rintro e wC ⟨gC, cC, rfl, hatC, hbC⟩
      obtain ⟨gD, cD, wD, hrunD, hoD, hbD⟩ := OwnsK.app (c := cC) (B := V.heap.size) ((unhide HOB).kp (Kp.ofBelow hbC)) (by have := (unhide HBB).size; have := hbC.size; omega) hatC hpos (by rw [unhide HLB]; omega) 72
      have HBD := hide (((unhide HBB).trans (hbC.mono (unhide HBB).size)).trans hbD)
      rw [unhide HLB] at hrunD hoD
      obtain ⟨ML, hML⟩ : ∃ q, NL + 1 + CT.length = q := ⟨_, rfl⟩
      have hMLb : ML ≤ 2000 := by omega
      rw [hML] at hrunD hoD
      have HOD := hide hoD
      have HRD := hide hrunD
      have HLD : Hid (((L3 ++ [sgK ⟨#[58]⟩]) ++ CT).length = ML) := hide (by rw [List.length_append, unhide HLB, hML])
      clear hatC hbC hrunD hoD hbD CT1 HRB hML
      dsimp only
      go_wp2_with (first | (at_builtin; refine wpList_app_run rfl _ _ _ rfl rfl rfl (unhide HRD) ?_) | fail)
      refine (sign_tok _ _).mono ?_
      rintro e wE ⟨rfl, hbE⟩
      obtain ⟨gF, cF, wF, hrunF, hoF, hbF⟩ := OwnsK.app1 (B := V.heap.size) ((unhide HOD).kp (Kp.ofBelow hbE)) (by have := (unhide HBD).size; have := hbE.size; omega) (sgK ⟨#[59]⟩) (by rw [unhide HLD]; omega) 72
      have HBF := hide (((unhide HBD).trans (hbE.mono (unhide HBD).size)).trans hbF)
      rw [unhide HLD] at hrunF hoF
      have HOF := hide hoF
      have HRF := hide hrunF
      clear hbE hrunF hoF hbF HRD
      dsimp only
      go_wp2_with (at_builtin; refine wpList_app_run rfl _ _ _ rfl rfl rfl (unhide HRF) ?_)
      have hstl : ST = ((L3 ++ [sgK ⟨#[58]⟩]) ++ CT) ++ [sgK ⟨#[59]⟩] := by
        rw [unhide HST, unhide HL3E2]
        simp
        exact ⟨rfl, rfl⟩
      have hlen2 : ST.length = ML + 1 := by rw [hstl, List.length_append, unhide HLD]; rfl
      refine bodyPost_ret (results_tmp rfl _ _ _) rfl ⟨gF, cF, by rw [hlen2]; rfl, ?_, ?_⟩
      · obtain ⟨a', c', e', hat, _⟩ := (unhide HOF).at
        injection e' with ea eb ec
        rw [hstl]
        cases ea
        exact hat
      · rw [unhide HGG]
        exact unhide (unhide HW wF (unhide HKW wF (unhide HBF))).2.2.2.1
    | false =>
      obtain ⟨L3, hL3⟩ : ∃ q, [wdK HWT, wdK nm] = q := ⟨_, rfl⟩
      obtain ⟨NL, hNL⟩ : ∃ q : Nat, q = 2 := ⟨_, rfl⟩
      have HBW := hide (unhide HBC)
      have HL3E2 : Hid ([wdK HWT, wdK nm] ++ ((if false then [sgK (txt [43])] else []) ++ ([sgK (txt [58])] ++ (CT ++ [sgK (txt [59])]))) = L3 ++ ([sgK (txt [58])] ++ (CT ++ [sgK (txt [59])]))) := hide (by rw [← hL3]; rfl)
      have HNL : Hid (L3.length = NL) := hide (by rw [← hL3, hNL]; rfl)
      have HO : Hid (OwnsK V.heap.size wc (.slice (some ⟨g, 0, none⟩) NL 2) L3) := by rw [← hL3, hNL]; exact HOC
      have hNLb : NL ≤ 3 := by omega
      have hn2 : (2 : Nat) = NL := hNL.symm
      rw [show Value.slice (some ⟨g, 0, none⟩) 2 2 = Value.slice (some ⟨g, 0, none⟩) NL 2 by rw [hNL]]
      clear hL3 HOC HBC hNL hn2
      go_wp2_with fail
      refine (sign_tok _ _).mono ?_
      rintro e wA ⟨rfl, hbA⟩
      obtain ⟨gB, cB, wB, hrunB, hoB, hbB⟩ := OwnsK.app1 (B := V.heap.size) ((unhide HO).kp (Kp.ofBelow hbA)) (by have := (unhide HBW).size; have := hbA.size; omega) (sgK ⟨#[58]⟩) (by rw [unhide HNL]; omega) 72
      have HBB := hide (((unhide HBW).trans (hbA.mono (unhide HBW).size)).trans hbB)
      rw [unhide HNL] at hrunB hoB
      have HOB := hide hoB
      have HRB := hide hrunB
      obtain ⟨_, d3, hltB, _, HPB, HTB⟩ := unhide HW wB (unhide HKW wB (unhide HBB))
      have CT1 := hide (unhide HCT wB (unhide HPB) (unhide HTB).ex)
      have HLB : Hid ((L3 ++ [sgK ⟨#[58]⟩]).length = NL + 1) := hide (by rw [List.length_append, unhide HNL]; rfl)
      clear hbA hrunB hoB hbB HPB HTB
      dsimp only
      go_wp2_with (first | (at_builtin; refine wpList_app_run rfl _ _ _ rfl rfl rfl (unhide HRB) ?_) | fail)
      refine (unhide CT1).mono ?_
      rintro e wC ⟨gC, cC, rfl, hatC, hbC⟩
      obtain ⟨gD, cD, wD, hrunD, hoD, hbD⟩ := OwnsK.app (c := cC) (B := V.heap.size) ((unhide HOB).kp (Kp.ofBelow hbC)) (by have := (unhide HBB).size; have := hbC.size; omega) hatC hpos (by rw [unhide HLB]; omega) 72
      have HBD := hide (((unhide HBB).trans (hbC.mono (unhide HBB).size)).trans hbD)
      rw [unhide HLB] at hrunD hoD
      obtain ⟨ML, hML⟩ : ∃ q, NL + 1 + CT.length = q := ⟨_, rfl⟩
      have hMLb : ML ≤ 2000 := by omega
      rw [hML] at hrunD hoD
      have HOD := hide hoD
      have HRD := hide hrunD
      have HLD : Hid (((L3 ++ [sgK ⟨#[58]⟩]) ++ CT).length = ML) := hide (by rw [List.length_append, unhide HLB, hML])
      clear hatC hbC hrunD hoD hbD CT1 HRB hML
      dsimp only
      go_wp2_with (first | (at_builtin; refine wpList_app_run rfl _ _ _ rfl rfl rfl (unhide HRD) ?_) | fail)
      refine (sign_tok _ _).mono ?_
      rintro e wE ⟨rfl, hbE⟩
      obtain ⟨gF, cF, wF, hrunF, hoF, hbF⟩ := OwnsK.app1 (B := V.heap.size) ((unhide HOD).kp (Kp.ofBelow hbE)) (by have := (unhide HBD).size; have := hbE.size; omega) (sgK ⟨#[59]⟩) (by rw [unhide HLD]; omega) 72
      have HBF := hide (((unhide HBD).trans (hbE.mono (unhide HBD).size)).trans hbF)
      rw [unhide HLD] at hrunF hoF
      have HOF := hide hoF
      have HRF := hide hrunF
      clear hbE hrunF hoF hbF HRD
      dsimp only
      go_wp2_with (at_builtin; refine wpList_app_run rfl _ _ _ rfl rfl rfl (unhide HRF) ?_)
      have hstl : ST = ((L3 ++ [sgK ⟨#[58]⟩]) ++ CT) ++ [sgK ⟨#[59]⟩] := by
        rw [unhide HST, unhide HL3E2]
        simp
        exact ⟨rfl, rfl⟩
      have hlen2 : ST.length = ML + 1 := by rw [hstl, List.length_append, unhide HLD]; rfl
      refine bodyPost_ret (results_tmp rfl _ _ _) rfl ⟨gF, cF, by rw [hlen2]; rfl, ?_, ?_⟩
      · obtain ⟨a', c', e', hat, _⟩ := (unhide HOF).at
        injection e' with ea eb ec
        rw [hstl]
        cases ea
        exact hat
      · rw [unhide HGG]
        exact unhide (unhide HW wF (unhide HKW wF (unhide HBF))).2.2.2.1
end Go.Proofs.YtgcmfcidmmjfiaaGreatDoor
