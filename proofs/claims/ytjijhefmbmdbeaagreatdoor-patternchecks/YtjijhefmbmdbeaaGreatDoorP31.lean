/-
  What reading a text leaves: rows of tokens, of parts, and faults.
  couldBeTold: a tail of what Tokens told could be told; Parse of such a tail.
  How long a written text is.
  How a pattern is written: its tokens, plainly; tokens put at a row's end; the tokens of a condition.
-/
import Derived.Test.YtjijhefmbmdbeaaGreatDoorP27
import Derived.Test.YtjijhefmbmdbeaaGreatDoorP29
import Derived.Test.YtjijhefmbmdbeaaGreatDoorP30
import Derived.Test.YtjijhefmbmdbeaaGreatDoorP14
import Derived.Test.YtjijhefmbmdbeaaGreatDoorP28
namespace Go.Proofs.YtjijhefmbmdbeaaGreatDoor
open Go.RowKit Go.Shelf

theorem OwnsK.low {B : Nat} {w : World} {v : Value} {l : List Tk} (h : OwnsK B w v l) (hl : l ≠ []) : TksLow w.heap.size w v l := by
  obtain ⟨ad, cp, rfl, ha, _⟩ := h.at
  obtain ⟨b, off, rfl, hlt, hc⟩ := ha hl
  exact ⟨b, off, cp, rfl, hlt, hc⟩
/-- What Read tells. -/
def RdT (B : Nat) (o : RO) (e : Ending) (w' : World) : Prop := ∃ v, e = .returned (.tuple #[v, .agg #[.int .i64 o.at_, .int .i64 o.c]]) ∧ OwnsP B w' v o.x
theorem RdT.nil {B : Nat} {o : RO} {a c : Int} {w' : World} (h : o = ⟨[], a, c⟩) : RdT B o (.returned (.tuple #[.slice none 0 0, .agg #[.int .i64 a, .int .i64 c]])) w' := by
  subst h
  exact ⟨_, rfl, OwnsP.nil _ _⟩
theorem RdT.parts {B : Nat} {o : RO} {x : List Pt} {v : Value} {w' : World} (h : o = ⟨x, 0, 0⟩) (ho : OwnsP B w' v x) : RdT B o (.returned (.tuple #[v, .agg #[.int .i64 0, .int .i64 0]])) w' := by
  subst h
  exact ⟨v, rfl, ho⟩
end Go.Proofs.YtjijhefmbmdbeaaGreatDoor
namespace Go.Proofs.YtjijhefmbmdbeaaGreatDoor
open Go.RowKit Go.Shelf

theorem tkEq_self (t : Tk) : tkEq t t = true := (tkEq_iff t t).2 rfl
set_option maxHeartbeats 1000000 in
set_option maxRecDepth 100000 in
theorem equalTks_any (a1 a2 : Option Addr) (c1 c2 : Nat) (l : List Tk) (w : World) (h1 : TksAt w a1 l) (h2 : TksAt w a2 l) (hl : l.length ≤ 9223372036854775807) :
    Calls Tryz.prog 156 #[.slice a1 l.length c1, .slice a2 l.length c2] w fun e w' => e = .returned (.bool true) ∧ Kp [] w w' := by
  have H1 := hide h1
  have H2 := hide h2
  clear h1 h2
  go_enter Tryz.func156, Tryz.ntmps156
  go_wp2_with fail
  go_loopw [13] (fun i wr => ∃ k : Nat, k ≤ l.length ∧ i = .int .i64 (k : Int) ∧ Kp [] w wr) (fun i _ => l.length - (intOf i).toNat)
  case atStart => exact ⟨0, Nat.zero_le _, rfl, Kp.refl _ _⟩
  case round =>
    obtain ⟨k, hk, rfl, kp⟩ := hrel
    by_cases hlt : k < l.length
    · have kp2 := kp.trans (Kp.drew wr) (by simp)
      obtain ⟨b1, o1, rfl, _, x0, x1, x2, x3⟩ := ((unhide H1).kp kp2).at k hlt
      obtain ⟨b2, o2, rfl, _, y0, y1, y2, y3⟩ := ((unhide H2).kp kp2).at k hlt
      obtain ⟨_, _, e1, _, u0, u1, u2, u3⟩ := ((unhide H1).kp kp).at k hlt
      obtain ⟨_, _, e2, _, v0, v1, v2, v3⟩ := ((unhide H2).kp kp).at k hlt
      cases e1
      cases e2
      have hli : (k : Int) < (l.length : Int) := by omega
      have KP := hide kp
      have KP2 := hide kp2
      have HEQ := fun d W => eqT d l[k] l[k] W
      clear H1 H2 kp kp2
      generalize l[k] = e at *
      rw [tkEq_self] at HEQ
      obtain ⟨ek, es, en, ep⟩ := e
      unfold Tk.v at HEQ
      dsimp only at x0 x1 x2 x3 y0 y1 y2 y3 u0 u1 u2 u3 v0 v1 v2 v3 HEQ
      go_wp2_with fail
      first
        | (go_roundw
           case rel => exact ⟨k + 1, by omega, by go_num, unhide KP⟩
           case measure => simp [intOf]; omega)
        | (have cS := And.intro x0 (And.intro x1 (And.intro x2 (And.intro x3 (And.intro y0 (And.intro y1 (And.intro y2 y3))))))
           go_region_held3 (fun W => W.cell? ⟨b1, o1 + k * 4, none⟩ = some (.int .i64 ek) ∧ W.cell? ⟨b1, o1 + k * 4 + 1, none⟩ = some (.string es) ∧ W.cell? ⟨b1, o1 + k * 4 + 2, none⟩ = some (.int .i64 en) ∧ W.cell? ⟨b1, o1 + k * 4 + 3, none⟩ = some (.int .i64 ep) ∧ W.cell? ⟨b2, o2 + k * 4, none⟩ = some (.int .i64 ek) ∧ W.cell? ⟨b2, o2 + k * 4 + 1, none⟩ = some (.string es) ∧ W.cell? ⟨b2, o2 + k * 4 + 2, none⟩ = some (.int .i64 en) ∧ W.cell? ⟨b2, o2 + k * 4 + 3, none⟩ = some (.int .i64 ep))
             (first | with_reducible exact cS)
             (first | fail)
           go_wp2
           go_roundw
           case rel => exact ⟨k + 1, by omega, by go_num, unhide KP2⟩
           case measure => simp [intOf]; omega)
    · go_wp2
      go_ret
      exact ⟨rfl, kp⟩
theorem rep32 (n : Nat) : Lib.repeatL [32] n = List.replicate n 32 := by
  induction n with
  | zero => rfl
  | succ n ih => rw [Lib.repeatL, ih, List.replicate_succ]; rfl
theorem repeat32_any (n : Nat) (w : World) (hn : n ≤ 262144) : Calls Tryz.prog 155 #[.string ⟨#[32]⟩, .int .i64 (n : Int)] w fun e w' => e = .returned (.string (txt (List.replicate n 32))) ∧ Below w.heap.size w w' := by
  have := Tryz.strings_Repeat ⟨#[32]⟩ n w (by omega) (by show 1 * n ≤ _; omega)
  have e : (⟨#[32]⟩ : ByteArray).data.toList = [32] := rfl
  rw [e, rep32] at this
  exact this
theorem joR_tok {t : Tk} (h : wrOk t = true ∨ ∃ n, t = endZ n) : joR [t] = (spell t, 0) := by
  rcases h with h | ⟨n, rfl⟩
  · obtain ⟨h0, _, _, _, h4⟩ := wr_facts h
    have e : isEnd [t] = false := by unfold isEnd; simpa using h0
    have e1 : cutL [t] = [t] := by unfold cutL; rw [e]; rfl
    have e2 : endT [t] = ⟨0, ⟨#[]⟩, 0, 0⟩ := by unfold endT; rw [e]; rfl
    have e3 : joinB [t] = spell t := by unfold joinB tailB; simp
    unfold joR
    rw [e1, e2, e3, if_neg (by simp), if_neg (not_not_intro (by simpa using h)), if_neg (not_not_intro ⟨rfl, rfl⟩), if_neg (by omega)]
  · have e : isEnd [endZ n] = true := rfl
    have e1 : cutL [endZ n] = [] := by unfold cutL; rw [e]; rfl
    have e2 : endT [endZ n] = endZ n := by unfold endT; rw [e]; rfl
    unfold joR
    rw [e1, e2, if_neg (by simp), if_neg (not_not_intro (by simp)), if_neg (not_not_intro ⟨rfl, rfl⟩), if_neg (by simp [joinB]), spell_end]
    rfl
end Go.Proofs.YtjijhefmbmdbeaaGreatDoor
namespace Go.Proofs.YtjijhefmbmdbeaaGreatDoor
open Go.RowKit Go.Shelf

theorem wrS_size (x : List Pt) (hok : ∀ p ∈ x, p.ok) : (wrS x).size ≤ 60000 := by
  unfold wrS
  split
  · show 0 ≤ _; omega
  · rename_i h
    obtain ⟨t, h1, h2, h3, h4, h5, h6⟩ := ckK_leaves h
    have hfd : fdX wrv x = some (t.val wrv) := by rw [h3]; exact fdX_flat wrv t h1
    rw [hfd]
    have := t.wr_len h1 (t.fine_leaves h2) (fun q hq => (hok q (by rw [h3]; exact hq)).2.1.2)
    rw [← h3] at this
    show (txt (t.val wrv).1).size ≤ _
    rw [txt_size]
    omega
end Go.Proofs.YtjijhefmbmdbeaaGreatDoor
namespace Go.Proofs.YtjijhefmbmdbeaaGreatDoor
open Go.RowKit Go.Shelf

/-- The tokens of a condition. -/
def cdT (x : List Pt) : List Tk := match tsR (wrS x) with
  | .good ts => ts
  | .bad _ _ => []
theorem cdT_is {x : List Pt} (h : ckK x ≠ 0) (hok : ∀ p ∈ x, p.ok) : ∃ t : Ex, t.wf ∧ t.fine ∧ x = t.flat ∧ t.dn ≤ 32 ∧ tsR (wrS x) = .good (cdT x) ∧ (cdT x).map (Tk.out · 0) = t.bod.map (Tk.out · 0) ∧ (cdT x).length ≤ 1000 ∧ cdT x ≠ [] := by
  obtain ⟨t, h1, h2, h3, h4, h5, h6⟩ := ckK_leaves h
  have hfd : fdX wrv x = some (t.val wrv) := by rw [h3]; exact fdX_flat wrv t h1
  have hlv := t.fine_leaves h2
  have hnk : ∀ q ∈ t.flat, q.nk := fun q hq => (hok q (by rw [h3]; exact hq)).2.1.2
  have hlen := t.wr_len h1 hlv hnk
  have hw : wrS x = txt t.wr := by unfold wrS; rw [if_neg h, hfd]; rfl
  obtain ⟨b1, b2⟩ := t.bod_wr h2 hnk
  rw [← h3] at hlen b2
  obtain ⟨ts, g1, g2⟩ := toks_join t.bod 0 b1 (by omega)
  have hsz : (txt t.wr).size = t.wr.length := txt_size _
  have ht : tsR (wrS x) = .good ts := by
    rw [hw]
    unfold tsR
    rw [if_neg (by rw [hsz]; unfold Ex.wr; omega), txt_list, t.wr_tok]
    exact g1
  have hc : cdT x = ts := by unfold cdT; rw [ht]
  have hl : ts.length = t.bod.length := by
    have := congrArg List.length g2
    simpa using this
  refine ⟨t, h1, h2, h3, h4, by rw [hc]; exact ht, by rw [hc]; exact g2, by rw [hc]; omega, ?_⟩
  rw [hc]
  intro e
  rw [e] at hl
  have := t.bod_ne
  exact this (List.eq_nil_of_length_eq_zero (by simpa using hl.symm))
def hwW (h : Int) : List UInt8 := if h = 0 then [115, 116, 97, 114, 116] else if h = 1 then [110, 101, 120, 116] else if h = 2 then [116, 104, 101, 110] else [97, 110, 121]
def wdK (s : ByteArray) : Tk := ⟨1, s, 0, 0⟩
def sgK (s : ByteArray) : Tk := ⟨4, s, 0, 0⟩
/-- A stage's tokens. -/
def stK (s : Stg) : List Tk := [wdK (txt (hwW s.hw)), wdK s.nm] ++ ((if s.mn then [sgK (txt [43])] else []) ++ ([sgK (txt [58])] ++ (cdT s.cd ++ [sgK (txt [59])])))
/-- A pattern's tokens. -/
def ptK (p : Ptn) : List Tk := p.ss.flatMap stK ++ [wdK (txt witW), ⟨2, ⟨#[]⟩, p.wi, 0⟩]
/-- What Write tells. -/
def wrP (p : Ptn) : ByteArray × Int := if (pcR p).2 = 0 then (txt (joR (ptK p)).1, (joR (ptK p)).2) else (⟨#[]⟩, (pcR p).2)
/-! Tokens put at a row's end. -/
def tkE (t : Tk) : List Value := [.int .i64 t.kd, .string t.s, .int .i64 t.n, .int .i64 t.pl]
theorem tkE_len (t : Tk) : (tkE t).length = 4 := rfl
theorem tkC_e (l : List Tk) : tkC l = l.flatMap tkE := rfl
theorem tkC_one (l : List Tk) : ∀ v ∈ tkC l, v.oneCell' = true := by
  intro v hv
  obtain ⟨r, _, h⟩ := List.mem_flatMap.1 hv
  simp only [List.mem_cons, List.not_mem_nil, or_false] at h
  rcases h with rfl | rfl | rfl | rfl <;> rfl
theorem tks_cells {w : World} {b off : Nat} {x : List Tk} (h : TksAt w (some ⟨b, off, none⟩) x) : ∀ j u, (tkC x)[j]? = some u → w.cell? ((⟨b, off, none⟩ : Addr).add j) = some u := by
  intro j u hj
  have hl := flat_len tkE 4 tkE_len x
  have hjl : j < x.length * 4 := by
    rw [← hl]
    exact (List.getElem?_eq_some_iff.1 hj).1
  have h4 := flat_at tkE 4 tkE_len x (j / 4) (j % 4) (by omega) (by omega)
  rw [show j / 4 * 4 + j % 4 = j by omega] at h4
  rw [tkC_e, h4] at hj
  obtain ⟨b', off', e, _, c0, c1, c2, c3⟩ := h.at (j / 4) (by omega)
  cases e
  have ea : (⟨b, off, none⟩ : Addr).add j = ⟨b, off + j / 4 * 4 + j % 4, none⟩ := by rw [Go.WideShapes.add_plain]; congr 1; omega
  rw [ea]
  rcases (show j % 4 = 0 ∨ j % 4 = 1 ∨ j % 4 = 2 ∨ j % 4 = 3 by omega) with e | e | e | e
  all_goals
    rw [e] at hj ⊢
    cases hj
    assumption
theorem OwnsK.app {B : Nat} {w : World} {v : Value} {l : List Tk} (ho : OwnsK B w v l) (hB : B ≤ w.heap.size) {b off c : Nat} {x : List Tk} (hx : TksAt w (some ⟨b, off, none⟩) x) (hm : 0 < x.length) (hl : l.length + x.length ≤ 1000000) (ty : TypeId) :
    ∃ g' cap w', (Builtin.append_ #[71, 71] ty #[v, .slice (some ⟨b, off, none⟩) x.length c]).run Tryz.prog w = .ok (.slice (some ⟨g', 0, none⟩) (l.length + x.length) cap) w' ∧ OwnsK B w' (.slice (some ⟨g', 0, none⟩) (l.length + x.length) cap) (l ++ x) ∧ Below B w w' := by
  obtain ⟨i0, hi, hz0, hz1, hz2⟩ := info_parts info_Tk
  obtain ⟨g', cap, w', hrun, r1, r2, _⟩ := run_append_lies (P := Tryz.prog) (w := w) 71 ty B 74 i0 (.agg #[.int .i64 0, .string ⟨#[]⟩, .int .i64 0, .int .i64 0]) 4 40 Tryz.underlying71 hi hz0 hz1 hz2 rfl (by decide) v l.length (tkC l) ho ⟨b, off, none⟩ x.length c (tkC x) (by rw [tkC_e]; exact flat_len tkE 4 tkE_len x) (tks_cells hx) (tkC_one x) hm (by unfold maxLen; omega) (by omega) hB _ rfl
  refine ⟨g', cap, w', hrun, ?_, (Kp.of r2).below hB (fun k hk => ?_)⟩
  · unfold OwnsK
    rw [List.length_append, tkC_append]
    exact r1
  · have : v.ownBlock = some k := by simpa using hk
    exact (World.ownsRow.lt ho k this).1
theorem OwnsK.kp {B : Nat} {w w' : World} {v : Value} {l : List Tk} (h : OwnsK B w v l) (hk : Kp [] w w') : OwnsK B w' v l := row_kp h hk (by simp)
theorem tks1 {w : World} {g : Nat} {t : Tk} {ty : TypeId} (h : CBox g #[.int .i64 t.kd, .string t.s, .int .i64 t.n, .int .i64 t.pl] ty w) : TksAt w (some ⟨g, 0, none⟩) [t] := fun _ => ⟨g, 0, rfl, (Array.getElem?_eq_some_iff.1 h).1, fun i hi => by
  obtain rfl : i = 0 := by simp at hi; omega
  exact ⟨h.cell rfl, h.cell rfl, h.cell rfl, h.cell rfl⟩⟩
theorem tks2 {w : World} {g : Nat} {t u : Tk} {ty : TypeId} (h : CBox g #[.int .i64 t.kd, .string t.s, .int .i64 t.n, .int .i64 t.pl, .int .i64 u.kd, .string u.s, .int .i64 u.n, .int .i64 u.pl] ty w) : TksAt w (some ⟨g, 0, none⟩) [t, u] := fun _ => ⟨g, 0, rfl, (Array.getElem?_eq_some_iff.1 h).1, fun i hi => by
  have : i = 0 ∨ i = 1 := by simp at hi; omega
  rcases this with rfl | rfl
  · exact ⟨h.cell rfl, h.cell rfl, h.cell rfl, h.cell rfl⟩
  · exact ⟨h.cell rfl, h.cell rfl, h.cell rfl, h.cell rfl⟩⟩
theorem word_tok (s : ByteArray) (w : World) : Calls Tryz.prog 40 #[.string s] w fun e w' => e = .returned (.agg #[.int .i64 1, .string s, .int .i64 0, .int .i64 0]) ∧ Below w.heap.size w w' := by
  go_enter Tryz.func40, Tryz.ntmps40
  go_wp2
  have hb := CBox.new w #[.int .i64 1, .string s, .int .i64 0, .int .i64 0] 74
  have y0 := hb.cell (i := 0) (v := .int .i64 1) rfl
  have y1 := hb.cell (i := 1) (v := .string s) rfl
  have y2 := hb.cell (i := 2) (v := .int .i64 0) rfl
  have y3 := hb.cell (i := 3) (v := .int .i64 0) rfl
  exact bodyPost_ret (v := .agg #[.int .i64 1, .string s, .int .i64 0, .int .i64 0]) (by simp [results, Tryz.results40, go_sem, y0, y1, y2, y3]) rfl ⟨rfl, (Below.refl _ _).alloc (Nat.le_refl _) _⟩
theorem sign_tok (s : ByteArray) (w : World) : Calls Tryz.prog 60 #[.string s] w fun e w' => e = .returned (.agg #[.int .i64 4, .string s, .int .i64 0, .int .i64 0]) ∧ Below w.heap.size w w' := by
  go_enter Tryz.func60, Tryz.ntmps60
  go_wp2
  have hb := CBox.new w #[.int .i64 4, .string s, .int .i64 0, .int .i64 0] 74
  have y0 := hb.cell (i := 0) (v := .int .i64 4) rfl
  have y1 := hb.cell (i := 1) (v := .string s) rfl
  have y2 := hb.cell (i := 2) (v := .int .i64 0) rfl
  have y3 := hb.cell (i := 3) (v := .int .i64 0) rfl
  exact bodyPost_ret (v := .agg #[.int .i64 4, .string s, .int .i64 0, .int .i64 0]) (by simp [results, Tryz.results60, go_sem, y0, y1, y2, y3]) rfl ⟨rfl, (Below.refl _ _).alloc (Nat.le_refl _) _⟩
theorem TksAt.front {w : World} {ad : Option Addr} {a b : List Tk} (h : TksAt w ad (a ++ b)) : TksAt w ad a := by
  have := h.take a.length
  rwa [List.take_left' rfl] at this
set_option maxHeartbeats 2000000 in
set_option maxRecDepth 100000 in
theorem condTokens_any (ad : Option Addr) (cap : Nat) (xs : List Pt) (w : World) (hc : PtsAt w ad xs) (hT : TbE w) (hok : ∀ p ∈ xs, p.ok) (h0 : ckK xs ≠ 0) :
    Calls Tryz.prog 61 #[.slice ad xs.length cap] w fun e w' => ∃ g c, e = .returned (.slice (some ⟨g, 0, none⟩) (cdT xs).length c) ∧ TksAt w' (some ⟨g, 0, none⟩) (cdT xs) ∧ Below w.heap.size w w' := by
  obtain ⟨_, -, -, -, -, ht, -, hlen, hne⟩ := cdT_is h0 hok
  have WR := write_any ad cap xs w hc hT hok
  rw [if_neg h0] at WR
  have HTK := hide (fun W hW => tokens_any (wrS xs) W hW (by have := wrS_size xs hok; omega))
  rw [ht] at HTK
  have e1 : tsL (wrS xs).size (.good (cdT xs)) = cdT xs ++ [endZ (wrS xs).size] := rfl
  have e2 : tsA (.good (cdT xs)) = 0 := rfl
  have e3 : tsC (.good (cdT xs)) = 0 := rfl
  rw [e1, e2, e3] at HTK
  have HWR := hide WR
  have HTB := hide hT
  clear WR hc hT hok ht e1 e2 e3
  generalize wrS xs = S at *
  generalize hL : cdT xs = L at *
  clear hL
  have hpos : 0 < L.length := List.length_pos_iff.2 hne
  clear h0 hne
  go_enter Tryz.func61, Tryz.ntmps61
  go_wp2_with fail
  refine (unhide HWR).mono ?_
  rintro e w1 ⟨rfl, hb1⟩
  have T1 := hide (unhide HTK w1 ((unhide HTB).blw hb1).tok)
  have HB1 := hide hb1
  clear HWR hb1 HTK HTB
  go_wp2_with fail
  refine (unhide T1).mono ?_
  rintro e w2 ⟨v, rfl, ho, hb2⟩
  obtain ⟨_, ⟨rfl, h00⟩ | ⟨g, cp, cur, rfl, hg⟩⟩ := (id ho : w2.ownsRow _ _ _ _ _ _)
  · rw [List.length_append] at h00; simp at h00
  obtain ⟨a', c', e', hat, hcap⟩ := ho.at
  injection e' with ea eb ec
  subst ea ec
  have hcm : cp ≤ 9223372036854775807 := by have := hg.2.2.2.1; unfold maxLen at this; omega
  have kf := Kp.alloc w2 (.cells #[.int .i64 0, .int .i64 0] 61)
  have HAT := hide ((hat.kp kf).front)
  have HB2 := hide (((unhide HB1).trans (hb2.mono (unhide HB1).size)).alloc (by have := (unhide HB1).size; have := hb2.size; omega) (.cells #[.int .i64 0, .int .i64 0] 61))
  have hll : (L ++ [endZ S.size]).length = L.length + 1 := by simp
  rw [hll] at hcap ⊢
  clear T1 ho hg hat kf hb2 HB1 eb hll
  obtain ⟨LN, hLN⟩ : ∃ q, L.length = q := ⟨_, rfl⟩
  have HLN := hide hLN
  rw [hLN] at hcap hlen hpos ⊢
  clear hLN
  go_wp2
  refine bodyPost_ret (results_tmp rfl _ _ _) rfl ⟨g, cp, ?_, unhide HAT, unhide HB2⟩
  rw [unhide HLN]
  rfl
end Go.Proofs.YtjijhefmbmdbeaaGreatDoor
