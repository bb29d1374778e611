/-
  The reader of patterns: how it lies; its words, ways and names.
  The reader of patterns: conditions.
-/
import Derived.Test.YtjijhefmbmdbeaaGreatDoorD27
import Derived.Test.YtjijhefmbmdbeaaGreatDoorD23
import Derived.Deep.RegionHeld3
namespace Go.Proofs.YtjijhefmbmdbeaaGreatDoor
open Go.RowKit Go.Shelf

def prC (tk : Value) (k : Nat) (sv : Value) (wi rA rC : Int) : Array Value := #[tk, .int .i64 (k : Int), sv, .int .i64 wi, .int .i64 rA, .int .i64 rC]
/-- The reader lies there, and the tokens below it. -/
structure PB (gr : Nat) (tk : Value) (l : List Tk) (k : Nat) (sv : Value) (wi rA rC : Int) (W : World) : Prop where
  tks : TksLow gr W tk l
  tab : TbE W
  low : 9 ≤ gr
  box : CBox gr (prC tk k sv wi rA rC) 88 W
  len : l.length ≤ 100000
  ok : ∀ t ∈ l, t.ok
  cap : ∃ b off c, tk = .slice (some ⟨b, off, none⟩) l.length c ∧ l.length ≤ c ∧ c ≤ 9223372036854775807
theorem PB.lt {gr : Nat} {tk : Value} {l : List Tk} {k : Nat} {sv : Value} {wi rA rC : Int} {W : World} (h : PB gr tk l k sv wi rA rC W) : gr < W.heap.size := (Array.getElem?_eq_some_iff.1 h.box).1
theorem PB.kp {F : List Nat} {gr : Nat} {tk : Value} {l : List Tk} {k : Nat} {sv : Value} {wi rA rC : Int} {W W' : World} (h : PB gr tk l k sv wi rA rC W) (hk : Kp F W W') (hF : ∀ x ∈ F, gr < x) : PB gr tk l k sv wi rA rC W' :=
  ⟨h.tks.below (hk.below (by have := h.lt; omega) (fun x hx => by have := hF x hx; omega)), h.tab.kp hk (fun x hx => by have := hF x hx; have := h.low; omega), h.low, h.box.kp hk (fun hm => by have := hF gr hm; omega), h.len, h.ok, h.cap⟩
theorem PB.put {gr : Nat} {tk : Value} {l : List Tk} {k : Nat} {sv : Value} {wi rA rC : Int} {W W' : World} (h : PB gr tk l k sv wi rA rC W) (hk : Kp [gr] W W') {k' : Nat} {sv' : Value} {wi' rA' rC' : Int} (hb : CBox gr (prC tk k' sv' wi' rA' rC') 88 W') : PB gr tk l k' sv' wi' rA' rC' W' :=
  ⟨h.tks.below (hk.below (by have := h.lt; omega) (by simp)), h.tab.kp hk (by simpa using h.low), h.low, hb, h.len, h.ok, h.cap⟩
theorem PB.next {gr : Nat} {tk : Value} {l : List Tk} {k : Nat} {sv : Value} {wi rA rC : Int} {W : World} (h : PB gr tk l k sv wi rA rC W) : PB gr tk l (k + 1) sv wi rA rC (W.setCell ⟨gr, 1, none⟩ (.int .i64 ((k : Int) + 1))) := by
  have e : ((k : Int) + 1) = ((k + 1 : Nat) : Int) := by omega
  rw [e]
  exact h.put (Kp.set W gr 1 _) (h.box.set 1 _)
theorem PB.cells {gr : Nat} {tk : Value} {l : List Tk} {k : Nat} {sv : Value} {wi rA rC : Int} {W : World} (h : PB gr tk l k sv wi rA rC W) : W.cell? ⟨gr, 0, none⟩ = some tk ∧ W.cell? ⟨gr, 1, none⟩ = some (.int .i64 (k : Int)) ∧ W.cell? ⟨gr, 2, none⟩ = some sv ∧ W.cell? ⟨gr, 3, none⟩ = some (.int .i64 wi) ∧ W.cell? ⟨gr, 4, none⟩ = some (.int .i64 rA) ∧ W.cell? ⟨gr, 5, none⟩ = some (.int .i64 rC) ∧ (∀ i, W.frozen? ⟨gr, i, none⟩ = false) :=
  ⟨h.box.cell rfl, h.box.cell rfl, h.box.cell rfl, h.box.cell rfl, h.box.cell rfl, h.box.cell rfl, h.box.froz⟩
theorem set_kp {p : Nat} {W W1 : World} (h : Kp [] W W1) (i : Nat) (v : Value) : Kp [p] W (W1.setCell ⟨p, i, none⟩ v) := (h.mono (by simp)).trans (Kp.set W1 p i v) (by simp)
set_option maxHeartbeats 2000000 in
set_option maxRecDepth 100000 in
theorem pword_any {gr : Nat} {tk : Value} {l : List Tk} {k : Nat} {sv : Value} {wi rA rC : Int} {W : World} (h : PB gr tk l k sv wi rA rC W) {t : Tk} {r : List Tk} (ht : l.drop k = t :: r) :
    Calls Tryz.prog 103 #[.pointer (some ⟨gr, 0, none⟩)] W fun e w' => e = .returned (.string (wdS t)) ∧ Below W.heap.size W w' := by
  obtain ⟨hk, ha, _⟩ := drop_at ht
  obtain ⟨b, off, cap, htk, hlt, hc⟩ := h.tks
  obtain ⟨c0, c1, c2, c3⟩ := hc k hk
  rw [ha] at c0 c1 c2 c3
  have hlen := h.len
  have hgl := h.lt
  obtain ⟨e1, e2, _⟩ := h.cells
  rw [htk] at e1
  clear h hc ha htk ht
  have al : ∀ {q : Addr} {v : Value}, W.cell? q = some v → q.block < W.heap.size → (W.alloc (.cells #[.int .i64 0, .string { data := #[] }, .int .i64 0, .int .i64 0] 74)).cell? q = some v := fun h _ => (Kp.alloc W _).cell h (by simp)
  have d0 := al c0 (by show b < _; omega)
  have d1 := al c1 (by show b < _; omega)
  have d2 := al c2 (by show b < _; omega)
  have d3 := al c3 (by show b < _; omega)
  have g1 := al e1 hgl
  have g2 := al e2 hgl
  clear al
  unfold wdS
  obtain ⟨kd, s, n, pl⟩ := t
  dsimp only at *
  go_enter Tryz.func103, Tryz.ntmps103
  go_wp2
  go_region
  clear c0 c1 c2 c3 d0 d1 d2 d3 e1 e2 g1 g2
  have hb : ∀ o, Below W.heap.size W (W.alloc o).drew := fun o => ((Below.refl _ _).alloc (Nat.le_refl _) _).trans ⟨rfl, rfl, rfl, Nat.le_refl _, fun _ _ => rfl⟩
  by_cases h1 : kd = 1
  · subst h1
    go_wp2
    exact bodyPost_ret (results_tmp rfl _ _ _) rfl ⟨rfl, hb _⟩
  · by_cases h4 : kd = 4
    · subst h4
      go_wp2
      exact bodyPost_ret (results_tmp rfl _ _ _) rfl ⟨rfl, hb _⟩
    · have g1 : (kd == 1) = false := beq_eq_false_iff_ne.2 h1
      have g4 : (kd == 4) = false := beq_eq_false_iff_ne.2 h4
      go_wp2
      exact bodyPost_ret (results_tmp rfl _ _ _) rfl ⟨by first | rfl | (rw [if_neg (by omega)]; rfl), hb _⟩
set_option maxHeartbeats 2000000 in
set_option maxRecDepth 100000 in
theorem pskip_any {gr : Nat} {tk : Value} {l : List Tk} {k : Nat} {sv : Value} {wi rA rC : Int} {W : World} (h : PB gr tk l k sv wi rA rC W) {t : Tk} {r : List Tk} (ht : l.drop k = t :: r) (sg : ByteArray) :
    Calls Tryz.prog 77 #[.pointer (some ⟨gr, 0, none⟩), .string sg] W fun e w' => e = .returned (.bool (decide (wdT t = sg.data.toList))) ∧ PB gr tk l (if wdT t = sg.data.toList then k + 1 else k) sv wi rA rC w' ∧ Kp [gr] W w' := by
  have WD := hide (pword_any h ht)
  have hk : k ≤ 100000 := by obtain ⟨hk, _⟩ := drop_at ht; have := h.len; omega
  have HR := hide h
  rw [← wdS_list]
  clear h ht
  generalize wdS t = S at *
  by_cases he : S.data.toList = sg.data.toList
  · have heq : (S.toList == sg.toList) = true := by rw [toList_data, toList_data, he]; exact beq_self_eq_true _
    rw [if_pos he, decide_eq_true he]
    clear he
    go_enter Tryz.func77, Tryz.ntmps77
    go_wp2_with fail
    refine (unhide WD).mono ?_
    rintro e w1 ⟨rfl, hb⟩
    have HR1 := hide ((unhide HR).kp (Kp.ofBelow hb) (by simp))
    obtain ⟨_, c1, _, _, _, _, fz⟩ := (unhide HR1).cells
    have HB := hide (Kp.ofBelow hb)
    clear hb HR WD
    go_wp2
    exact bodyPost_ret (results_tmp rfl _ _ _) rfl ⟨rfl, (unhide HR1).next, set_kp (unhide HB) 1 _⟩
  · have heq : (S.toList == sg.toList) = false := by rw [toList_data, toList_data]; exact beq_eq_false_iff_ne.2 he
    rw [if_neg he, decide_eq_false he]
    clear he
    go_enter Tryz.func77, Tryz.ntmps77
    go_wp2_with fail
    refine (unhide WD).mono ?_
    rintro e w1 ⟨rfl, hb⟩
    have HR1 := hide ((unhide HR).kp (Kp.ofBelow hb) (by simp))
    have HB := hide ((Kp.ofBelow hb).mono (G := [gr]) (by simp))
    clear hb HR WD
    go_wp2
    exact bodyPost_ret (results_tmp rfl _ _ _) rfl ⟨rfl, unhide HR1, unhide HB⟩
/-! How a stage follows. -/
theorem eqL (s : ByteArray) (u : List UInt8) : (s.toList == u) = decide (s.data.toList = u) := by
  rw [toList_data]
  by_cases h : s.data.toList = u
  · rw [h]; simp
  · rw [decide_eq_false h]; exact beq_eq_false_iff_ne.2 h
set_option maxHeartbeats 2000000 in
set_option maxRecDepth 100000 in
theorem howOf_any (s : ByteArray) (w : World) :
    Calls Tryz.prog 118 #[.string s] w fun e w' => e = .returned (.tuple #[.int .i64 ((hwOf s.data.toList).getD 0), .bool (hwOf s.data.toList).isSome]) ∧ w' = w := by
  have q1 := eqL s [97, 110, 121]
  have q2 := eqL s [116, 104, 101, 110]
  have q3 := eqL s [110, 101, 120, 116]
  have q4 := eqL s [115, 116, 97, 114, 116]
  unfold hwOf
  by_cases h1 : s.data.toList = [97, 110, 121]
  · rw [if_pos h1]
    rw [decide_eq_true h1] at q1
    clear q2 q3 q4 h1
    go_enter Tryz.func118, Tryz.ntmps118
    go_wp2
    exact bodyPost_ret (results_tmp2 rfl _ _ _) rfl ⟨rfl, rfl⟩
  · rw [if_neg h1]
    rw [decide_eq_false h1] at q1
    by_cases h2 : s.data.toList = [116, 104, 101, 110]
    · rw [if_pos h2]
      rw [decide_eq_true h2] at q2
      clear q3 q4 h1 h2
      go_enter Tryz.func118, Tryz.ntmps118
      go_wp2
      exact bodyPost_ret (results_tmp2 rfl _ _ _) rfl ⟨rfl, rfl⟩
    · rw [if_neg h2]
      rw [decide_eq_false h2] at q2
      by_cases h3 : s.data.toList = [110, 101, 120, 116]
      · rw [if_pos h3]
        rw [decide_eq_true h3] at q3
        clear q4 h1 h2 h3
        go_enter Tryz.func118, Tryz.ntmps118
        go_wp2
        exact bodyPost_ret (results_tmp2 rfl _ _ _) rfl ⟨rfl, rfl⟩
      · rw [if_neg h3]
        rw [decide_eq_false h3] at q3
        by_cases h4 : s.data.toList = [115, 116, 97, 114, 116]
        · rw [if_pos h4]
          rw [decide_eq_true h4] at q4
          clear h1 h2 h3 h4
          go_enter Tryz.func118, Tryz.ntmps118
          go_wp2
          exact bodyPost_ret (results_tmp2 rfl _ _ _) rfl ⟨rfl, rfl⟩
        · rw [if_neg h4]
          rw [decide_eq_false h4] at q4
          clear h1 h2 h3 h4
          go_enter Tryz.func118, Tryz.ntmps118
          go_wp2
          exact bodyPost_ret (results_tmp2 rfl _ _ _) rfl ⟨rfl, rfl⟩
/-- The stage that is being read lies there. -/
def SB (gs : Nat) (nm : ByteArray) (hw : Int) (mn : Bool) (cv : Value) (W : World) : Prop := CBox gs #[.string nm, .int .i64 hw, .bool mn, cv] 54 W
theorem two_kp {gr gs : Nat} {W W1 : World} (h : Kp [] W W1) (i j : Nat) (u v : Value) : Kp [gr, gs] W ((W1.setCell ⟨gs, i, none⟩ u).setCell ⟨gr, j, none⟩ v) := ((h.mono (by simp)).trans (Kp.set W1 gs i u) (by simp)).trans (Kp.set _ gr j v) (by simp)
set_option maxHeartbeats 2000000 in
set_option maxRecDepth 100000 in
theorem phow_any {gr gs : Nat} {tk : Value} {l : List Tk} {k : Nat} {sv : Value} {wi rA rC : Int} {W : World} (h : PB gr tk l k sv wi rA rC W) {t : Tk} {r : List Tk} (ht : l.drop k = t :: r) {nm : ByteArray} {hw : Int} {mn : Bool} {cv : Value} (hs : SB gs nm hw mn cv W) (hgs : gr < gs) :
    Calls Tryz.prog 104 #[.pointer (some ⟨gr, 0, none⟩), .pointer (some ⟨gs, 0, none⟩)] W fun e w' => e = .returned (.bool (hwOf (wdT t)).isSome) ∧ PB gr tk l (if (hwOf (wdT t)).isSome then k + 1 else k) sv wi rA rC w' ∧ SB gs nm (if (hwOf (wdT t)).isSome then (hwOf (wdT t)).getD 0 else hw) mn cv w' ∧ Kp [gr, gs] W w' := by
  have WD := hide (pword_any h ht)
  have hk : k ≤ 100000 := by obtain ⟨hk, _⟩ := drop_at ht; have := h.len; omega
  have HR := hide h
  have HS := hide hs
  have HO := hide (fun W => howOf_any (wdS t) W)
  rw [wdS_list] at HO
  clear h ht hs
  generalize wdS t = S at *
  generalize hwOf (wdT t) = Q at *
  cases Q with
  | none =>
    simp only [Option.isSome_none, Option.getD_none] at HO ⊢
    rw [if_neg (by simp), if_neg (by simp)]
    go_enter Tryz.func104, Tryz.ntmps104
    go_wp2_with fail
    refine (unhide WD).mono ?_
    rintro e w1 ⟨rfl, hb⟩
    have HR1 := hide ((unhide HR).kp (Kp.ofBelow hb) (by simp))
    have HS1 := hide (CBox.kp (unhide HS) (Kp.ofBelow hb) (by simp))
    have HB := hide ((Kp.ofBelow hb).mono (G := [gr, gs]) (by simp))
    clear hb HR WD HS
    dsimp only
    go_wp2_with fail
    refine (unhide HO _).mono ?_
    rintro e w2 ⟨rfl, rfl⟩
    clear HO
    go_wp2
    exact bodyPost_ret (results_tmp rfl _ _ _) rfl ⟨rfl, unhide HR1, unhide HS1, unhide HB⟩
  | some q =>
    simp only [Option.isSome_some, Option.getD_some] at HO ⊢
    rw [if_pos trivial, if_pos trivial]
    go_enter Tryz.func104, Tryz.ntmps104
    go_wp2_with fail
    refine (unhide WD).mono ?_
    rintro e w1 ⟨rfl, hb⟩
    have HR1 := hide ((unhide HR).kp (Kp.ofBelow hb) (by simp))
    have hs1 : SB gs nm hw mn cv w1 := CBox.kp (unhide HS) (Kp.ofBelow hb) (by simp)
    have z1 := hs1.cell (i := 1) (v := .int .i64 hw) rfl
    have zf := CBox.froz hs1
    have HR2 : Hid (PB gr tk l k sv wi rA rC (w1.setCell ⟨gs, 1, none⟩ (.int .i64 q))) := hide ((unhide HR1).kp (Kp.set w1 gs 1 _) (by simpa using hgs))
    obtain ⟨_, c1, _, _, _, _, fz⟩ := (unhide HR2).cells
    have HS2 : Hid (SB gs nm q mn cv (w1.setCell ⟨gs, 1, none⟩ (.int .i64 q))) := hide (hs1.set 1 _)
    have HS3 : Hid (SB gs nm q mn cv ((w1.setCell ⟨gs, 1, none⟩ (.int .i64 q)).setCell ⟨gr, 1, none⟩ (.int .i64 ((k : Int) + 1)))) := hide (CBox.kp (unhide HS2) (Kp.set _ gr 1 _) (by simp; omega))
    have HB := hide (Kp.ofBelow hb)
    have hltg : gs < w1.heap.size := (Array.getElem?_eq_some_iff.1 hs1).1
    clear hb HR WD HS hs1
    dsimp only
    go_wp2_with fail
    refine (unhide HO _).mono ?_
    rintro e w2 ⟨rfl, rfl⟩
    clear HO
    go_wp2
    exact bodyPost_ret (results_tmp rfl _ _ _) rfl ⟨rfl, (unhide HR2).next, unhide HS3, two_kp (unhide HB) _ _ _ _⟩
set_option maxHeartbeats 2000000 in
set_option maxRecDepth 100000 in
theorem pname_any {gr gs : Nat} {tk : Value} {l : List Tk} {k : Nat} {sv : Value} {wi rA rC : Int} {W : World} (h : PB gr tk l k sv wi rA rC W) {t : Tk} {r : List Tk} (ht : l.drop k = t :: r) {nm : ByteArray} {hw : Int} {mn : Bool} {cv : Value} (hs : SB gs nm hw mn cv W) (hgs : gr < gs) :
    Calls Tryz.prog 105 #[.pointer (some ⟨gr, 0, none⟩), .pointer (some ⟨gs, 0, none⟩)] W fun e w' => e = .returned (.bool (isSg (wdS t))) ∧ PB gr tk l (if isSg (wdS t) then k + 1 else k) sv wi rA rC w' ∧ SB gs (if isSg (wdS t) then wdS t else nm) hw mn cv w' ∧ Kp [gr, gs] W w' := by
  have WD := hide (pword_any h ht)
  have hkt := drop_at ht
  have hk : k ≤ 100000 := by obtain ⟨hk, _⟩ := hkt; have := h.len; omega
  have hsz : (wdS t).size ≤ 9223372036854775807 := by
    obtain ⟨hk, he, _⟩ := hkt
    have := h.ok t (by rw [← he]; exact List.getElem_mem _)
    unfold wdS
    split
    · exact this.2.1
    · show (0 : Nat) ≤ _; omega
  have HR := hide h
  have HS := hide hs
  have HIN := hide (fun W hW => isName_any (wdS t) W hW hsz)
  clear h ht hs hkt
  generalize wdS t = S at *
  generalize isSg S = Q at *
  cases Q with
  | false =>
    rw [if_neg (by simp), if_neg (by simp)]
    go_enter Tryz.func105, Tryz.ntmps105
    go_wp2_with fail
    refine (unhide WD).mono ?_
    rintro e w1 ⟨rfl, hb⟩
    have HR1 := hide ((unhide HR).kp (Kp.ofBelow hb) (by simp))
    have HS1 := hide (CBox.kp (unhide HS) (Kp.ofBelow hb) (by simp))
    have HB := hide (Kp.ofBelow hb)
    have IN := hide (unhide HIN w1 (unhide HR1).tab)
    clear hb HR WD HS HIN
    go_wp2_with fail
    refine (unhide IN).mono ?_
    rintro e w2 ⟨rfl, hb2⟩
    have HR2 := hide ((unhide HR1).kp (Kp.ofBelow hb2) (by simp))
    have HS2 := hide (CBox.kp (unhide HS1) (Kp.ofBelow hb2) (by simp))
    have HB2 := hide (((unhide HB).trans (Kp.ofBelow hb2) (by simp)).mono (G := [gr, gs]) (by simp))
    clear hb2 HR1 HS1 HB IN
    go_wp2
    exact bodyPost_ret (results_tmp rfl _ _ _) rfl ⟨rfl, unhide HR2, unhide HS2, unhide HB2⟩
  | true =>
    rw [if_pos rfl, if_pos rfl]
    go_enter Tryz.func105, Tryz.ntmps105
    go_wp2_with fail
    refine (unhide WD).mono ?_
    rintro e w1 ⟨rfl, hb⟩
    have HR1 := hide ((unhide HR).kp (Kp.ofBelow hb) (by simp))
    have HS1 := hide (CBox.kp (unhide HS) (Kp.ofBelow hb) (by simp))
    have HB := hide (Kp.ofBelow hb)
    have IN := hide (unhide HIN w1 (unhide HR1).tab)
    clear hb HR WD HS HIN
    go_wp2_with fail
    refine (unhide IN).mono ?_
    rintro e w2 ⟨rfl, hb2⟩
    have hs2 : SB gs nm hw mn cv w2 := CBox.kp (unhide HS1) (Kp.ofBelow hb2) (by simp)
    have z1 := hs2.cell (i := 0) (v := .string nm) rfl
    have zf := CBox.froz hs2
    have HR2 : Hid (PB gr tk l k sv wi rA rC (w2.setCell ⟨gs, 0, none⟩ (.string S))) := hide (((unhide HR1).kp (Kp.ofBelow hb2) (by simp)).kp (Kp.set w2 gs 0 _) (by simpa using hgs))
    obtain ⟨_, c1, _, _, _, _, fz⟩ := (unhide HR2).cells
    have HS2 : Hid (SB gs S hw mn cv (w2.setCell ⟨gs, 0, none⟩ (.string S))) := hide (hs2.set 0 _)
    have HS3 : Hid (SB gs S hw mn cv ((w2.setCell ⟨gs, 0, none⟩ (.string S)).setCell ⟨gr, 1, none⟩ (.int .i64 ((k : Int) + 1)))) := hide (CBox.kp (unhide HS2) (Kp.set _ gr 1 _) (by simp; omega))
    have HB2 := hide ((unhide HB).trans (Kp.ofBelow hb2) (by simp))
    have hltg : gs < w2.heap.size := (Array.getElem?_eq_some_iff.1 hs2).1
    clear hb2 HR1 HS1 HB IN hs2
    go_wp2
    exact bodyPost_ret (results_tmp rfl _ _ _) rfl ⟨rfl, (unhide HR2).next, unhide HS3, two_kp (unhide HB2) _ _ _ _⟩
end Go.Proofs.YtjijhefmbmdbeaaGreatDoor
namespace Go.Proofs.YtjijhefmbmdbeaaGreatDoor
open Go.RowKit Go.Shelf

theorem TksAt.drop {w : World} {b off : Nat} {l : List Tk} (h : TksAt w (some ⟨b, off, none⟩) l) (k : Nat) : TksAt w (some ⟨b, off + k * 4, none⟩) (l.drop k) := fun hne => by
  have hl : k < l.length := by
    rcases Nat.lt_or_ge k l.length with h1 | h1
    · exact h1
    · exact absurd (List.drop_eq_nil_of_le h1) hne
  obtain ⟨b', off', e, hlt, hc⟩ := h (fun e => by rw [e] at hl; simp at hl)
  cases e
  refine ⟨b, off + k * 4, rfl, hlt, fun i hi => ?_⟩
  rw [List.length_drop] at hi
  have := hc (k + i) (by omega)
  rw [show off + (k + i) * 4 = off + k * 4 + i * 4 by omega] at this
  simpa [List.getElem_drop] using this
theorem TksLow.at' {B : Nat} {w : World} {b off c : Nat} {l : List Tk} (h : TksLow B w (.slice (some ⟨b, off, none⟩) l.length c) l) (hB : B ≤ w.heap.size) : TksAt w (some ⟨b, off, none⟩) l := fun _ => by
  obtain ⟨b', off', c', e, hlt, hc⟩ := h
  cases e
  exact ⟨b, off, rfl, by omega, hc⟩
theorem Kp.drew2 {F : List Nat} {X Y : World} (h : Kp F X Y) : Kp F X.drew Y.drew := ⟨h.os, h.tape, h.output, h.size, h.block⟩
theorem new_set {W V : World} (h : Kp [] W V) {g : Nat} (hg : W.heap.size ≤ g) (x y : Value) : Kp [] W ((V.setCell ⟨g, 0, none⟩ x).setCell ⟨g, 1, none⟩ y) :=
  (h.trans (Kp.set V g 0 x) (fun z hz => Or.inr (by simp at hz; omega))).trans (Kp.set _ g 1 y) (fun z hz => Or.inr (by simp at hz; omega))
set_option maxHeartbeats 4000000 in
set_option maxRecDepth 100000 in
theorem pcond_any {gr gs : Nat} {tk : Value} {l : List Tk} {k n : Nat} {sv : Value} {wi rA rC : Int} {W : World} (h : PB gr tk l k sv wi rA rC W) (hk : k < l.length) (hL : Tail (l.drop k) n) {nm : ByteArray} {hw : Int} {mn : Bool} {cv : Value} (hs : SB gs nm hw mn cv W) (hgs : gr < gs) :
    Calls Tryz.prog 106 #[.pointer (some ⟨gr, 0, none⟩), .pointer (some ⟨gs, 0, none⟩)] W fun e w' => ∃ ad cp j A C x, e = .returned (.bool (decide (C = 0))) ∧ PB gr tk l (k + j) sv wi A C w' ∧ SB gs nm hw mn (.slice ad x.length cp) w' ∧ OwnsP W.heap.size w' (.slice ad x.length cp) x ∧ PsF (l.drop k) x j A C ∧ Kp [gr, gs] W w' := by
  obtain ⟨b, off, cap, htk, hcp1, hcp2⟩ := h.cap
  subst htk
  have hlen := h.len
  have hA := ((h.tks.at' (by have := h.lt; omega)).drop k)
  have hTb := h.tab
  have HEP := hide (fun V (hk : Kp [] W V) => eparse_any b (off + k * 4) (cap - k) (l.drop k) n hL V (hTb.kp hk (by simp)) (by rw [List.length_drop]; omega) (by omega) (hA.kp hk))
  rw [List.length_drop] at HEP
  obtain ⟨c0, c1, c2, c3, c4, c5, fz⟩ := h.cells
  have HR := hide h
  have HS := hide hs
  have hltr := h.lt
  have HCK : Hid (∀ V, Kp [] W V → V.cell? ⟨gr, 0, none⟩ = some (.slice (some ⟨b, off, none⟩) l.length cap) ∧ V.cell? ⟨gr, 1, none⟩ = some (.int .i64 (k : Int))) := hide (fun V hk => ⟨hk.cell c0 (by simp), hk.cell c1 (by simp)⟩)
  have ka : Kp [] W W.drew := Kp.drew W
  have kb : Kp [] W (W.alloc (.cells #[.int .i64 0, .int .i64 0] 61)).drew := (Kp.alloc W _).trans (Kp.drew _) (by simp)
  have fbb : FBox W.heap.size (W.alloc (.cells #[.int .i64 0, .int .i64 0] 61)).drew := CBox.new W _ _
  have sa := unhide HCK _ ka
  have sb := unhide HCK _ kb
  have HKA := hide ka
  have HKB := hide kb
  have HFB := hide fbb
  have hkl : (k : Int) ≤ (l.length : Int) := by omega
  have hkc : (k : Int) ≤ (cap : Int) := by omega
  have hlc : (l.length : Int) ≤ (cap : Int) := by omega
  have hck : (cap = k) = False := by simp; omega
  have HPA := hide (unhide HEP _ ka)
  have HPB := hide (unhide HEP _ kb)
  clear h hs hA hTb c0 c1 c2 c3 c4 c5 fz fbb HEP
  obtain ⟨LN, hLN⟩ : ∃ q, l.length = q := ⟨_, rfl⟩
  have HLN := hide hLN
  rw [hLN] at sa sb HPA HPB HCK hkl hlc hk hcp1 hlen
  clear hLN
  go_enter Tryz.func106, Tryz.ntmps106
  go_wp2_with fail
  go_cut [5, 6, 7] (fun v5 v6 v7 wc => ∃ gf ad cp j A C x, v5 = .slice ad (x : List Pt).length cp ∧ v6 = .int .i64 ((j : Nat) : Int) ∧ v7 = .pointer (some ⟨gf, 0, none⟩) ∧ Hid (CBox gf #[.int .i64 A, .int .i64 C] 61 wc ∧ W.heap.size ≤ gf ∧ OwnsP W.heap.size wc (.slice ad x.length cp) x ∧ PsF (l.drop k) x j A C ∧ Kp [] W wc))
  case first =>
    go_region_held3 (fun V => V.cell? ⟨gr, 0, none⟩ = some (.slice (some ⟨b, off, none⟩) LN cap) ∧ V.cell? ⟨gr, 1, none⟩ = some (.int .i64 (k : Int)))
      (first | with_reducible exact sa | with_reducible exact sb | with_reducible exact sc | with_reducible exact sd | with_reducible exact se | with_reducible exact sf)
      (first
        | (go_at_call 119; (with_reducible refine (unhide HPA).mono ?_); rintro e w1 ⟨ad, cp, j, A, C, x, rfl, ho, hf, hb1⟩; have kw : Kp [] W w1 := ka.trans (Kp.ofBelow hb1) (by simp); have sc := unhide HCK w1 kw; have sd := unhide HCK (w1.alloc (.cells #[.int .i64 0, .int .i64 0] 61)) (kw.trans (Kp.alloc w1 _) (by simp)); have se := unhide HCK (w1.alloc (.cells #[.int .i64 A, .int .i64 C] 61)) (kw.trans (Kp.alloc w1 _) (by simp)))
        | (go_at_call 119; (with_reducible refine (unhide HPB).mono ?_); rintro e w1 ⟨ad, cp, j, A, C, x, rfl, ho, hf, hb1⟩; have kw : Kp [] W w1 := kb.trans (Kp.ofBelow hb1) (by simp); have sc := unhide HCK w1 kw; have sf := unhide HCK _ (new_set kw (Nat.le_refl _) (.int .i64 A) (.int .i64 C)); have hfb : FBox W.heap.size w1 := CBox.kp (unhide HFB) (Kp.ofBelow hb1) (by simp); obtain ⟨f0, f1, z0, z1⟩ := FBox.cells hfb))
    · go_wp2_with fail
      go_meet
      refine ⟨w1.heap.size, ad, cp, j, A, C, x, rfl, rfl, rfl, hide ⟨CBox.new w1 _ _, kw.size, ?_, hf, kw.trans (Kp.alloc w1 _) (by simp)⟩⟩
      exact (ho.mono (Nat.le_refl _)).kp (Kp.alloc w1 _)
    · go_wp2_with fail
      go_meet
      refine ⟨W.heap.size, ad, cp, j, A, C, x, rfl, rfl, rfl, hide ⟨FBox.two hfb _ _, Nat.le_refl _, ?_, hf, new_set kw (Nat.le_refl _) _ _⟩⟩
      have hne := row_ne ho hfb (by decide)
      refine row_kp (F := [W.heap.size]) (ho.mono (by have := kb.size; omega)) ((Kp.set w1 W.heap.size 0 (.int .i64 A)).trans (Kp.set (w1.setCell ⟨W.heap.size, 0, none⟩ (.int .i64 A)) W.heap.size 1 (.int .i64 C)) (by simp)) (fun g hg => by rw [hg] at hne; simp at hne ⊢; exact hne)
  case rest =>
    obtain ⟨gf, ad, cp, j, A, C, x, rfl, rfl, rfl, HX⟩ := hcut
    obtain ⟨hf, hgf, ho, hps, hkw⟩ := unhide HX
    have hltw := hkw.size
    have hgsl : gs < W.heap.size := (Array.getElem?_eq_some_iff.1 (unhide HS)).1
    have h1 := (unhide HR).kp (hkw.trans (Kp.drew wc) (by simp)) (by simp)
    have h2 : SB gs nm hw mn cv wc.drew := CBox.kp (CBox.kp (unhide HS) hkw (by simp)) (Kp.drew wc) (by simp)
    have h3 : CBox gf #[.int .i64 A, .int .i64 C] 61 wc.drew := CBox.kp hf (Kp.drew wc) (by simp)
    have f0 := h3.cell (i := 0) (v := .int .i64 A) rfl
    have f1 := h3.cell (i := 1) (v := .int .i64 C) rfl
    have s3 := CBox.cell h2 (i := 3) (v := cv) rfl
    have sz := CBox.froz h2
    obtain ⟨_, c1, _, _, c4, c5, fz⟩ := h1.cells
    obtain ⟨_, p1, _, _, p4, p5, pz⟩ := ((unhide HR).kp hkw (by simp)).cells
    have p4z := pz 4
    have p5z := pz 5
    have HPS := hide hps
    have k1 : Kp [gs] wc (wc.setCell ⟨gs, 3, none⟩ (.slice ad x.length cp)).drew := (Kp.set wc gs 3 (.slice ad x.length cp)).trans (Kp.drew _) (by simp)
    have h2b : SB gs nm hw mn (.slice ad x.length cp) (wc.setCell ⟨gs, 3, none⟩ (.slice ad x.length cp)).drew := CBox.set h2 3 _
    have h1b := ((unhide HR).kp hkw (by simp)).kp k1 (by simpa using hgs)
    have h3b : CBox gf #[.int .i64 A, .int .i64 C] 61 (wc.setCell ⟨gs, 3, none⟩ (.slice ad x.length cp)).drew := CBox.kp hf k1 (by simp; omega)
    have g0 := h3b.cell (i := 0) (v := .int .i64 A) rfl
    have g1 := h3b.cell (i := 1) (v := .int .i64 C) rfl
    obtain ⟨_, d1, _, _, d4, d5, dz⟩ := h1b.cells
    have kgr : Kp [gr] (wc.setCell ⟨gs, 3, none⟩ (.slice ad x.length cp)).drew (((wc.setCell ⟨gs, 3, none⟩ (.slice ad x.length cp)).setCell ⟨gr, 4, none⟩ (.int .i64 A)).setCell ⟨gr, 5, none⟩ (.int .i64 C)).drew := ((Kp.set (wc.setCell ⟨gs, 3, none⟩ (.slice ad x.length cp)) gr 4 (.int .i64 A)).trans (Kp.set _ gr 5 (.int .i64 C)) (by simp)).drew2
    have h1c : PB gr (.slice (some ⟨b, off, none⟩) l.length cap) l k sv wi A C (((wc.setCell ⟨gs, 3, none⟩ (.slice ad x.length cp)).setCell ⟨gr, 4, none⟩ (.int .i64 A)).setCell ⟨gr, 5, none⟩ (.int .i64 C)).drew := h1b.put kgr ((h1b.box.set 4 _).set 5 _)
    obtain ⟨_, e1, _, _, _, _, ez⟩ := h1c.cells
    have kc : Kp [gr, gs] wc (((wc.setCell ⟨gs, 3, none⟩ (.slice ad x.length cp)).setCell ⟨gr, 4, none⟩ (.int .i64 A)).setCell ⟨gr, 5, none⟩ (.int .i64 C)).drew := (k1.mono (by simp)).trans kgr (by simp)
    have h2c : SB gs nm hw mn (.slice ad x.length cp) (((wc.setCell ⟨gs, 3, none⟩ (.slice ad x.length cp)).setCell ⟨gr, 4, none⟩ (.int .i64 A)).setCell ⟨gr, 5, none⟩ (.int .i64 C)).drew := CBox.kp h2b kgr (by simp; omega)
    have h3c : CBox gf #[.int .i64 A, .int .i64 C] 61 (((wc.setCell ⟨gs, 3, none⟩ (.slice ad x.length cp)).setCell ⟨gr, 4, none⟩ (.int .i64 A)).setCell ⟨gr, 5, none⟩ (.int .i64 C)).drew := CBox.kp hf kc (by simp; omega)
    have hoc : OwnsP W.heap.size (((wc.setCell ⟨gs, 3, none⟩ (.slice ad x.length cp)).setCell ⟨gr, 4, none⟩ (.int .i64 A)).setCell ⟨gr, 5, none⟩ (.int .i64 C)).drew (.slice ad x.length cp) x := row_kp ho kc (fun g hg => by have := (World.ownsRow.lt ho g hg).1; simp; omega)
    have HE1 := hide h1c
    have HE2 := hide h2c
    have HE3 := hide hoc
    have HE4 := hide ((hkw.mono (G := [gr, gs]) (by simp)).trans kc (by simp))
    have hjl : k + j ≤ 100000 := by
      rcases hps with ⟨_, _, hj, _⟩ | ⟨_, hj, _⟩
      · rw [List.length_drop, unhide HLN] at hj; omega
      · omega
    have HE6 : Hid (∀ V, V = (((wc.setCell ⟨gs, 3, none⟩ (.slice ad x.length cp)).setCell ⟨gr, 4, none⟩ (.int .i64 A)).setCell ⟨gr, 5, none⟩ (.int .i64 C)).drew → V.cell? ⟨gf, 0, none⟩ = some (.int .i64 A) ∧ (V.setCell ⟨gr, 1, none⟩ (.int .i64 ((k : Int) + (j : Int)))).cell? ⟨gf, 1, none⟩ = some (.int .i64 C)) := hide (fun V e => by
      subst e
      exact ⟨h3c.cell rfl, (CBox.kp h3c (Kp.set _ gr 1 _) (by simp; omega)).cell rfl⟩)
    clear HX hf hgf ho hps hkw h1 h2 h3 h2b h1b kgr kc k1 h1c h2c h3c h3b hoc HS HR HKA HKB HFB HCK ka kb HPA HPB sa sb
    obtain ⟨XL, hXL⟩ : ∃ q, x.length = q := ⟨_, rfl⟩
    have HXL := hide hXL
    rw [hXL] at HE1 HE2 HE3 HE4 HE6 d1 d4 d5 dz e1 ez g0 g1 ⊢
    clear hXL
    go_wp2_with fail
    go_region
    clear f0 f1 s3 sz c1 c4 c5 fz g0 g1 d1 d4 d5 dz p1 p4 p5 pz p4z p5z
    obtain ⟨_, g1⟩ := unhide HE6 _ rfl
    generalize (((wc.setCell ⟨gs, 3, none⟩ (.slice ad XL cp)).setCell ⟨gr, 4, none⟩ (.int .i64 A)).setCell ⟨gr, 5, none⟩ (.int .i64 C)).drew = V at *
    go_wp2_with fail
    have ekj : ((k : Int) + (j : Int)) = ((k + j : Nat) : Int) := by omega
    have F1 : PB gr (.slice (some ⟨b, off, none⟩) l.length cap) l (k + j) sv wi A C (V.setCell ⟨gr, 1, none⟩ (.int .i64 ((k : Int) + (j : Int)))) := by
      rw [ekj]
      exact (unhide HE1).put (Kp.set V gr 1 _) ((unhide HE1).box.set 1 _)
    refine bodyPost_ret (results_tmp rfl _ _ _) rfl ⟨ad, cp, j, A, C, x, rfl, F1, ?_, ?_, unhide HPS, (unhide HE4).trans (Kp.set V gr 1 _) (by simp)⟩
    · rw [unhide HXL]
      exact CBox.kp (unhide HE2) (Kp.set V gr 1 _) (by simp; omega)
    · rw [unhide HXL]
      have ho := unhide HE3
      exact row_kp ho (Kp.set V gr 1 _) (fun g hg => by have := (World.ownsRow.lt ho g hg).1; simp; omega)
end Go.Proofs.YtjijhefmbmdbeaaGreatDoor
