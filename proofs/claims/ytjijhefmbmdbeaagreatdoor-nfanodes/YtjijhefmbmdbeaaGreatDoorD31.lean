/-
  Read: any text is read as a pattern as the plain function has it.
-/
import Derived.Test.YtjijhefmbmdbeaaGreatDoorD30
namespace Go.Proofs.YtjijhefmbmdbeaaGreatDoor
open Go.RowKit Go.Shelf

set_option maxHeartbeats 2000000 in
set_option maxRecDepth 100000 in
theorem pfault_any {gr : Nat} {tk : Value} {l : List Tk} {k : Nat} {sv : Value} {wi A C a c : Int} {W : World} (h : PB gr tk l k sv wi A C W) (hk : k < l.length) (hf : (C ≠ 0 ∧ a = A ∧ c = C) ∨ (C = 0 ∧ a = hdPl (l.drop k) ∧ c = 120)) :
    Calls Tryz.prog 51 #[.pointer (some ⟨gr, 0, none⟩)] W fun e w' => e = .returned (.agg #[.int .i64 a, .int .i64 c]) ∧ Below W.heap.size W w' := by
  have hlen := h.len
  have hgl := h.lt
  have kf := Kp.alloc W (.cells #[.int .i64 0, .int .i64 0] 61)
  have h1 := h.kp kf (by simp)
  have fb : FBox W.heap.size (W.alloc (.cells #[.int .i64 0, .int .i64 0] 61)) := CBox.new W _ _
  have HB := hide ((Below.refl W.heap.size W).alloc (Nat.le_refl _) (.cells #[.int .i64 0, .int .i64 0] 61))
  obtain ⟨c0, c1, _, _, c4, c5, _⟩ := h1.cells
  rcases hf with ⟨hC, rfl, rfl⟩ | ⟨rfl, rfl, rfl⟩
  · have gC : (c == 0) = false := beq_eq_false_iff_ne.2 hC
    obtain ⟨f0, f1, z0, z1⟩ := FBox.cells fb
    have HFB := hide fb
    clear h h1 kf fb hC c0 c1
    go_enter Tryz.func51, Tryz.ntmps51
    go_wp2
    obtain ⟨y0, y1⟩ := two_cells (CBox.new W #[.int .i64 a, .int .i64 c] 61)
    exact bodyPost_ret (v := .agg #[.int .i64 a, .int .i64 c]) (by simp [results, Tryz.results51, go_sem, y0, y1]) rfl ⟨rfl, (Below.refl W.heap.size W).alloc (Nat.le_refl _) _⟩
  · obtain ⟨b, off, cap, htk, hlt, hc⟩ := h1.tks
    obtain ⟨_, _, _, x3⟩ := hc k hk
    rw [htk] at c0
    rw [pl_at hk]
    have hki : (k : Int) < (l.length : Int) := by omega
    have HFB := hide fb
    obtain ⟨f0, f1, z0, z1⟩ := FBox.cells fb
    clear h h1 kf fb hc htk
    generalize l[k].pl = PL at *
    go_enter Tryz.func51, Tryz.ntmps51
    go_wp2
    go_region
    go_wp2
    have q2 : CBox W.heap.size #[.int .i64 PL, .int .i64 120] 61 (W.alloc (.cells #[.int .i64 PL, .int .i64 120] 61)).drew := CBox.new W _ _
    obtain ⟨y0, y1⟩ := two_cells q2
    exact bodyPost_ret (v := .agg #[.int .i64 PL, .int .i64 120]) (by simp [results, Tryz.results51, go_sem, y0, y1]) rfl ⟨rfl, ((Below.refl W.heap.size W).alloc (Nat.le_refl _) _).drew⟩
/-! What is read can be held. -/
def SRd.fits : SRd → Prop
  | .bad _ _ => True
  | .good s _ => s.ok
theorem cdR_fits (h : Int) (hh : 0 ≤ h ∧ h ≤ 3) (nm : ByteArray) (hn : nm.size ≤ 9223372036854775807) (m : Bool) (l : List Tk) (hl : ∀ t ∈ l, t.ok) : (cdR h nm m l).fits := by
  unfold cdR
  have hf := pRd_fits (mRd 0 l) 0 0 [] l hl (by simp)
  unfold psR
  cases hp : pRd (mRd 0 l) 0 0 [] l with
  | bad q => exact trivial
  | good x q =>
    rw [hp] at hf
    dsimp only
    split
    · exact trivial
    · split
      · exact ⟨hn, ⟨by dsimp only; omega, by dsimp only; omega⟩, hf⟩
      · exact trivial
theorem drop_ok {l : List Tk} (hl : ∀ t ∈ l, t.ok) (k : Nat) : ∀ t ∈ l.drop k, t.ok := fun t ht => hl t (List.mem_of_mem_drop ht)
theorem clR_fits (h : Int) (hh : 0 ≤ h ∧ h ≤ 3) (nm : ByteArray) (hn : nm.size ≤ 9223372036854775807) (m : Bool) (l : List Tk) (hl : ∀ t ∈ l, t.ok) : (clR h nm m l).fits := by
  unfold clR
  split
  · exact cdR_fits h hh nm hn m _ (drop_ok hl 1)
  · exact trivial
theorem hwOf_rng {s : List UInt8} {h : Int} (e : hwOf s = some h) : 0 ≤ h ∧ h ≤ 3 := by
  unfold hwOf at e
  repeat' split at e
  all_goals first | (cases e; omega) | cases e
theorem wdM_size {l : List Tk} (hl : ∀ t ∈ l, t.ok) : (wdM l).size ≤ 9223372036854775807 := by
  cases l with
  | nil => show (0 : Nat) ≤ _; omega
  | cons t r =>
    show (wdS t).size ≤ _
    unfold wdS
    split
    · exact (hl t (by simp)).2.1
    · show (0 : Nat) ≤ _; omega
theorem stgR_fits (l : List Tk) (hl : ∀ t ∈ l, t.ok) : (stgR l).fits := by
  unfold stgR
  cases hq : hwOf (wdL l) with
  | none => exact trivial
  | some h =>
    have hh := hwOf_rng hq
    dsimp only
    unfold nmR
    split
    · unfold mnR
      have hn := wdM_size (drop_ok hl 1)
      split
      · exact clR_fits h hh _ hn _ _ (drop_ok (drop_ok (drop_ok hl 1) 1) 1)
      · exact clR_fits h hh _ hn _ _ (drop_ok (drop_ok hl 1) 1)
    · exact trivial
theorem cdR_suf {h : Int} {nm : ByteArray} {m : Bool} {l : List Tk} {s : Stg} {r : List Tk} (hr : cdR h nm m l = .good s r) : r <:+ l := by
  unfold cdR at hr
  have hs := pRd_suf (mRd 0 l) 0 0 [] l
  unfold psR at hr
  cases hp : pRd (mRd 0 l) 0 0 [] l with
  | bad q => rw [hp] at hr; cases hr
  | good x q =>
    rw [hp] at hr hs
    dsimp only at hr
    split at hr
    · cases hr
    · split at hr
      · cases hr
        exact (List.drop_suffix 1 q).trans hs
      · cases hr
theorem clR_suf {h : Int} {nm : ByteArray} {m : Bool} {l : List Tk} {s : Stg} {r : List Tk} (hr : clR h nm m l = .good s r) : r <:+ l := by
  unfold clR at hr
  split at hr
  · exact (cdR_suf hr).trans (List.drop_suffix 1 l)
  · cases hr
theorem stgR_suf {l : List Tk} {s : Stg} {r : List Tk} (hr : stgR l = .good s r) : r <:+ l := by
  unfold stgR at hr
  cases hq : hwOf (wdL l) with
  | none => rw [hq] at hr; cases hr
  | some h =>
    rw [hq] at hr
    dsimp only at hr
    unfold nmR at hr
    split at hr
    · unfold mnR at hr
      split at hr
      · exact ((clR_suf hr).trans (List.drop_suffix 1 _)).trans ((List.drop_suffix 1 _).trans (List.drop_suffix 1 l))
      · exact (clR_suf hr).trans ((List.drop_suffix 1 _).trans (List.drop_suffix 1 l))
    · cases hr
theorem ptR_fits (f : Nat) : ∀ (acc : List Stg) (l : List Tk) (p : Ptn), (∀ s ∈ acc, s.ok) → (∀ t ∈ l, t.ok) → ptR f acc l = .good p → (∀ s ∈ p.ss, s.ok) ∧ -9223372036854775808 ≤ p.wi ∧ p.wi ≤ 257 ∧ p.ss.length ≤ acc.length + f := by
  induction f with
  | zero => intro acc l p _ _ h; rw [ptR] at h; cases h
  | succ f ih =>
    intro acc l p ha hl h
    rw [ptR] at h
    split at h
    · unfold nbR at h
      cases hd : l.drop 1 with
      | nil => rw [hd] at h; cases h
      | cons t r =>
        rw [hd] at h
        dsimp only at h
        split at h
        · split at h
          · cases h
            have ht := drop_ok hl 1 t (by rw [hd]; simp)
            refine ⟨ha, ?_, ?_, by dsimp only; omega⟩
            · dsimp only; have := ht.2.2.1.1; split <;> omega
            · dsimp only; split <;> omega
          · cases h
        · cases h
    · split at h
      · cases h
      · cases hs : stgR l with
        | bad a c => rw [hs] at h; cases h
        | good s r =>
          rw [hs] at h
          dsimp only at h
          have h1 := stgR_fits l hl
          rw [hs] at h1
          have h2 := ih (acc ++ [s]) r p (fun x hx => by rcases List.mem_append.1 hx with hx | hx; exact ha x hx; simp only [List.mem_singleton] at hx; subst hx; exact h1) (suf_mem (stgR_suf hs) hl) h
          rw [List.length_append, List.length_singleton] at h2
          exact ⟨h2.1, h2.2.1, h2.2.2.1, by omega⟩
theorem row_mono {B B' : Nat} {w : World} {e : TypeId} {sz : Nat} {v : Value} {n : Nat} {xs : List Value} (h : w.ownsRow B e sz v n xs) (hB : B' ≤ B) : w.ownsRow B' e sz v n xs := by
  obtain ⟨h1, h2 | ⟨g, cp, cur, h2, h3, h4⟩⟩ := h
  · exact ⟨h1, Or.inl h2⟩
  · exact ⟨h1, Or.inr ⟨g, cp, cur, h2, by omega, h4⟩⟩
theorem OwnsG.mono {B B' : Nat} {w : World} {v : Value} {l : List SR} (h : OwnsG B w v l) (hB : B' ≤ B) : OwnsG B' w v l := ⟨row_mono h.row hB, fun r hr => row_mono (h.cds r hr) hB⟩
theorem pc_code (p : Ptn) : (pcR p).2 = 0 ∨ (pcR p).2 = 120 := by
  unfold pcR
  split
  · exact Or.inr rfl
  · split
    · exact Or.inr rfl
    · split
      · exact Or.inl rfl
      · exact Or.inr rfl
def poR : PRd → PO
  | .bad a c => ⟨noP, a, c⟩
  | .good p => if (pcR p).2 = 0 then ⟨p, 0, 0⟩ else ⟨noP, 0, 120⟩
theorem rdPG_eq (n : Nat) (ts : List Tk) : rdPG n ts = poR (ptR 9 [] (ts ++ [endZ n])) := by
  unfold rdPG poR
  cases ptR 9 [] (ts ++ [endZ n]) <;> rfl
/-- What Read gives. -/
def RdPT (B : Nat) (o : PO) (e : Ending) (w' : World) : Prop := ∃ ad cp rs, e = .returned (.tuple #[.agg #[.slice ad (rs : List SR).length cp, .int .i64 o.p.wi], .agg #[.int .i64 o.at_, .int .i64 o.c]]) ∧ OwnsG B w' (.slice ad rs.length cp) rs ∧ stgs rs = o.p.ss
theorem RdPT.none {B : Nat} {o : PO} {a c : Int} {w' : World} (h : o = ⟨noP, a, c⟩) : RdPT B o (.returned (.tuple #[.agg #[.slice Option.none 0 0, .int .i64 0], .agg #[.int .i64 a, .int .i64 c]])) w' := by
  subst h
  exact ⟨Option.none, 0, [], rfl, OwnsG.nil _ _, rfl⟩
theorem rp_b0 (w : World) (cs : Array Value) (t : TypeId) (B : Obj) : CBox w.heap.size cs t ((w.alloc (.cells cs t)).alloc B) := CBox.kp (CBox.new w _ _) (Kp.alloc _ _) (by simp)
theorem rp_b1 (w : World) (cs : Array Value) (t : TypeId) (A : Obj) : CBox (w.heap.size + 1) cs t ((w.alloc A).alloc (.cells cs t)) := by
  have := CBox.new (w.alloc A) cs t
  rwa [show (w.alloc A).heap.size = w.heap.size + 1 by simp] at this
theorem two_box {g : Nat} {a b : Value} {t : TypeId} {w : World} (h : CBox g #[a, b] t w) : w.cell? ⟨g, 0, none⟩ = some a ∧ w.cell? ⟨g, 1, none⟩ = some b ∧ w.frozen? ⟨g, 0, none⟩ = false ∧ w.frozen? ⟨g, 1, none⟩ = false := ⟨h.cell rfl, h.cell rfl, h.froz 0, h.froz 1⟩
/-- The answer's two boxes, written. -/
theorem rp_put {w V : World} {a b c d : Value} (hP : CBox w.heap.size #[a, b] 24 V) (hF : CBox (w.heap.size + 1) #[c, d] 61 V) (x y u v : Value) :
    CBox w.heap.size #[x, y] 24 ((((V.setCell ⟨w.heap.size, 0, none⟩ x).setCell ⟨w.heap.size, 1, none⟩ y).setCell ⟨w.heap.size + 1, 0, none⟩ u).setCell ⟨w.heap.size + 1, 1, none⟩ v) ∧ CBox (w.heap.size + 1) #[u, v] 61 ((((V.setCell ⟨w.heap.size, 0, none⟩ x).setCell ⟨w.heap.size, 1, none⟩ y).setCell ⟨w.heap.size + 1, 0, none⟩ u).setCell ⟨w.heap.size + 1, 1, none⟩ v) ∧ Kp [w.heap.size, w.heap.size + 1] V ((((V.setCell ⟨w.heap.size, 0, none⟩ x).setCell ⟨w.heap.size, 1, none⟩ y).setCell ⟨w.heap.size + 1, 0, none⟩ u).setCell ⟨w.heap.size + 1, 1, none⟩ v) := by
  have k1 : Kp [w.heap.size] V ((V.setCell ⟨w.heap.size, 0, none⟩ x).setCell ⟨w.heap.size, 1, none⟩ y) := (Kp.set _ _ _ _).trans (Kp.set _ _ _ _) (by simp)
  have k2 : Kp [w.heap.size + 1] ((V.setCell ⟨w.heap.size, 0, none⟩ x).setCell ⟨w.heap.size, 1, none⟩ y) ((((V.setCell ⟨w.heap.size, 0, none⟩ x).setCell ⟨w.heap.size, 1, none⟩ y).setCell ⟨w.heap.size + 1, 0, none⟩ u).setCell ⟨w.heap.size + 1, 1, none⟩ v) := (Kp.set _ _ _ _).trans (Kp.set _ _ _ _) (by simp)
  have p1 : CBox w.heap.size #[x, y] 24 ((V.setCell ⟨w.heap.size, 0, none⟩ x).setCell ⟨w.heap.size, 1, none⟩ y) := (hP.set 0 x).set 1 y
  have f1 : CBox (w.heap.size + 1) #[u, v] 61 ((((V.setCell ⟨w.heap.size, 0, none⟩ x).setCell ⟨w.heap.size, 1, none⟩ y).setCell ⟨w.heap.size + 1, 0, none⟩ u).setCell ⟨w.heap.size + 1, 1, none⟩ v) := CBox.set (CBox.set (hF.kp k1 (by simp)) 0 u) 1 v
  exact ⟨p1.kp k2 (by simp), f1, (k1.mono (by simp)).trans k2 (by simp)⟩
set_option maxHeartbeats 4000000 in
set_option maxRecDepth 100000 in
theorem pread_any (s : ByteArray) (w : World) (hT : TbE w) (hs : s.size ≤ 9223372036854775807) :
    Calls Tryz.prog 34 #[.string s] w fun e w' => RdPT w.heap.size (rdP s) e w' ∧ Below w.heap.size w w' := by
  have k0 : Kp [] w ((w.alloc (.cells #[.slice none 0 0, .int .i64 0] 24)).alloc (.cells #[.int .i64 0, .int .i64 0] 61)) := (Kp.alloc _ _).trans (Kp.alloc _ _) (by simp)
  have hp0 : CBox w.heap.size #[.slice none 0 0, .int .i64 0] 24 ((w.alloc (.cells #[.slice none 0 0, .int .i64 0] 24)).alloc (.cells #[.int .i64 0, .int .i64 0] 61)) := rp_b0 w _ _ _
  have hf0 : CBox (w.heap.size + 1) #[.int .i64 0, .int .i64 0] 61 ((w.alloc (.cells #[.slice none 0 0, .int .i64 0] 24)).alloc (.cells #[.int .i64 0, .int .i64 0] 61)) := rp_b1 w _ _ _
  have TK := hide (tokens_any s _ (hT.kp k0 (by simp)).tok hs)
  have HK0 := hide k0
  have HP0 := hide hp0
  have HF0 := hide hf0
  have HTB := hide hT
  have HRD : Hid (∃ o, rdP s = o) := hide ⟨_, rfl⟩
  clear hT k0 hp0 hf0
  rcases tsR_code s with ⟨ts, h1, h2, h3⟩ | ⟨h1, h2⟩
  · have hL : Tail (ts ++ [endZ s.size]) s.size := ⟨⟨s.data.toList, [], ts, rfl, by simpa using h2, rfl⟩, h3⟩
    have hrd : rdP s = rdPG s.size ts := by unfold rdP; rw [h1]
    rw [hrd]
    rw [h1] at TK
    have e1 : tsL s.size (.good ts) = ts ++ [endZ s.size] := rfl
    rw [e1] at TK
    have e2 : tsA (.good ts) = 0 := rfl
    have e3 : tsC (.good ts) = 0 := rfl
    rw [e2, e3] at TK
    rw [rdPG_eq]
    generalize ts ++ [endZ s.size] = l at *
    generalize s.size = n at *
    clear e1 e2 e3 hrd h1 h2
    obtain ⟨P, hP⟩ : ∃ P, ptR 9 [] l = P := ⟨_, rfl⟩
    rw [hP]
    obtain ⟨O, hO⟩ : ∃ O : PO, poR P = O := ⟨_, rfl⟩
    rw [hO]
    have HO := hide hO
    have HP := hide hP
    have hlen := hL.len
    have HL := hide hL
    clear hO hP hL HRD
    go_enter Tryz.func34, Tryz.ntmps34
    go_wp2_with fail
    refine (unhide TK).mono ?_
    rintro e w1 ⟨v, rfl, ho, hb1⟩
    obtain ⟨av, cv, rfl, hav, hcv⟩ := ho.at
    have k1 : Kp [] ((w.alloc (.cells #[.slice none 0 0, .int .i64 0] 24)).alloc (.cells #[.int .i64 0, .int .i64 0] 61)) w1 := Kp.ofBelow hb1
    have hlow := ho.low (unhide HL).endd.ne
    obtain ⟨tb, tf, tc, etk, htb, htc⟩ := id hlow
    have hcv2 : cv ≤ 9223372036854775807 := by
      obtain ⟨_, ⟨e, _⟩ | ⟨g, cp, cur, e, _, _, _, hm, _⟩⟩ := (id ho : w1.ownsRow _ _ _ _ _ _)
      · injection e with _ _ e3; omega
      · injection e with _ _ e3; unfold maxLen at hm; omega
    injection etk with ea eb ec
    subst ea ec
    have hsz : w.heap.size + 1 < w1.heap.size := by have := k1.size; simp at this; omega
    have kf : Kp [] w1 ((w1.alloc (.cells #[.int .i64 0, .int .i64 0] 61)).alloc (.cells (prC (.slice (some ⟨tb, tf, none⟩) l.length cv) 0 (.slice none 0 0) 0 0 0) 88)) := (Kp.alloc _ _).trans (Kp.alloc _ _) (by simp)
    have hb : CBox (w1.heap.size + 1) (prC (.slice (some ⟨tb, tf, none⟩) l.length cv) 0 (.slice none 0 0) 0 0 0) 88 ((w1.alloc (.cells #[.int .i64 0, .int .i64 0] 61)).alloc (.cells (prC (.slice (some ⟨tb, tf, none⟩) l.length cv) 0 (.slice none 0 0) 0 0 0) 88)) := rp_b1 w1 _ _ _
    have hTw := ((unhide HTB).kp (unhide HK0) (by simp)).kp k1 (by simp)
    have hPB : PB (w1.heap.size + 1) (.slice (some ⟨tb, tf, none⟩) l.length cv) l 0 (.slice none 0 0) 0 0 0 ((w1.alloc (.cells #[.int .i64 0, .int .i64 0] 61)).alloc (.cells (prC (.slice (some ⟨tb, tf, none⟩) l.length cv) 0 (.slice none 0 0) 0 0 0) 88)) :=
      ⟨(hlow.below (kf.below (Nat.le_refl _) (by simp))).mono (by omega), hTw.kp kf (by simp), by have := hTw.low; omega, hb, by omega, (unhide HL).ok, ⟨tb, tf, cv, rfl, hcv, hcv2⟩⟩
    have PT := ppattern_any hPB (unhide HL)
    rw [unhide HP] at PT
    have hW1 := (unhide HK0).trans k1 (by simp)
    have HB1 := hide ((hW1.trans kf (by simp)).below (Nat.le_refl _) (by simp))
    have HPB1 := hide ((unhide HP0).kp (k1.trans kf (by simp)) (by simp))
    have HFB1 := hide ((unhide HF0).kp (k1.trans kf (by simp)) (by simp))
    obtain ⟨x0, x1, _, _⟩ := two_box (CBox.new w1 #[.int .i64 0, .int .i64 0] 61)
    have HPT := hide PT
    unfold prC at HPT HB1 HPB1 HFB1
    obtain ⟨LN, hLN⟩ : ∃ q, l.length = q := ⟨_, rfl⟩
    have HLN := hide hLN
    rw [hLN] at HPT HB1 HPB1 HFB1 hlen ⊢
    clear TK ho hb1 hav hlow htb htc kf hb hTw hPB PT hW1 k1 eb HK0 HP0 HF0 HTB hcv hcv2 hLN
    go_wp2_with fail
    refine (unhide HPT).mono ?_
    rintro e w3 ⟨hB3, hm⟩
    have hP3 : CBox w.heap.size #[.slice none 0 0, .int .i64 0] 24 w3 := (hB3.block w.heap.size (by omega)).trans (unhide HPB1)
    have hF3 : CBox (w.heap.size + 1) #[.int .i64 0, .int .i64 0] 61 w3 := (hB3.block (w.heap.size + 1) (by omega)).trans (unhide HFB1)
    have HB3 := hide ((unhide HB1).trans (hB3.mono (by omega)))
    clear HPT HPB1 HFB1 HB1 hB3 x0 x1
    cases P with
    | bad a c =>
      obtain ⟨rfl, k', sv, wi, A, C, hp3, hk3, hf3⟩ := hm
      have FA := hide (pfault_any hp3 hk3 hf3)
      have HO2 : Hid (O = ⟨noP, a, c⟩) := hide (unhide HO).symm
      have HP3 := hide hP3
      have HF3 := hide hF3
      clear hp3 hk3 hf3 HO hP3 hF3
      go_wp2_with fail
      refine (unhide FA).mono ?_
      rintro e w4 ⟨rfl, hb4⟩
      have hP4 := (unhide HP3).kp (Kp.ofBelow hb4) (by simp)
      have hF4 := (unhide HF3).kp (Kp.ofBelow hb4) (by simp)
      obtain ⟨p0, p1, pz0, pz1⟩ := two_box hP4
      obtain ⟨f0, f1, fz0, fz1⟩ := two_box hF4
      have HB4 := hide ((unhide HB3).trans (hb4.mono (unhide HB3).size))
      have HPW := hide (rp_put hP4 hF4 (.slice none 0 0) (.int .i64 0) (.int .i64 a) (.int .i64 c))
      clear FA hb4 hP4 hF4 HP3 HF3 HB3
      dsimp only
      go_wp2
      obtain ⟨q1, q2, q3⟩ := unhide HPW
      obtain ⟨y0, y1, _, _⟩ := two_box q1
      obtain ⟨z0, z1, _, _⟩ := two_box q2
      exact bodyPost_ret (v := .tuple #[.agg #[.slice none 0 0, .int .i64 0], .agg #[.int .i64 a, .int .i64 c]]) (by simp [results, Tryz.results34, go_sem, y0, y1, z0, z1]) rfl ⟨RdPT.none (unhide HO2), (unhide HB4).trans (q3.below (unhide HB4).size (by simp))⟩
    | good p =>
      obtain ⟨rfl, k', sv, rs, hp3, hG3, hst3⟩ := hm
      obtain ⟨ra, rc, rfl, hsts, hrc⟩ := hG3.at
      obtain ⟨g1, g2, g3, g4⟩ := ptR_fits 9 [] l p (by simp) (unhide HL).ok (unhide HP)
      have hrl : rs.length ≤ 9 := by rw [← stgs_len, hst3]; simpa using g4
      have CK := pcheck_any ra rc rs p.wi w3 hsts hp3.tab (fun r hr => g1 r.s (by rw [← hst3]; unfold stgs; exact List.mem_map_of_mem hr)) (by omega)
      have hpe : (⟨stgs rs, p.wi⟩ : Ptn) = p := by rw [hst3]
      rw [hpe] at CK
      obtain ⟨_, _, c2, c3, _⟩ := hp3.cells
      have HCK := hide CK
      have HP3 := hide hP3
      have HF3 := hide hF3
      have HPB3 := hide hp3
      have HG3 := hide hG3
      have HST := hide hst3
      have HO2 : Hid (O = if (pcR p).2 = 0 then ⟨p, 0, 0⟩ else ⟨noP, 0, 120⟩) := hide (unhide HO).symm
      have hgr := hp3.lt
      clear CK hp3 hG3 hsts hpe hst3 g1 g4 hP3 hF3 HO HL HP
      have hcd := pc_code p
      generalize (pcR p).1 = PA at *
      generalize (pcR p).2 = PC at *
      obtain ⟨NR, hNR⟩ : ∃ q, rs.length = q := ⟨_, rfl⟩
      have HNR := hide hNR
      rw [hNR] at HCK HPB3 HG3 c2 hrl
      clear hNR
      have HW := hide (fun w4 (hb4 : Below w3.heap.size w3 w4) => And.intro ((unhide HP3).kp (Kp.ofBelow hb4) (by simp)) (And.intro ((unhide HF3).kp (Kp.ofBelow hb4) (by simp)) (And.intro ((unhide HPB3).kp (Kp.ofBelow hb4) (by simp)) ((unhide HG3).kp (Kp.ofBelow hb4) (by simp)))))
      rcases hcd with rfl | rfl
      · have HO3 : Hid (O = ⟨p, 0, 0⟩) := hide (by rw [unhide HO2]; exact if_pos rfl)
        clear HO2
        go_wp2_with fail
        refine (unhide HCK).mono ?_
        rintro e w4 ⟨rfl, hb4⟩
        obtain ⟨hP4, hF4, hpb4, hG4⟩ := unhide HW w4 hb4
        obtain ⟨_, _, d2, d3, _⟩ := hpb4.cells
        obtain ⟨p0, p1, pz0, pz1⟩ := two_box hP4
        obtain ⟨f0, f1, fz0, fz1⟩ := two_box hF4
        have HB4 := hide ((unhide HB3).trans (hb4.mono (unhide HB3).size))
        have HPW := hide (rp_put hP4 hF4 (.slice ra NR rc) (.int .i64 p.wi) (.int .i64 0) (.int .i64 0))
        have HG4 := hide hG4
        clear HCK hb4 hP4 hF4 HP3 HF3 HB3 HW hpb4 hG4 HPB3 HG3 c2 c3
        dsimp only
        go_wp2
        obtain ⟨q1, q2, q3⟩ := unhide HPW
        obtain ⟨y0, y1, _, _⟩ := two_box q1
        obtain ⟨z0, z1, _, _⟩ := two_box q2
        refine bodyPost_ret (v := .tuple #[.agg #[.slice ra NR rc, .int .i64 p.wi], .agg #[.int .i64 0, .int .i64 0]]) (by simp [results, Tryz.results34, go_sem, y0, y1, z0, z1]) rfl ⟨?_, (unhide HB4).trans (q3.below (unhide HB4).size (by simp))⟩
        rw [unhide HO3]
        refine ⟨ra, rc, rs, by rw [unhide HNR], ?_, unhide HST⟩
        rw [unhide HNR]
        exact ((unhide HG4).kp q3 (by simp; omega)).mono (by omega)
      · have HO3 : Hid (O = ⟨noP, 0, 120⟩) := hide (by rw [unhide HO2]; exact if_neg (by decide))
        clear HO2
        go_wp2_with fail
        refine (unhide HCK).mono ?_
        rintro e w4 ⟨rfl, hb4⟩
        obtain ⟨hP4, hF4, hpb4, hG4⟩ := unhide HW w4 hb4
        obtain ⟨p0, p1, pz0, pz1⟩ := two_box hP4
        obtain ⟨f0, f1, fz0, fz1⟩ := two_box hF4
        have HB4 := hide ((unhide HB3).trans (hb4.mono (unhide HB3).size))
        have HPW := hide (rp_put hP4 hF4 (.slice none 0 0) (.int .i64 0) (.int .i64 0) (.int .i64 120))
        clear HCK hb4 hP4 hF4 HP3 HF3 HB3 HW hpb4 hG4 HPB3 HG3 c2 c3
        dsimp only
        go_wp2
        obtain ⟨q1, q2, q3⟩ := unhide HPW
        obtain ⟨y0, y1, _, _⟩ := two_box q1
        obtain ⟨z0, z1, _, _⟩ := two_box q2
        exact bodyPost_ret (v := .tuple #[.agg #[.slice none 0 0, .int .i64 0], .agg #[.int .i64 0, .int .i64 120]]) (by simp [results, Tryz.results34, go_sem, y0, y1, z0, z1]) rfl ⟨RdPT.none (unhide HO3), (unhide HB4).trans (q3.below (unhide HB4).size (by simp))⟩
  · have hrd : rdP s = ⟨noP, tsA (tsR s), tsC (tsR s)⟩ := by
      unfold rdP
      cases hr : tsR s with
      | bad p q => rfl
      | good ts => rw [hr] at h2; exact absurd rfl h2
    rw [h1] at TK
    rw [hrd]
    generalize tsA (tsR s) = A at *
    generalize tsC (tsR s) = C at *
    have gC : (C == 0) = false := beq_eq_false_iff_ne.2 h2
    clear h1 hrd h2
    go_enter Tryz.func34, Tryz.ntmps34
    go_wp2_with fail
    refine (unhide TK).mono ?_
    rintro e w1 ⟨v, rfl, ho, hb1⟩
    obtain ⟨av, cv, rfl, _, _⟩ := ho.at
    have k1 : Kp [] _ w1 := Kp.ofBelow hb1
    have kf := Kp.alloc w1 (.cells #[.int .i64 A, .int .i64 C] 61)
    have k2 := k1.trans kf (by simp)
    have hp1 := (unhide HP0).kp k2 (by simp)
    have hf1 := (unhide HF0).kp k2 (by simp)
    obtain ⟨p0, p1, pz0, pz1⟩ := two_box hp1
    obtain ⟨f0, f1, fz0, fz1⟩ := two_box hf1
    obtain ⟨x0, x1, _, _⟩ := two_box (CBox.new w1 #[.int .i64 A, .int .i64 C] 61)
    have hsz : w.heap.size + 1 < w1.heap.size := by have := k1.size; simp at this; omega
    have HBW := hide (((unhide HK0).trans k2 (by simp)).below (Nat.le_refl _) (by simp))
    have HPW := hide (rp_put hp1 hf1 (.slice none 0 0) (.int .i64 0) (.int .i64 A) (.int .i64 C))
    clear TK ho hb1 hp1 hf1 k1 k2 kf HK0 HP0 HF0 HTB HRD
    go_wp2_with fail
    generalize w1.alloc (.cells #[.int .i64 A, .int .i64 C] 61) = V at *
    generalize w1.heap.size = GF at *
    go_region
    go_wp2_with fail
    obtain ⟨q1, q2, q3⟩ := unhide HPW
    have q1d : CBox w.heap.size #[.slice none 0 0, .int .i64 0] 24 ((((V.setCell ⟨w.heap.size, 0, none⟩ (.slice none 0 0)).setCell ⟨w.heap.size, 1, none⟩ (.int .i64 0)).setCell ⟨w.heap.size + 1, 0, none⟩ (.int .i64 A)).setCell ⟨w.heap.size + 1, 1, none⟩ (.int .i64 C)).drew := q1
    have q2d : CBox (w.heap.size + 1) #[.int .i64 A, .int .i64 C] 61 ((((V.setCell ⟨w.heap.size, 0, none⟩ (.slice none 0 0)).setCell ⟨w.heap.size, 1, none⟩ (.int .i64 0)).setCell ⟨w.heap.size + 1, 0, none⟩ (.int .i64 A)).setCell ⟨w.heap.size + 1, 1, none⟩ (.int .i64 C)).drew := q2
    obtain ⟨y0, y1, _, _⟩ := two_box q1d
    obtain ⟨z0, z1, _, _⟩ := two_box q2d
    exact bodyPost_ret (v := .tuple #[.agg #[.slice none 0 0, .int .i64 0], .agg #[.int .i64 A, .int .i64 C]]) (by simp [results, Tryz.results34, go_sem, y0, y1, z0, z1]) rfl ⟨RdPT.none rfl, ((unhide HBW).trans (q3.below (unhide HBW).size (by simp))).drew⟩
end Go.Proofs.YtjijhefmbmdbeaaGreatDoor
