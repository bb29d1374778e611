/-
  reached: the walk.
  inOrder and Nodes: the nodes of a pattern, in order.
-/
import Derived.Test.YtjijhefmbmdbeaaGreatDoorR37
import Derived.Laws.MakeOwn
namespace Go.Proofs.YtjijhefmbmdbeaaGreatDoor
open Go.RowKit Go.Shelf

theorem OwnsD.base {B B' : Nat} {w : World} {v : Value} {l : List Nd} (h : OwnsD B w v l) (hB : B' ≤ B) : OwnsD B' w v l := by
  obtain ⟨h1, h2 | ⟨g, cap, cur, h2, h3, h4⟩⟩ := h
  · exact ⟨h1, Or.inl h2⟩
  · exact ⟨h1, Or.inr ⟨g, cap, cur, h2, by omega, h4⟩⟩
set_option maxRecDepth 100000 in
/-- A row of nodes without its first one. -/
theorem sliceD (g off M c : Nat) (W : World) : (Instr.slice 41 (.slice (some ⟨g, off, none⟩) (M + 1) c) (some (.int .i64 1)) none none).run Tryz.prog W = .ok (.slice (some ⟨g, if c = 1 then off else off + 3, none⟩) M (c - 1)) W := by
  have h3 : (1 : Int) ≤ (M : Int) + 1 := by omega
  by_cases e : c = 1
  · simp [Instr.slice, Instr.sliceBounds, run_underlying Tryz.underlying41, Tryz.sizeOf26, go_sem, e, h3]
  · simp [Instr.slice, Instr.sliceBounds, run_underlying Tryz.underlying41, Tryz.sizeOf26, go_sem, e, h3, Go.WideShapes.add_plain]
set_option maxHeartbeats 4000000 in
set_option maxRecDepth 100000 in
theorem reached_any (sa : Option Addr) (sc : Nat) (l : List SR) (wi : Int) (w : World) (h : StsAt w sa l) (h8 : l.length ≤ 8) (hb : Both w) :
    Calls Tryz.prog 36 #[.agg #[.slice sa l.length sc, .int .i64 wi]] w fun e w' => ∃ S, e = .returned (.map (some (w.heap.size + 1))) ∧ SetN w' (w.heap.size + 1) S ∧ S.Nodup ∧ (∀ n, n ∈ S ↔ rch (stgs l) n = true) ∧ Kp [] w w' := by
  have hl8 : (stgs l).length ≤ 8 := by rw [stgs_len]; exact h8
  have TK := hide (fun (s : Nat) (h1 : 1 ≤ s) (h2 : s ≤ l.length) W (hk : Kp [] w W) => taken_any sa sc l wi s W (h.kp hk) (by omega) h1 h2)
  have BH := hide (fun (n : Nd) (hr : rch (stgs l) n = true) W (hk : Kp [] w W) => behind_any sa sc l wi n W (h.kp hk) (by omega) (rch_may hr) (hb.kp hk (by simp)))
  have HST := hide (RcI.start (stgs l) hl8)
  have HFW : Hid (∀ S : List Nd, S.Nodup → (∀ n ∈ S, rch (stgs l) n = true) → S.length ≤ 32) := hide (fun S h1 h2 => by have := rch_few h1 h2; omega)
  have HNX := hide (fun k => bgL_next (stgs l) k)
  have HBL := hide (fun k => bgL_len (stgs l) k)
  rw [stgs_len] at HST
  obtain ⟨L, hL⟩ : ∃ L, stgs l = L := ⟨_, rfl⟩
  rw [hL] at TK BH HST HFW HNX HBL ⊢
  clear h hb hL hl8
  generalize l.length = nn at *
  have k0 := Kp.alloc w (.cells #[.slice sa nn sc, .int .i64 wi] 24)
  have k1 : Kp [] w ((w.alloc (.cells #[.slice sa nn sc, .int .i64 wi] 24)).alloc (.map #[] 0)) := k0.trans (Kp.alloc _ _) (by simp)
  have hm0 := SetN.new (w.alloc (.cells #[.slice sa nn sc, .int .i64 wi] 24))
  rw [show (w.alloc (.cells #[.slice sa nn sc, .int .i64 wi] 24)).heap.size = w.heap.size + 1 by simp] at hm0
  have HR0 : Hid (RcS w ((w.alloc (.cells #[.slice sa nn sc, .int .i64 wi] 24)).alloc (.map #[] 0)) #[.slice sa nn sc, .int .i64 wi] (.slice none 0 0) [] []) := hide ⟨(CBox.new w _ _).kp (Kp.alloc _ _) (by simp), hm0, Or.inl ⟨rfl, rfl⟩, k1⟩
  have p0 := (unhide HR0).p.cell (i := 0) (v := .slice sa nn sc) rfl
  have p1 := (unhide HR0).p.cell (i := 1) (v := .int .i64 wi) rfl
  clear k0 k1 hm0
  have hmm : ∀ W : World, (Instr.makeMap 65 none).run Tryz.prog W = .ok (.map (some W.heap.size)) (W.alloc (.map #[] 0)) := fun W => run_makeMap _ W
  go_enter Tryz.func36, Tryz.ntmps36
  go_wp2_with fail
  go_loopw [4, 13] (fun v i wr => ∃ (k : Nat) (a : Option Addr) (c : Nat), k ≤ nn ∧ i = .int .i64 (k : Int) ∧ v = .slice a k c ∧ Hid (RcS w wr #[.slice sa nn sc, .int .i64 wi] (.slice a k c) [] (bgL L k) ∧ OwnsD (w.heap.size + 2) wr (.slice a k c) (bgL L k))) (fun _ i _ => nn - (intOf i).toNat)
  case atStart => exact ⟨0, none, 0, by omega, rfl, rfl, hide ⟨unhide HR0, OwnsD.nil _ _⟩⟩
  case round =>
    obtain ⟨k, a, c, hk, rfl, rfl, HB⟩ := hrel
    clear HR0 p0 p1
    by_cases hlt : k < nn
    · have hli : (k : Int) < (nn : Int) := by omega
      have hwr : IntKind.i64.wrap ((k : Int) + 1) = ((k + 1 : Nat) : Int) := by simp only [IntKind.wrap_i64]; omega
      have p0 := (unhide HB).1.p.cell (i := 0) (v := .slice sa nn sc) rfl
      have p1 := (unhide HB).1.p.cell (i := 1) (v := .int .i64 wi) rfl
      have T1 := hide (unhide TK (k + 1) (by omega) (by omega) wr (unhide HB).1.k)
      have HN1 := hide (unhide HNX k)
      have HB1 := hide (unhide HBL k)
      generalize bgN L (k + 1) = X at *
      unfold Nd.c at T1
      clear BH HST HFW HNX
      go_wp2_with fail
      refine (unhide T1).mono ?_
      rintro e w2 ⟨rfl, hk2⟩
      have h2 := (unhide HB).1.kp hk2
      have hlt2 : w.heap.size + 1 < w2.heap.size := h2.m.lt
      have ho2 := ((unhide HB).2.kp hk2).kp (Kp.alloc w2 (.cells #[.int .i64 X.st, .bool X.lp, .bool X.tk] 26))
      have h3 := h2.kp (Kp.alloc w2 (.cells #[.int .i64 X.st, .bool X.lp, .bool X.tk] 26))
      obtain ⟨g', cap', w4, hrun, ho4, hbl, hg⟩ := ho2.app (by simp; omega) X (g := w2.heap.size) (c := 1) (CBox.new w2 _ _) (by rw [unhide HB1]; omega) 41
      have hlow : ∀ q ∈ (Value.slice a k c).ownBlock.toList, w.heap.size + 2 ≤ q := fun q hq => (World.ownsRow.lt ho2 q (by simpa using hq)).1
      rw [unhide HB1] at hrun ho4
      rw [← unhide HN1] at ho4
      have HF : Hid (RcS w w4 #[.slice sa nn sc, .int .i64 wi] (.slice (some ⟨g', 0, none⟩) (k + 1) cap') [] (bgL L (k + 1)) ∧ OwnsD (w.heap.size + 2) w4 (.slice (some ⟨g', 0, none⟩) (k + 1) cap') (bgL L (k + 1))) := hide ⟨⟨h3.p.kp (Kp.of hg) (fun hm => by have := hlow _ hm; omega), h3.m.kp (Kp.of hg) (fun hm => by have := hlow _ hm; omega), QuD.of ho4, h3.k.trans (Kp.of hg) (fun q hq => Or.inr (by have := hlow _ hq; omega))⟩, ho4⟩
      have HRUN := hide hrun
      clear T1 HB hk2 h2 ho2 h3 hrun ho4 hbl hg hlow HN1 HB1 p0 p1
      go_wp2_with (at_builtin; refine wpList_app_run rfl _ _ _ rfl rfl rfl (unhide HRUN) ?_)
      go_roundw
      case rel => exact ⟨k + 1, _, _, by omega, by go_num, rfl, HF⟩
      case measure => simp [intOf]; omega
    · obtain rfl : k = nn := by omega
      have HB0 := hide (unhide HB).1
      have HQ0 : Hid (k = (bgL L k).length) := hide (unhide HBL k).symm
      clear TK HNX HBL HB
      go_wp2_with fail
      go_loopw [4] (fun v wr => ∃ (S Q : List Nd) (a : Option Addr) (c N : Nat), v = .slice a N c ∧ Hid (N = Q.length) ∧ Hid (RcS w wr #[.slice sa k sc, .int .i64 wi] (.slice a N c) S Q) ∧ Hid (RcI L S Q)) (fun v wr => (40 - mapSize wr (w.heap.size + 1)) * 13 + sliceLen v)
      case atStart => exact ⟨[], bgL L k, a, c, k, rfl, HQ0, HB0, HST⟩
      case round =>
        obtain ⟨S, Q, a, c, N, rfl, HN, HR, HI⟩ := hrel
        clear HB0 HQ0 HST
        cases Q with
        | nil =>
          have hN : N = 0 := unhide HN
          subst hN
          have HF := hide (And.intro (unhide HR).m (And.intro (unhide HI).nd (And.intro (fun n => (unhide HI).fin n) (unhide HR).k)))
          clear HN HR HI BH HFW
          go_wp2
          go_ret
          exact ⟨S, rfl, unhide HF⟩
        | cons n Q =>
          have hNQ := unhide HN
          rw [List.length_cons] at hNQ
          obtain ⟨g, off, cap, hv, hcap, hgl, x0, x1, x2, hq1, hq2⟩ := (unhide HR).q.head
          injection hv with e1 e2 e3
          subst e1 e3
          have hpos : (0 : Int) < (N : Int) := by omega
          obtain ⟨M, hM⟩ : ∃ M, Q.length = M := ⟨_, rfl⟩
          have hNM : N = M + 1 := by omega
          subst hNM
          have hMb : M ≤ 1000 := by
            have h1 := (unhide HI).ln
            have h2 := unhide HFW S (unhide HI).nd (unhide HI).rs
            rw [List.length_cons, hM] at h1
            omega
          have HSM := hide (unhide HR).m.size
          have hltm : w.heap.size + 1 < wr.heap.size := (unhide HR).m.lt
          have HMM : Hid (Q.length = M) := hide hM
          rw [hM] at hq1 hq2 hcap
          -- the queue behind the first one, wherever it begins
          obtain ⟨o2, c2, hsl, hq3⟩ : ∃ o2 c2, (∀ W, (Instr.slice 41 (.slice (some ⟨g, off, none⟩) (M + 1) c) (some (.int .i64 1)) none none).run Tryz.prog W = .ok (.slice (some ⟨g, o2, none⟩) M c2) W) ∧ QuD (w.heap.size + 2) wr (.slice (some ⟨g, o2, none⟩) M c2) Q := by
            refine ⟨if c = 1 then off else off + 3, c - 1, fun W => sliceD g off M c W, ?_⟩
            by_cases e : c = 1
            · rw [if_pos e, e]
              exact hq1 e
            · rw [if_neg e]
              exact hq2 e
          have hrN := (unhide HI).rq n (by simp)
          have hRS : RcS w wr #[.slice sa k sc, .int .i64 wi] (.slice (some ⟨g, o2, none⟩) M c2) S Q := ⟨(unhide HR).p, (unhide HR).m, hq3, (unhide HR).k⟩
          have hR1 := hRS.kp (Kp.alloc wr (.cells #[.int .i64 n.st, .bool n.lp, .bool n.tk] 26))
          have hR2 := hR1.kp (Kp.alloc _ (.cells #[] 91))
          have hnb := CBox.new wr #[.int .i64 n.st, .bool n.lp, .bool n.tk] 26
          have hnb2 := hnb.kp (Kp.alloc _ (.cells #[] 91)) (by simp)
          have hlk : (Instr.lookup 65 (.map (some (w.heap.size + 1))) (.agg #[.int .i64 n.st, .bool n.lp, .bool n.tk]) true).run Tryz.prog (wr.alloc (.cells #[.int .i64 n.st, .bool n.lp, .bool n.tk] 26)) = .ok (.tuple #[.agg #[], .bool (hasD S n)]) (wr.alloc (.cells #[.int .i64 n.st, .bool n.lp, .bool n.tk] 26)) := hR1.m.look n
          have v0 := hnb.cell (i := 0) (v := .int .i64 n.st) rfl
          have v1 := hnb.cell (i := 1) (v := .bool n.lp) rfl
          have v2 := hnb.cell (i := 2) (v := .bool n.tk) rfl
          have u0 := hnb2.cell (i := 0) (v := .int .i64 n.st) rfl
          have u1 := hnb2.cell (i := 1) (v := .bool n.lp) rfl
          have u2 := hnb2.cell (i := 2) (v := .bool n.tk) rfl
          have hsz : (wr.alloc (.cells #[.int .i64 n.st, .bool n.lp, .bool n.tk] 26)).heap.size = wr.heap.size + 1 := by simp
          have HR2 := hide hR2
          have HNB2 := hide hnb2
          have HSL := hide hsl
          have hsl1 := hsl (wr.alloc (.cells #[.int .i64 n.st, .bool n.lp, .bool n.tk] 26))
          clear hsl hq1 hq2 hq3 hRS hR1 hR2 hnb hnb2 HR e2 hM HN hNQ HSL
          by_cases hin : n ∈ S
          · rw [hasD_iff.2 hin] at hlk
            have HI2 := hide ((unhide HI).old hin)
            have HMS := hide (unhide HR2).m.size
            clear HI BH HFW hrN hin
            go_wp2_with fail
            go_roundw
            case rel => exact ⟨S, Q, _, _, M, rfl, hide (unhide HMM).symm, HR2, HI2⟩
            case measure =>
              have e1 := unhide HMS
              have e2 := unhide HSM
              simp only [sliceLen]
              rw [e2]
              try rw [e1]
              omega
          · have hh : hasD S n = false := by
              cases e : hasD S n with
              | true => exact absurd (hasD_iff.1 e) hin
              | false => rfl
            rw [hh] at hlk
            obtain ⟨w4, hup, hR4, hk4⟩ := (unhide HR2).see n hin
            have HI2 := hide ((unhide HI).new hin)
            have hnb4 := (unhide HNB2).kp hk4 (by simp; omega)
            have HR4 := hide hR4
            have BH1 := hide (unhide BH n hrN w4 hR4.k)
            have t0 := hnb4.cell (i := 0) (v := .int .i64 n.st) rfl
            have t1 := hnb4.cell (i := 1) (v := .bool n.lp) rfl
            have t2 := hnb4.cell (i := 2) (v := .bool n.tk) rfl
            have p0 := hR4.p.cell (i := 0) (v := .slice sa k sc) rfl
            have p1 := hR4.p.cell (i := 1) (v := .int .i64 wi) rfl
            unfold Nd.c at BH1
            clear BH hh hin hrN hR4 hk4 hnb4
            go_wp2_with fail
            refine (unhide BH1).mono ?_
            rintro e w5 ⟨v5, rfl, ho5, hk5⟩
            have hR5 := (unhide HR4).kp hk5
            have hbl := beh_len L n
            obtain ⟨NB, hNB⟩ : ∃ NB, (beh L n).length = NB := ⟨_, rfl⟩
            have hlt4 : w.heap.size ≤ w4.heap.size := (unhide HR4).k.size
            obtain ⟨ad6, cap6, w6, hrun, hR6⟩ := hR5.app (ho5.base (by omega)) (by rw [unhide HMM, hNB]; omega) 41
            rw [unhide HMM, hNB] at hrun hR6
            have HQ6 : Hid (M + NB = (Q ++ beh L n).length) := hide (by rw [List.length_append, unhide HMM, hNB])
            have HRUN := hide hrun
            have HR6 := hide hR6
            have HMS := hide hR6.m.size
            have h32 := unhide HFW _ (unhide HI2).nd (unhide HI2).rs
            rw [List.length_append] at h32
            have HL32 : Hid (S.length + 1 ≤ 32 ∧ NB ≤ 12) := hide ⟨by simpa using h32, by omega⟩
            clear BH1 HR4 HR2 HI hR5 ho5 hk5 hrun hR6 h32 hbl hNB hlt4 t0 t1 t2 p0 p1 u0 u1 u2 v0 v1 v2 hup hlk hsl1
            go_wp2_with (at_builtin; refine wpList_app_run rfl _ _ _ rfl rfl rfl (unhide HRUN) ?_)
            go_roundw
            case rel => exact ⟨S ++ [n], Q ++ beh L n, _, _, M + NB, rfl, HQ6, HR6, HI2⟩
            case measure =>
              have e1 := unhide HMS
              have e2 := unhide HSM
              have e3 := unhide HL32
              rw [List.length_append] at e1
              simp only [sliceLen]
              rw [e2, e1]
              simp
              omega
end Go.Proofs.YtjijhefmbmdbeaaGreatDoor
namespace Go.Proofs.YtjijhefmbmdbeaaGreatDoor
open Go.RowKit Go.Shelf

def preN (k j m : Nat) : List Nd := allN k ++ (four (k + 1)).take (2 * j + m)
theorem preN_zero (k : Nat) : preN k 0 0 = allN k := by unfold preN; simp
theorem preN_two (k j : Nat) : preN k j 2 = preN k (j + 1) 0 := by unfold preN; rw [show 2 * j + 2 = 2 * (j + 1) + 0 by omega]
theorem preN_all (k : Nat) : preN k 2 0 = allN (k + 1) := by unfold preN; rw [allN]; rfl
theorem preN_next {k j m : Nat} (hj : j < 2) (hm : m < 2) : preN k j (m + 1) = preN k j m ++ [⟨((k + 1 : Nat) : Int), bv j, bv m⟩] := by
  unfold preN
  rw [List.append_assoc]
  congr 1
  match j, hj, m, hm with
  | 0, _, 0, _ => rfl
  | 0, _, 1, _ => rfl
  | 1, _, 0, _ => rfl
  | 1, _, 1, _ => rfl
theorem preN_len (k j m : Nat) (f : Nd → Bool) : ((preN k j m).filter f).length ≤ 4 * k + 4 := by
  have h1 := List.length_filter_le f (preN k j m)
  have h2 : (preN k j m).length ≤ 4 * k + 4 := by
    unfold preN
    rw [List.length_append, allN_len, List.length_take]
    simp [four]
    omega
  omega
/-- A pattern's box, what was seen, the row that is told. -/
structure InS (w W : World) (pc : Array Value) (mb : Nat) (S : List Nd) (v : Value) (L : List Nd) : Prop where
  p : CBox w.heap.size pc 24 W
  m : SetN W mb S
  r : OwnsD (w.heap.size + 1) W v L
  k : Kp [] w W
theorem InS.kp {w W W' : World} {pc : Array Value} {mb : Nat} {v : Value} {S L : List Nd} (h : InS w W pc mb S v L) (hk : Kp [] W W') : InS w W' pc mb S v L :=
  ⟨h.p.kp hk (by simp), h.m.kp hk (by simp), h.r.kp hk, h.k.trans hk (by simp)⟩
theorem InS.put {w W : World} {pc : Array Value} {mb : Nat} {v : Value} {S L : List Nd} (h : InS w W pc mb S v L) (hmb : mb < w.heap.size) (x : Nd) (hl : L.length ≤ 1000) (ty : TypeId) :
    ∃ g cap w', (Builtin.append_ #[41, 41] ty #[v, .slice (some ⟨W.heap.size, 0, none⟩) 1 1]).run Tryz.prog (W.alloc (.cells #[.int .i64 x.st, .bool x.lp, .bool x.tk] 26)) = .ok (.slice (some ⟨g, 0, none⟩) (L.length + 1) cap) w' ∧ InS w w' pc mb S (.slice (some ⟨g, 0, none⟩) (L.length + 1) cap) (L ++ [x]) := by
  have k1 := Kp.alloc W (.cells #[.int .i64 x.st, .bool x.lp, .bool x.tk] 26)
  have h1 := h.kp k1
  have hlt : w.heap.size < W.heap.size := (Array.getElem?_eq_some_iff.1 h.p).1
  obtain ⟨g, cap, w', hr, ho, hb, hg⟩ := h1.r.app (by have := k1.size; omega) x (g := W.heap.size) (c := 1) (CBox.new W _ _) (by omega) ty
  have hkp := Kp.of hg
  have hlow : ∀ q ∈ v.ownBlock.toList, w.heap.size + 1 ≤ q := fun q hq => (World.ownsRow.lt h1.r q (by simpa using hq)).1
  exact ⟨g, cap, w', hr, h1.p.kp hkp (fun hm => by have := hlow _ hm; omega), h1.m.kp hkp (fun hm => by have := hlow _ hm; omega), ho, h1.k.trans hkp (fun q hq => Or.inr (by have := hlow _ hq; omega))⟩
set_option maxHeartbeats 4000000 in
set_option maxRecDepth 100000 in
theorem inOrder_any (sa : Option Addr) (sc : Nat) (l : List SR) (wi : Int) (mb : Nat) (S : List Nd) (w : World) (h8 : l.length ≤ 8) (hb : Both w) (hS : SetN w mb S) (hS32 : S.length ≤ 32) :
    Calls Tryz.prog 35 #[.agg #[.slice sa l.length sc, .int .i64 wi], .map (some mb)] w fun e w' => ∃ v, e = .returned v ∧ OwnsD (w.heap.size + 1) w' v ((allN l.length).filter (hasD S)) ∧ Kp [] w w' := by
  generalize l.length = nn at *
  have k0 := Kp.alloc w (.cells #[.slice sa nn sc, .int .i64 wi] 24)
  have hmb : mb < w.heap.size := hS.lt
  have hln : (Builtin.len_ #[65] 3 #[.map (some mb)]).run Tryz.prog (w.alloc (.cells #[.slice sa nn sc, .int .i64 wi] 24)) = .ok (.int .i64 (S.length : Int)) (w.alloc (.cells #[.slice sa nn sc, .int .i64 wi] 24)) := (hS.kp k0 (by simp)).len _
  obtain ⟨i0, hi, hz0, hz1, hz2⟩ := info_parts info_NdW
  obtain ⟨w1, hmk, how, hgr⟩ := run_make_own (P := Tryz.prog) (w.alloc (.cells #[.slice sa nn sc, .int .i64 wi] 24)) (w.heap.size + 1) 41 26 i0 _ 3 Tryz.underlying41 hi hz0 hz1 .i64 .i64 S.length (by rw [hz2]; omega) (by unfold maxLen; omega) (by simp)
  have k1 := k0.trans (Kp.of hgr) (by simp)
  have HR0 : Hid (InS w w1 #[.slice sa nn sc, .int .i64 wi] mb S (.slice (some ⟨(w.alloc (.cells #[.slice sa nn sc, .int .i64 wi] 24)).heap.size, 0, none⟩) 0 S.length) []) := hide ⟨(CBox.new w _ _).kp (Kp.of hgr) (by simp), hS.kp k1 (by simp), how, k1⟩
  rw [show (w.alloc (.cells #[.slice sa nn sc, .int .i64 wi] 24)).heap.size = w.heap.size + 1 by simp] at hmk HR0
  have p0 := (unhide HR0).p.cell (i := 0) (v := .slice sa nn sc) rfl
  have HBO := hide hb
  clear hi hz0 hz1 hz2 how hgr k1 hS hb k0 i0
  go_enter Tryz.func35, Tryz.ntmps35
  go_wp2_with fail
  go_loopw [5, 20] (fun v i wr => ∃ (k : Nat) (a : Option Addr) (c NL : Nat), k ≤ nn ∧ i = .int .i64 (k : Int) ∧ v = .slice a NL c ∧ Hid (NL = ((allN k).filter (hasD S)).length) ∧ Hid (InS w wr #[.slice sa nn sc, .int .i64 wi] mb S (.slice a NL c) ((allN k).filter (hasD S)))) (fun _ i _ => nn - (intOf i).toNat)
  case atStart => exact ⟨0, _, _, 0, by omega, rfl, rfl, hide rfl, HR0⟩
  case round =>
    obtain ⟨k, a, c, NL, hk, rfl, rfl, HNL, HB⟩ := hrel
    clear HR0 p0 hmk hln
    by_cases hlt : k < nn
    · have hli : (k : Int) < (nn : Int) := by omega
      obtain ⟨b0, b1⟩ := ((unhide HBO).kp (unhide HB).k (by simp)).cells
      go_wp2_with fail
      go_loopw [5, 24] (fun v i wr => ∃ (j : Nat) (a : Option Addr) (c NL : Nat), j ≤ 2 ∧ i = .int .i64 (j : Int) ∧ v = .slice a NL c ∧ Hid (NL = ((preN k j 0).filter (hasD S)).length) ∧ Hid (InS w wr #[.slice sa nn sc, .int .i64 wi] mb S (.slice a NL c) ((preN k j 0).filter (hasD S)))) (fun _ i _ => 2 - (intOf i).toNat)
      case atStart => exact ⟨0, a, c, NL, by omega, rfl, rfl, by rw [preN_zero]; exact HNL, by rw [preN_zero]; exact HB⟩
      case round =>
        obtain ⟨j, a, c, NL, hj, rfl, rfl, HNL, HB⟩ := hrel
        clear b0 b1
        by_cases hlt2 : j < 2
        · have hli2 : (j : Int) < 2 := by omega
          have hix := fun W => index2 j hlt2 W
          obtain ⟨b0, b1⟩ := ((unhide HBO).kp (unhide HB).k (by simp)).cells
          go_wp2_with fail
          go_loopw [5, 28] (fun v i wr => ∃ (m : Nat) (a : Option Addr) (c NL : Nat), m ≤ 2 ∧ i = .int .i64 (m : Int) ∧ v = .slice a NL c ∧ Hid (NL = ((preN k j m).filter (hasD S)).length) ∧ Hid (InS w wr #[.slice sa nn sc, .int .i64 wi] mb S (.slice a NL c) ((preN k j m).filter (hasD S)))) (fun _ i _ => 2 - (intOf i).toNat)
          case atStart => exact ⟨0, a, c, NL, by omega, rfl, rfl, HNL, HB⟩
          case round =>
            obtain ⟨m, a, c, NL, hm, rfl, rfl, HNL, HB⟩ := hrel
            clear b0 b1
            by_cases hlt3 : m < 2
            · have hli3 : (m : Int) < 2 := by omega
              have hix2 := fun W => index2 m hlt3 W
              have hwr : IntKind.i64.wrap ((k : Int) + 1) = ((k + 1 : Nat) : Int) := by simp only [IntKind.wrap_i64]; omega
              have HNX : Hid ((preN k j (m + 1)).filter (hasD S) = if hasD S ⟨((k + 1 : Nat) : Int), bv j, bv m⟩ = true then (preN k j m).filter (hasD S) ++ [⟨((k + 1 : Nat) : Int), bv j, bv m⟩] else (preN k j m).filter (hasD S)) := hide (by
                rw [preN_next hlt2 hlt3, List.filter_append]
                by_cases e : hasD S ⟨((k + 1 : Nat) : Int), bv j, bv m⟩ = true
                · rw [if_pos e, List.filter_cons_of_pos e, List.filter_nil]
                · rw [if_neg e, List.filter_cons_of_neg e, List.filter_nil, List.append_nil])
              have hlen := preN_len k j m (hasD S)
              have HNN := HNL
              have hR1 := (unhide HB).kp (Kp.alloc wr (.cells #[.int .i64 ((k + 1 : Nat) : Int), .bool (bv j), .bool (bv m)] 26))
              have hR2 := hR1.kp (Kp.alloc _ (.cells #[] 91))
              have hnb := CBox.new wr #[.int .i64 ((k + 1 : Nat) : Int), .bool (bv j), .bool (bv m)] 26
              have hnb2 := hnb.kp (Kp.alloc _ (.cells #[] 91)) (by simp)
              have hlk : (Instr.lookup 65 (.map (some mb)) (.agg #[.int .i64 ((k + 1 : Nat) : Int), .bool (bv j), .bool (bv m)]) true).run Tryz.prog (wr.alloc (.cells #[.int .i64 ((k + 1 : Nat) : Int), .bool (bv j), .bool (bv m)] 26)) = .ok (.tuple #[.agg #[], .bool (hasD S ⟨((k + 1 : Nat) : Int), bv j, bv m⟩)]) (wr.alloc (.cells #[.int .i64 ((k + 1 : Nat) : Int), .bool (bv j), .bool (bv m)] 26)) := hR1.m.look ⟨((k + 1 : Nat) : Int), bv j, bv m⟩
              obtain ⟨g', cap', w4, hrun, hR4⟩ := hR2.put hmb ⟨((k + 1 : Nat) : Int), bv j, bv m⟩ (by omega) 41
              have v0 := hnb.cell (i := 0) (v := .int .i64 ((k + 1 : Nat) : Int)) rfl
              have v1 := hnb.cell (i := 1) (v := .bool (bv j)) rfl
              have v2 := hnb.cell (i := 2) (v := .bool (bv m)) rfl
              have u0 := hnb2.cell (i := 0) (v := .int .i64 ((k + 1 : Nat) : Int)) rfl
              have u1 := hnb2.cell (i := 1) (v := .bool (bv j)) rfl
              have u2 := hnb2.cell (i := 2) (v := .bool (bv m)) rfl
              rw [← unhide HNN] at hrun hR4
              dsimp only at hrun
              have hsz : ((wr.alloc (.cells #[.int .i64 ((k + 1 : Nat) : Int), .bool (bv j), .bool (bv m)] 26)).alloc (.cells #[] 91)).heap.size = wr.heap.size + 1 + 1 := by simp
              rw [hsz] at hrun
              have HRUN := hide hrun
              have HR4 := hide hR4
              have HR2 := hide hR2
              generalize hK1 : ((k + 1 : Nat) : Int) = K1 at *
              generalize bv j = BJ at *
              generalize bv m = BM at *
              clear hR1 hR2 hnb hnb2 hrun hR4 HB hlen HNN hK1
              cases hh : hasD S ⟨K1, BJ, BM⟩ with
              | true =>
                have hnx := unhide HNX
                rw [if_pos hh] at hnx
                rw [hh] at hlk
                rw [← hnx] at HR4
                have HNF : Hid (NL + 1 = ((preN k j (m + 1)).filter (hasD S)).length) := hide (by rw [hnx, List.length_append, unhide HNL]; rfl)
                clear hnx hh HNX HR2 HBO HNL
                go_wp2_with (at_builtin; refine wpList_app_run rfl _ _ _ rfl rfl rfl (unhide HRUN) ?_)
                go_roundw
                case rel => exact ⟨m + 1, _, _, _, by omega, by go_num, rfl, HNF, HR4⟩
                case measure => simp [intOf]; omega
              | false =>
                have hnx := unhide HNX
                rw [if_neg (by rw [hh]; simp)] at hnx
                rw [hh] at hlk
                rw [← hnx] at HR2 HNL
                clear hnx hh HNX HR4 HBO HRUN
                go_wp2_with fail
                go_roundw
                case rel => exact ⟨m + 1, _, _, _, by omega, by go_num, rfl, HNL, HR2⟩
                case measure => simp [intOf]; omega
            · obtain rfl : m = 2 := by omega
              rw [preN_two] at HNL HB
              have HB3 := HB
              clear HB HBO
              go_wp2_with fail
              go_roundw
              case rel => exact ⟨j + 1, a, c, NL, by omega, by go_num, rfl, HNL, HB3⟩
              case measure => simp [intOf]; omega
        · obtain rfl : j = 2 := by omega
          rw [preN_all] at HNL HB
          have HB3 := HB
          clear HB HBO
          go_wp2_with fail
          go_roundw
          case rel => exact ⟨k + 1, a, c, NL, by omega, by go_num, rfl, HNL, HB3⟩
          case measure => simp [intOf]; omega
    · obtain rfl : k = nn := by omega
      have HF := hide (And.intro (unhide HB).r (unhide HB).k)
      clear HBO HB HNL
      go_wp2
      go_ret
      exact ⟨_, rfl, (unhide HF).1, (unhide HF).2⟩
/-- What Nodes tells. -/
def nnE (p : Ptn) : Int := (pcR p).2
def nnL (p : Ptn) : List Nd := if (pcR p).2 = 0 then ndsR p.ss else []
set_option maxHeartbeats 4000000 in
set_option maxRecDepth 100000 in
theorem nnodes_any (sa : Option Addr) (sc : Nat) (l : List SR) (wi : Int) (w : World) (h : StsAt w sa l) (hT : TbE w) (hb : Both w) (hok : ∀ r ∈ l, r.s.ok) (hl : l.length ≤ 9223372036854775807) :
    Calls Tryz.prog 18 #[.agg #[.slice sa l.length sc, .int .i64 wi]] w fun e w' => ∃ v, e = .returned (.tuple #[v, .int .i64 (nnE ⟨stgs l, wi⟩)]) ∧ OwnsD w.heap.size w' v (nnL ⟨stgs l, wi⟩) ∧ Kp [] w w' := by
  have k0 := Kp.alloc w (.cells #[.slice sa l.length sc, .int .i64 wi] 24)
  have hP := CBox.new w #[.slice sa l.length sc, .int .i64 wi] 24
  have CK := hide (pcheck_any sa sc l wi _ (h.kp k0) (hT.kp k0 (by simp)) hok hl)
  have RC : Hid ((pcR ⟨stgs l, wi⟩).2 = 0 → ∀ W, Kp [] w W → Calls Tryz.prog 36 #[.agg #[.slice sa l.length sc, .int .i64 wi]] W fun e w' => ∃ S : List Nd, e = .returned (.map (some (W.heap.size + 1))) ∧ SetN w' (W.heap.size + 1) S ∧ S.length ≤ 32 ∧ Hid ((allN l.length).filter (hasD S) = ndsR (stgs l)) ∧ Kp [] W w') := hide (fun h0 W hk => by
    obtain ⟨p1, p2, _, _⟩ := pc_ok h0
    dsimp only at p1 p2
    rw [stgs_len] at p2
    refine (reached_any sa sc l wi W (h.kp hk) p2 (hb.kp hk (by simp))).mono fun e w' ⟨S, h1, h2, h3, h4, h5⟩ => ⟨S, h1, h2, ?_, hide ?_, h5⟩
    · have := rch_few h3 (fun n hn => (h4 n).1 hn)
      rw [stgs_len] at this
      omega
    · unfold ndsR
      rw [stgs_len]
      refine List.filter_congr fun n _ => ?_
      rw [Bool.eq_iff_iff, hasD_iff]
      exact h4 n)
  have IO : Hid ((pcR ⟨stgs l, wi⟩).2 = 0 → ∀ (mb : Nat) (S : List Nd) W, Kp [] w W → SetN W mb S → S.length ≤ 32 → Calls Tryz.prog 35 #[.agg #[.slice sa l.length sc, .int .i64 wi], .map (some mb)] W fun e w' => ∃ v, e = .returned v ∧ OwnsD (W.heap.size + 1) w' v ((allN l.length).filter (hasD S)) ∧ Kp [] W w') := hide (fun h0 mb S W hk hS h32 => by
    obtain ⟨p1, p2, _, _⟩ := pc_ok h0
    dsimp only at p1 p2
    rw [stgs_len] at p2
    exact inOrder_any sa sc l wi mb S W p2 (hb.kp hk (by simp)) hS h32)
  have HL : Hid (nnL ⟨stgs l, wi⟩ = if (pcR ⟨stgs l, wi⟩).2 = 0 then ndsR (stgs l) else []) := hide rfl
  have HE : Hid (nnE ⟨stgs l, wi⟩ = (pcR ⟨stgs l, wi⟩).2) := hide rfl
  generalize (pcR ⟨stgs l, wi⟩).1 = PA at *
  generalize (pcR ⟨stgs l, wi⟩).2 = PC at *
  generalize nnE ⟨stgs l, wi⟩ = EE at *
  generalize nnL ⟨stgs l, wi⟩ = LL at *
  generalize ndsR (stgs l) = ND at *
  have HV : Hid (∀ W, Kp [] (w.alloc (.cells #[.slice sa l.length sc, .int .i64 wi] 24)) W → (W.cell? ⟨w.heap.size, 0, none⟩ = some (.slice sa l.length sc) ∧ W.cell? ⟨w.heap.size, 1, none⟩ = some (.int .i64 wi)) ∧ Hid (Kp [] w W)) := hide (fun W hk => ⟨⟨(hP.kp hk (by simp)).cell rfl, (hP.kp hk (by simp)).cell rfl⟩, hide (k0.trans hk (by simp))⟩)
  clear h hT hb hok hl k0 hP
  generalize l.length = nn at *
  obtain ⟨⟨c0, c1⟩, _⟩ := unhide HV _ (Kp.refl _ _)
  go_enter Tryz.func18, Tryz.ntmps18
  go_wp2_with fail
  refine (unhide CK).mono ?_
  rintro e w1 ⟨rfl, hb1⟩
  have HK1 := hide (Kp.ofBelow hb1)
  obtain ⟨⟨d0, d1⟩, HW1⟩ := unhide HV _ (unhide HK1)
  clear c0 c1 hb1 CK
  have hE := unhide HE
  have hL := unhide HL
  clear HE HL
  subst hE
  by_cases hp : EE = 0
  · subst hp
    rw [if_pos rfl] at hL
    subst hL
    have RC1 := hide (unhide RC rfl)
    have IO1 := hide (unhide IO rfl)
    have HSK : Hid (∀ W, Kp [] w1 W → W.cell? ⟨w.heap.size, 0, none⟩ = some (.slice sa nn sc) ∧ W.cell? ⟨w.heap.size, 1, none⟩ = some (.int .i64 wi)) := hide (fun W hk => ⟨hk.cell d0 (by simp), hk.cell d1 (by simp)⟩)
    have HK0 : Hid (Kp [] w1 w1.drew) := hide (Kp.drew w1)
    have HWD : Hid (Kp [] w w1.drew) := hide ((unhide HW1).trans (Kp.drew w1) (by simp))
    clear RC IO d0 d1 HV HK1
    go_wp2_with fail
    go_region_held3 (fun W => W.cell? ⟨w.heap.size, 0, none⟩ = some (.slice sa nn sc) ∧ W.cell? ⟨w.heap.size, 1, none⟩ = some (.int .i64 wi))
      (first | exact unhide HSK _ (unhide (by with_reducible assumption)))
      (first
        | (go_at_call 35; (with_reducible refine (unhide IO1 _ _ _ (unhide HW3) (unhide HS3).1 (unhide HS3).2).mono ?_); rintro r w4 ⟨v4, rfl, ho4, hk4⟩; have HO4 := hide ho4; have HK4 := hide ((unhide HK3).trans hk4 (by simp)); have HW4 := hide ((unhide HW3).trans hk4 (by simp)); clear ho4 hk4)
        | (go_at_call 36; (with_reducible refine (unhide RC1 _ (unhide HWD)).mono ?_); rintro r w3 ⟨S, rfl, hs3, h32, HEQ, hk3⟩; have hs4 : SetN w3 (w1.heap.size + 1) S := hs3; have HS3 := hide (And.intro hs4 h32); have HK3 := hide ((unhide HK0).trans hk3 (by simp)); have HW3 := hide ((unhide HWD).trans hk3 (by simp)); clear hs3 hs4 h32 hk3))
    go_wp2
    have ho := unhide HO4
    rw [unhide HEQ] at ho
    exact bodyPost_ret (results_tmp2 rfl _ _ _) rfl ⟨_, rfl, ho.base (by have := (unhide HW3).size; omega), unhide HW4⟩
  · rw [if_neg hp] at hL
    subst hL
    have g : (EE != 0) = true := by simp [hp]
    clear RC IO HV HK1
    go_wp2
    exact bodyPost_ret (results_tmp2 rfl _ _ _) rfl ⟨_, rfl, OwnsD.nil _ _, unhide HW1⟩
end Go.Proofs.YtjijhefmbmdbeaaGreatDoor
