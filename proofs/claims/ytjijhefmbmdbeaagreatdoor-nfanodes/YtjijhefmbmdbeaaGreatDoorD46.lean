/-
  reached: the nodes that come out of a pattern's beginnings.
  reached: the walk.
-/
import Derived.Test.YtjijhefmbmdbeaaGreatDoorD36
import Derived.Carry
namespace Go.Proofs.YtjijhefmbmdbeaaGreatDoor
open Go.RowKit Go.Shelf

/-- What was seen, what waits. -/
structure RcI (l : List Stg) (S Q : List Nd) : Prop where
  nd : S.Nodup
  rs : ∀ n ∈ S, rch l n = true
  rq : ∀ n ∈ Q, rch l n = true
  bg : ∀ s, 1 ≤ s → s ≤ l.length → bgN l s ∈ S ∨ bgN l s ∈ Q
  cl : ∀ n ∈ S, ∀ x ∈ beh l n, x ∈ S ∨ x ∈ Q
  ln : Q.length ≤ 8 + 12 * S.length
def bgL (l : List Stg) (k : Nat) : List Nd := (List.range k).map fun i => bgN l (i + 1)
theorem bgL_next (l : List Stg) (k : Nat) : bgL l (k + 1) = bgL l k ++ [bgN l (k + 1)] := by unfold bgL; rw [List.range_succ, List.map_append]; rfl
theorem bgL_len (l : List Stg) (k : Nat) : (bgL l k).length = k := by unfold bgL; simp
theorem RcI.start (l : List Stg) (h8 : l.length ≤ 8) : RcI l [] (bgL l l.length) := by
  refine ⟨by simp, by simp, fun n hn => ?_, fun s h1 h2 => Or.inr ?_, by simp, by rw [bgL_len]; omega⟩
  · unfold bgL at hn
    obtain ⟨i, hi, rfl⟩ := List.mem_map.1 hn
    have := List.mem_range.1 hi
    exact rch_tk (by omega) (by omega)
  · unfold bgL
    exact List.mem_map.2 ⟨s - 1, List.mem_range.2 (by omega), by rw [Nat.sub_add_cancel h1]⟩
theorem RcI.old {l : List Stg} {S Q : List Nd} {n : Nd} (h : RcI l S (n :: Q)) (hn : n ∈ S) : RcI l S Q := by
  refine ⟨h.nd, h.rs, fun x hx => h.rq x (by simp [hx]), fun s h1 h2 => ?_, fun x hx y hy => ?_, by have := h.ln; simp at this; omega⟩
  · rcases h.bg s h1 h2 with e | e
    · exact Or.inl e
    · rcases List.mem_cons.1 e with e | e
      · rw [e]; exact Or.inl hn
      · exact Or.inr e
  · rcases h.cl x hx y hy with e | e
    · exact Or.inl e
    · rcases List.mem_cons.1 e with e | e
      · rw [e]; exact Or.inl hn
      · exact Or.inr e
theorem RcI.new {l : List Stg} {S Q : List Nd} {n : Nd} (h : RcI l S (n :: Q)) (hn : n ∉ S) : RcI l (S ++ [n]) (Q ++ beh l n) := by
  have hr := h.rq n (by simp)
  refine ⟨?_, fun x hx => ?_, fun x hx => ?_, fun s h1 h2 => ?_, fun x hx y hy => ?_, ?_⟩
  · rw [List.nodup_append]
    exact ⟨h.nd, by simp, fun a ha b hb e => hn (by simp at hb; rw [← hb, ← e]; exact ha)⟩
  · rcases List.mem_append.1 hx with e | e
    · exact h.rs x e
    · simp at e; rw [e]; exact hr
  · rcases List.mem_append.1 hx with e | e
    · exact h.rq x (by simp [e])
    · exact rch_beh hr e
  · rcases h.bg s h1 h2 with e | e
    · exact Or.inl (by simp [e])
    · rcases List.mem_cons.1 e with e | e
      · exact Or.inl (by simp [e])
      · exact Or.inr (by simp [e])
  · rcases List.mem_append.1 hx with e | e
    · rcases h.cl x e y hy with e | e
      · exact Or.inl (by simp [e])
      · rcases List.mem_cons.1 e with e | e
        · exact Or.inl (by simp [e])
        · exact Or.inr (by simp [e])
    · simp at e
      rw [e] at hy
      exact Or.inr (by simp [hy])
  · have := h.ln
    have := beh_len l n
    simp at *
    omega
theorem RcI.fin {l : List Stg} {S : List Nd} (h : RcI l S []) (n : Nd) : n ∈ S ↔ rch l n = true := by
  refine ⟨h.rs n, fun hr => rch_closed (S := fun x => x ∈ S) (fun s h1 h2 => ?_) (fun x hx y hy => ?_) hr⟩
  · rcases h.bg s h1 h2 with e | e
    · exact e
    · cases e
  · rcases h.cl x hx y hy with e | e
    · exact e
    · cases e
def mapSize (w : World) (b : Nat) : Nat := match w.heap[b]? with
  | some (.map es _) => es.size
  | _ => 0
theorem SetN.size {w : World} {b : Nat} {S : List Nd} (h : SetN w b S) : mapSize w b = S.length := by
  obtain ⟨es, c, h1, h2⟩ := h
  unfold mapSize
  rw [h1]
  have := congrArg List.length h2
  simpa using this
def sliceLen : Value → Nat
  | .slice _ n _ => n
  | _ => 0
/-- A pattern's box, what was seen, what waits. -/
structure RcS (w W : World) (pc : Array Value) (v : Value) (S Q : List Nd) : Prop where
  p : CBox w.heap.size pc 24 W
  m : SetN W (w.heap.size + 1) S
  q : QuD (w.heap.size + 2) W v Q
  k : Kp [] w W
theorem RcS.kp {w W W' : World} {pc : Array Value} {v : Value} {S Q : List Nd} (h : RcS w W pc v S Q) (hk : Kp [] W W') : RcS w W' pc v S Q :=
  ⟨h.p.kp hk (by simp), h.m.kp hk (by simp), h.q.kp hk (by simp), h.k.trans hk (by simp)⟩
theorem RcS.app {w W : World} {pc : Array Value} {v x : Value} {S Q ys : List Nd} (h : RcS w W pc v S Q) (hx : OwnsD (w.heap.size + 2) W x ys) (hl : Q.length + ys.length ≤ 1000000) (ty : TypeId) :
    ∃ ad cap w', (Builtin.append_ #[41, 41] ty #[v, x]).run Tryz.prog W = .ok (.slice ad (Q.length + ys.length) cap) w' ∧ RcS w w' pc (.slice ad (Q.length + ys.length) cap) S (Q ++ ys) := by
  have hlt : w.heap.size + 1 < W.heap.size := h.m.lt
  obtain ⟨ad, cap, w', hr, hq, hk⟩ := h.q.app (by omega) hx hl ty
  have hlow := h.q.low
  exact ⟨ad, cap, w', hr, h.p.kp hk (fun hm => by have := hlow _ hm; omega), h.m.kp hk (fun hm => by have := hlow _ hm; omega), hq, h.k.trans hk (fun q hq => Or.inr (by have := hlow _ hq; omega))⟩
theorem RcS.see {w W : World} {pc : Array Value} {v : Value} {S Q : List Nd} (h : RcS w W pc v S Q) (n : Nd) (hn : n ∉ S) : ∃ w', (Instr.mapUpdate 65 (.map (some (w.heap.size + 1))) (.agg #[.int .i64 n.st, .bool n.lp, .bool n.tk]) (.agg #[])).run Tryz.prog W = .ok () w' ∧ RcS w w' pc v (S ++ [n]) Q ∧ Kp [w.heap.size + 1] W w' := by
  obtain ⟨w', hr, hs, hk⟩ := h.m.store n hn
  refine ⟨w', hr, ⟨h.p.kp hk (by simp), hs, h.q.kp hk (fun g hg => ?_), h.k.trans hk (fun x hx => Or.inr (by simp at hx; omega))⟩, hk⟩
  have := h.q.low g (by simpa using hg)
  simp
  omega
end Go.Proofs.YtjijhefmbmdbeaaGreatDoor
namespace Go.Proofs.YtjijhefmbmdbeaaGreatDoor
open Go.RowKit Go.Shelf

theorem OwnsD.base {B B' : Nat} {w : World} {v : Value} {l : List Nd} (h : OwnsD B w v l) (hB : B' ≤ B) : OwnsD B' w v l := by
  obtain ⟨h1, h2 | ⟨g, cap, cur, h2, h3, h4⟩⟩ := h
  · exact ⟨h1, Or.inl h2⟩
  · exact ⟨h1, Or.inr ⟨g, cap, cur, h2, by omega, h4⟩⟩
set_option maxRecDepth 100000 in
/-- A row of nodes without its first one. -/
theorem sliceD (g off M c : Nat) (W : World) : (Instr.slice 41 (.slice (some ⟨g, off, none⟩) (M + 1) c) (some (.int .i64 1)) none none).run Tryz.prog W = .ok (.slice (some ⟨g, if c = 1 then off else off + 3, none⟩) M (c - 1)) W := by
  have h3 : (1 : Int) ≤ (M : Int) + 1 := by omega
  by_cases e : c = 1
  · simp [Instr.slice, Instr.sliceBounds, run_underlying Tryz.underlying41, Tryz.sizeOf26, go_sem, e, h3]
  · simp [Instr.slice, Instr.sliceBounds, run_underlying Tryz.underlying41, Tryz.sizeOf26, go_sem, e, h3, Go.WideShapes.add_plain]
set_option maxHeartbeats 4000000 in
set_option maxRecDepth 100000 in
theorem reached_any (sa : Option Addr) (sc : Nat) (l : List SR) (wi : Int) (w : World) (h : StsAt w sa l) (h8 : l.length ≤ 8) (hb : Both w) :
    Calls Tryz.prog 36 #[.agg #[.slice sa l.length sc, .int .i64 wi]] w fun e w' => ∃ S, e = .returned (.map (some (w.heap.size + 1))) ∧ SetN w' (w.heap.size + 1) S ∧ S.Nodup ∧ (∀ n, n ∈ S ↔ rch (stgs l) n = true) ∧ Kp [] w w' := by
  have hl8 : (stgs l).length ≤ 8 := by rw [stgs_len]; exact h8
  have TK := hide (fun (s : Nat) (h1 : 1 ≤ s) (h2 : s ≤ l.length) W (hk : Kp [] w W) => taken_any sa sc l wi s W (h.kp hk) (by omega) h1 h2)
  have BH := hide (fun (n : Nd) (hr : rch (stgs l) n = true) W (hk : Kp [] w W) => behind_any sa sc l wi n W (h.kp hk) (by omega) (rch_may hr) (hb.kp hk (by simp)))
  have HST := hide (RcI.start (stgs l) hl8)
  have HFW : Hid (∀ S : List Nd, S.Nodup → (∀ n ∈ S, rch (stgs l) n = true) → S.length ≤ 32) := hide (fun S h1 h2 => by have := rch_few h1 h2; omega)
  have HNX := hide (fun k => bgL_next (stgs l) k)
  have HBL := hide (fun k => bgL_len (stgs l) k)
  rw [stgs_len] at HST
  obtain ⟨L, hL⟩ : ∃ L, stgs l = L := ⟨_, rfl⟩
  rw [hL] at TK BH HST HFW HNX HBL ⊢
  clear h hb hL hl8
  generalize l.length = nn at *
  have k0 := Kp.alloc w (.cells #[.slice sa nn sc, .int .i64 wi] 24)
  have k1 : Kp [] w ((w.alloc (.cells #[.slice sa nn sc, .int .i64 wi] 24)).alloc (.map #[] 0)) := k0.trans (Kp.alloc _ _) (by simp)
  have hm0 := SetN.new (w.alloc (.cells #[.slice sa nn sc, .int .i64 wi] 24))
  rw [show (w.alloc (.cells #[.slice sa nn sc, .int .i64 wi] 24)).heap.size = w.heap.size + 1 by simp] at hm0
  have HR0 : Hid (RcS w ((w.alloc (.cells #[.slice sa nn sc, .int .i64 wi] 24)).alloc (.map #[] 0)) #[.slice sa nn sc, .int .i64 wi] (.slice none 0 0) [] []) := hide ⟨(CBox.new w _ _).kp (Kp.alloc _ _) (by simp), hm0, Or.inl ⟨rfl, rfl⟩, k1⟩
  have p0 := (unhide HR0).p.cell (i := 0) (v := .slice sa nn sc) rfl
  have p1 := (unhide HR0).p.cell (i := 1) (v := .int .i64 wi) rfl
  clear k0 k1 hm0
  have hmm : ∀ W : World, (Instr.makeMap 65 none).run Tryz.prog W = .ok (.map (some W.heap.size)) (W.alloc (.map #[] 0)) := fun W => run_makeMap _ W
  go_enter Tryz.func36, Tryz.ntmps36
  go_wp2_with fail
  go_loopw [4, 13] (fun v i wr => ∃ (k : Nat) (a : Option Addr) (c : Nat), k ≤ nn ∧ i = .int .i64 (k : Int) ∧ v = .slice a k c ∧ Hid (RcS w wr #[.slice sa nn sc, .int .i64 wi] (.slice a k c) [] (bgL L k) ∧ OwnsD (w.heap.size + 2) wr (.slice a k c) (bgL L k))) (fun _ i _ => nn - (intOf i).toNat)
  case atStart => exact ⟨0, none, 0, by omega, rfl, rfl, hide ⟨unhide HR0, OwnsD.nil _ _⟩⟩
  case round =>
    obtain ⟨k, a, c, hk, rfl, rfl, HB⟩ := hrel
    clear HR0 p0 p1
    by_cases hlt : k < nn
    · have hli : (k : Int) < (nn : Int) := by omega
      have hwr : IntKind.i64.wrap ((k : Int) + 1) = ((k + 1 : Nat) : Int) := by simp only [IntKind.wrap_i64]; omega
      have p0 := (unhide HB).1.p.cell (i := 0) (v := .slice sa nn sc) rfl
      have p1 := (unhide HB).1.p.cell (i := 1) (v := .int .i64 wi) rfl
      have T1 := hide (unhide TK (k + 1) (by omega) (by omega) wr (unhide HB).1.k)
      have HN1 := hide (unhide HNX k)
      have HB1 := hide (unhide HBL k)
      generalize bgN L (k + 1) = X at *
      unfold Nd.c at T1
      clear BH HST HFW HNX
      go_wp2_with fail
      refine (unhide T1).mono ?_
      rintro e w2 ⟨rfl, hk2⟩
      have h2 := (unhide HB).1.kp hk2
      have hlt2 : w.heap.size + 1 < w2.heap.size := h2.m.lt
      have ho2 := ((unhide HB).2.kp hk2).kp (Kp.alloc w2 (.cells #[.int .i64 X.st, .bool X.lp, .bool X.tk] 26))
      have h3 := h2.kp (Kp.alloc w2 (.cells #[.int .i64 X.st, .bool X.lp, .bool X.tk] 26))
      obtain ⟨g', cap', w4, hrun, ho4, hbl, hg⟩ := ho2.app (by simp; omega) X (g := w2.heap.size) (c := 1) (CBox.new w2 _ _) (by rw [unhide HB1]; omega) 41
      have hlow : ∀ q ∈ (Value.slice a k c).ownBlock.toList, w.heap.size + 2 ≤ q := fun q hq => (World.ownsRow.lt ho2 q (by simpa using hq)).1
      rw [unhide HB1] at hrun ho4
      rw [← unhide HN1] at ho4
      have HF : Hid (RcS w w4 #[.slice sa nn sc, .int .i64 wi] (.slice (some ⟨g', 0, none⟩) (k + 1) cap') [] (bgL L (k + 1)) ∧ OwnsD (w.heap.size + 2) w4 (.slice (some ⟨g', 0, none⟩) (k + 1) cap') (bgL L (k + 1))) := hide ⟨⟨h3.p.kp (Kp.of hg) (fun hm => by have := hlow _ hm; omega), h3.m.kp (Kp.of hg) (fun hm => by have := hlow _ hm; omega), QuD.of ho4, h3.k.trans (Kp.of hg) (fun q hq => Or.inr (by have := hlow _ hq; omega))⟩, ho4⟩
      have HRUN := hide hrun
      clear T1 HB hk2 h2 ho2 h3 hrun ho4 hbl hg hlow HN1 HB1 p0 p1
      go_wp2_with (at_builtin; refine wpList_app_run rfl _ _ _ rfl rfl rfl (unhide HRUN) ?_)
      go_roundw
      case rel => exact ⟨k + 1, _, _, by omega, by go_num, rfl, HF⟩
      case measure => simp [intOf]; omega
    · obtain rfl : k = nn := by omega
      have HB0 := hide (unhide HB).1
      have HQ0 : Hid (k = (bgL L k).length) := hide (unhide HBL k).symm
      clear TK HNX HBL HB
      go_wp2_with fail
      go_loopw [4] (fun v wr => ∃ (S Q : List Nd) (a : Option Addr) (c N : Nat), v = .slice a N c ∧ Hid (N = Q.length) ∧ Hid (RcS w wr #[.slice sa k sc, .int .i64 wi] (.slice a N c) S Q) ∧ Hid (RcI L S Q)) (fun v wr => (40 - mapSize wr (w.heap.size + 1)) * 13 + sliceLen v)
      case atStart => exact ⟨[], bgL L k, a, c, k, rfl, HQ0, HB0, HST⟩
      case round =>
        obtain ⟨S, Q, a, c, N, rfl, HN, HR, HI⟩ := hrel
        clear HB0 HQ0 HST
        cases Q with
        | nil =>
          have hN : N = 0 := unhide HN
          subst hN
          have HF := hide (And.intro (unhide HR).m (And.intro (unhide HI).nd (And.intro (fun n => (unhide HI).fin n) (unhide HR).k)))
          clear HN HR HI BH HFW
          go_wp2
          go_ret
          exact ⟨S, rfl, unhide HF⟩
        | cons n Q =>
          have hNQ := unhide HN
          rw [List.length_cons] at hNQ
          obtain ⟨g, off, cap, hv, hcap, hgl, x0, x1, x2, hq1, hq2⟩ := (unhide HR).q.head
          injection hv with e1 e2 e3
          subst e1 e3
          have hpos : (0 : Int) < (N : Int) := by omega
          obtain ⟨M, hM⟩ : ∃ M, Q.length = M := ⟨_, rfl⟩
          have hNM : N = M + 1 := by omega
          subst hNM
          have hMb : M ≤ 1000 := by
            have h1 := (unhide HI).ln
            have h2 := unhide HFW S (unhide HI).nd (unhide HI).rs
            rw [List.length_cons, hM] at h1
            omega
          have HSM := hide (unhide HR).m.size
          have hltm : w.heap.size + 1 < wr.heap.size := (unhide HR).m.lt
          have HMM : Hid (Q.length = M) := hide hM
          rw [hM] at hq1 hq2 hcap
          -- the queue behind the first one, wherever it begins
          obtain ⟨o2, c2, hsl, hq3⟩ : ∃ o2 c2, (∀ W, (Instr.slice 41 (.slice (some ⟨g, off, none⟩) (M + 1) c) (some (.int .i64 1)) none none).run Tryz.prog W = .ok (.slice (some ⟨g, o2, none⟩) M c2) W) ∧ QuD (w.heap.size + 2) wr (.slice (some ⟨g, o2, none⟩) M c2) Q := by
            refine ⟨if c = 1 then off else off + 3, c - 1, fun W => sliceD g off M c W, ?_⟩
            by_cases e : c = 1
            · rw [if_pos e, e]
              exact hq1 e
            · rw [if_neg e]
              exact hq2 e
          have hrN := (unhide HI).rq n (by simp)
          have hRS : RcS w wr #[.slice sa k sc, .int .i64 wi] (.slice (some ⟨g, o2, none⟩) M c2) S Q := ⟨(unhide HR).p, (unhide HR).m, hq3, (unhide HR).k⟩
          have hR1 := hRS.kp (Kp.alloc wr (.cells #[.int .i64 n.st, .bool n.lp, .bool n.tk] 26))
          have hR2 := hR1.kp (Kp.alloc _ (.cells #[] 91))
          have hnb := CBox.new wr #[.int .i64 n.st, .bool n.lp, .bool n.tk] 26
          have hnb2 := hnb.kp (Kp.alloc _ (.cells #[] 91)) (by simp)
          have hlk : (Instr.lookup 65 (.map (some (w.heap.size + 1))) (.agg #[.int .i64 n.st, .bool n.lp, .bool n.tk]) true).run Tryz.prog (wr.alloc (.cells #[.int .i64 n.st, .bool n.lp, .bool n.tk] 26)) = .ok (.tuple #[.agg #[], .bool (hasD S n)]) (wr.alloc (.cells #[.int .i64 n.st, .bool n.lp, .bool n.tk] 26)) := hR1.m.look n
          have v0 := hnb.cell (i := 0) (v := .int .i64 n.st) rfl
          have v1 := hnb.cell (i := 1) (v := .bool n.lp) rfl
          have v2 := hnb.cell (i := 2) (v := .bool n.tk) rfl
          have u0 := hnb2.cell (i := 0) (v := .int .i64 n.st) rfl
          have u1 := hnb2.cell (i := 1) (v := .bool n.lp) rfl
          have u2 := hnb2.cell (i := 2) (v := .bool n.tk) rfl
          have hsz : (wr.alloc (.cells #[.int .i64 n.st, .bool n.lp, .bool n.tk] 26)).heap.size = wr.heap.size + 1 := by simp
          have HR2 := hide hR2
          have HNB2 := hide hnb2
          have HSL := hide hsl
          have hsl1 := hsl (wr.alloc (.cells #[.int .i64 n.st, .bool n.lp, .bool n.tk] 26))
          clear hsl hq1 hq2 hq3 hRS hR1 hR2 hnb hnb2 HR e2 hM HN hNQ HSL
          by_cases hin : n ∈ S
          · rw [hasD_iff.2 hin] at hlk
            have HI2 := hide ((unhide HI).old hin)
            have HMS := hide (unhide HR2).m.size
            clear HI BH HFW hrN hin
            go_wp2_with fail
            go_roundw
            case rel => exact ⟨S, Q, _, _, M, rfl, hide (unhide HMM).symm, HR2, HI2⟩
            case measure =>
              have e1 := unhide HMS
              have e2 := unhide HSM
              simp only [sliceLen]
              rw [e2]
              try rw [e1]
              omega
          · have hh : hasD S n = false := by
              cases e : hasD S n with
              | true => exact absurd (hasD_iff.1 e) hin
              | false => rfl
            rw [hh] at hlk
            obtain ⟨w4, hup, hR4, hk4⟩ := (unhide HR2).see n hin
            have HI2 := hide ((unhide HI).new hin)
            have hnb4 := (unhide HNB2).kp hk4 (by simp; omega)
            have HR4 := hide hR4
            have BH1 := hide (unhide BH n hrN w4 hR4.k)
            have t0 := hnb4.cell (i := 0) (v := .int .i64 n.st) rfl
            have t1 := hnb4.cell (i := 1) (v := .bool n.lp) rfl
            have t2 := hnb4.cell (i := 2) (v := .bool n.tk) rfl
            have p0 := hR4.p.cell (i := 0) (v := .slice sa k sc) rfl
            have p1 := hR4.p.cell (i := 1) (v := .int .i64 wi) rfl
            unfold Nd.c at BH1
            clear BH hh hin hrN hR4 hk4 hnb4
            go_wp2_with fail
            refine (unhide BH1).mono ?_
            rintro e w5 ⟨v5, rfl, ho5, hk5⟩
            have hR5 := (unhide HR4).kp hk5
            have hbl := beh_len L n
            obtain ⟨NB, hNB⟩ : ∃ NB, (beh L n).length = NB := ⟨_, rfl⟩
            have hlt4 : w.heap.size ≤ w4.heap.size := (unhide HR4).k.size
            obtain ⟨ad6, cap6, w6, hrun, hR6⟩ := hR5.app (ho5.base (by omega)) (by rw [unhide HMM, hNB]; omega) 41
            rw [unhide HMM, hNB] at hrun hR6
            have HQ6 : Hid (M + NB = (Q ++ beh L n).length) := hide (by rw [List.length_append, unhide HMM, hNB])
            have HRUN := hide hrun
            have HR6 := hide hR6
            have HMS := hide hR6.m.size
            have h32 := unhide HFW _ (unhide HI2).nd (unhide HI2).rs
            rw [List.length_append] at h32
            have HL32 : Hid (S.length + 1 ≤ 32 ∧ NB ≤ 12) := hide ⟨by simpa using h32, by omega⟩
            clear BH1 HR4 HR2 HI hR5 ho5 hk5 hrun hR6 h32 hbl hNB hlt4 t0 t1 t2 p0 p1 u0 u1 u2 v0 v1 v2 hup hlk hsl1
            go_wp2_with (at_builtin; refine wpList_app_run rfl _ _ _ rfl rfl rfl (unhide HRUN) ?_)
            go_roundw
            case rel => exact ⟨S ++ [n], Q ++ beh L n, _, _, M + NB, rfl, HQ6, HR6, HI2⟩
            case measure =>
              have e1 := unhide HMS
              have e2 := unhide HSM
              have e3 := unhide HL32
              rw [List.length_append] at e1
              simp only [sliceLen]
              rw [e2, e1]
              simp
              omega
end Go.Proofs.YtjijhefmbmdbeaaGreatDoor
