/-
  The tokens of a stage.
  What the row's list of package variables gives, with the words of fields and of stages.
  The document's answers: the words of fields, which words name no stage, the signs, the kind of an operation.
  The document's answers: the kind of an operation, its sign.
  Names of chapter 2, plainly. Of no program.
-/
import Derived.Test.YtjijhefmbmdbeaaGreatDoorP31
import Derived.Test.YtjijhefmbmdbeaaGreatDoorP06
import Derived.Test.YtjijhefmbmdbeaaGreatDoorP05
import Derived.Test.YtjijhefmbmdbeaaGreatDoorP03
import Derived.Test.YtjijhefmbmdbeaaGreatDoorP01
namespace Go.Proofs.YtjijhefmbmdbeaaGreatDoor
open Go.RowKit Go.Shelf

/-- What the package variables hold, the words of stages too. -/
structure TbP (w : World) : Prop where
  ex : TbE w
  fol : ∀ i, i < 4 → w.cell? ⟨1, i, none⟩ = some (.string (txt (hwW (i : Int))))
theorem TbP.same {w w' : World} (h : TbP w) (hs : w.heap.size ≤ w'.heap.size) (hb : ∀ k, k < 9 → w'.heap[k]? = w.heap[k]?) : TbP w' := by
  refine ⟨h.ex.same hs hb, fun i hi => ?_⟩
  rw [World.cell?_of_block (w := w') (w' := w) (a := ⟨1, i, none⟩) (hb 1 (by omega)).symm |>.symm]
  exact h.fol i hi
theorem TbP.low {w : World} (h : TbP w) : 9 ≤ w.heap.size := h.ex.low
theorem TbP.below {B : Nat} {w w' : World} (h : TbP w) (hb : Below B w w') (hB : 9 ≤ B) : TbP w' := h.same hb.size fun k hk => hb.block k (by omega)
theorem TbP.blw {w w' : World} (h : TbP w) (hb : Below w.heap.size w w') : TbP w' := h.below hb h.low
theorem TbP.kp {w w' : World} {F : List Nat} (h : TbP w) (hk : Kp F w w') (hF : ∀ k ∈ F, 9 ≤ k) : TbP w' := h.same hk.size fun k hk6 => hk.block k (by have := h.low; omega) (fun hm => by have := hF k hm; omega)
theorem OwnsK.app1 {B : Nat} {w : World} {v : Value} {l : List Tk} (ho : OwnsK B w v l) (hB : B ≤ w.heap.size) (t : Tk) (hl : l.length + 1 ≤ 1000000) (ty : TypeId) :
    ∃ g' cap w', (Builtin.append_ #[71, 71] ty #[v, .slice (some ⟨w.heap.size, 0, none⟩) 1 1]).run Tryz.prog (w.alloc (.cells #[.int .i64 t.kd, .string t.s, .int .i64 t.n, .int .i64 t.pl] 74)) = .ok (.slice (some ⟨g', 0, none⟩) (l.length + 1) cap) w' ∧ OwnsK B w' (.slice (some ⟨g', 0, none⟩) (l.length + 1) cap) (l ++ [t]) ∧ Below B w w' := by
  have ka := Kp.alloc w (.cells #[.int .i64 t.kd, .string t.s, .int .i64 t.n, .int .i64 t.pl] 74)
  obtain ⟨g', cap, w', h1, h2, h3⟩ := OwnsK.app (c := 1) (ho.kp ka) (by have := ka.size; omega) (x := [t]) (tks1 (CBox.new w _ _)) (by simp) (by simpa using hl) ty
  exact ⟨g', cap, w', h1, h2, (ka.below hB (by simp)).trans h3⟩
theorem OwnsK.two {B g : Nat} {w : World} {a b : Tk} (h : CBox g #[.int .i64 a.kd, .string a.s, .int .i64 a.n, .int .i64 a.pl, .int .i64 b.kd, .string b.s, .int .i64 b.n, .int .i64 b.pl] 74 w) (hg : B ≤ g) : OwnsK B w (.slice (some ⟨g, 0, none⟩) 2 2) [a, b] :=
  ⟨by simp [tkC], Or.inr ⟨g, 2, _, rfl, hg, h, Nat.le_refl _, by unfold maxLen; omega, rfl, by simp [tkC]⟩⟩
/-- What is kept while a stage's tokens are put together. -/
structure TkS (V W : World) (v : Value) (l : List Tk) : Prop where
  own : OwnsK V.heap.size W v l
  bel : Below V.heap.size V W
set_option maxHeartbeats 4000000 in
set_option maxRecDepth 100000 in
theorem stageTokens_any (s : Stg) (ad : Option Addr) (c : Nat) (w : World) (hc : PtsAt w ad s.cd) (hT : TbP w) (hok : s.ok) (h0 : ckK s.cd ≠ 0) (hh : 0 ≤ s.hw ∧ s.hw ≤ 3) :
    Calls Tryz.prog 39 #[.agg (stV s ad c)] w fun e w' => ∃ g cp, e = .returned (.slice (some ⟨g, 0, none⟩) (stK s).length cp) ∧ TksAt w' (some ⟨g, 0, none⟩) (stK s) ∧ Below w.heap.size w w' := by
  obtain ⟨nm, hw, mn, cd⟩ := s
  unfold stV
  dsimp only at *
  obtain ⟨H, rfl⟩ := Int.eq_ofNat_of_zero_le hh.1
  have hH : H < 4 := by omega
  have k0 : Kp [] w (w.alloc (.cells #[.string nm, .int .i64 (H : Int), .bool mn, .slice ad cd.length c] 54)).drew := (Kp.alloc _ _).trans (Kp.drew _) (by simp)
  have bx : CBox w.heap.size #[.string nm, .int .i64 (H : Int), .bool mn, .slice ad cd.length c] 54 (w.alloc (.cells #[.string nm, .int .i64 (H : Int), .bool mn, .slice ad cd.length c] 54)).drew := CBox.new w _ _
  have HS : Hid (∀ W, Kp [] (w.alloc (.cells #[.string nm, .int .i64 (H : Int), .bool mn, .slice ad cd.length c] 54)).drew W → W.cell? ⟨w.heap.size, 0, none⟩ = some (.string nm) ∧ W.cell? ⟨w.heap.size, 1, none⟩ = some (.int .i64 (H : Int)) ∧ W.cell? ⟨1, H, none⟩ = some (.string (txt (hwW (H : Int))))) := hide (fun W hk => ⟨(bx.kp hk (by simp)).cell rfl, (bx.kp hk (by simp)).cell rfl, ((hT.kp k0 (by simp)).kp hk (by simp)).fol H hH⟩)
  have HW : Hid (∀ W, Kp [] (w.alloc (.cells #[.string nm, .int .i64 (H : Int), .bool mn, .slice ad cd.length c] 54)).drew W → W.cell? ⟨w.heap.size, 2, none⟩ = some (.bool mn) ∧ W.cell? ⟨w.heap.size, 3, none⟩ = some (.slice ad cd.length c) ∧ w.heap.size < W.heap.size ∧ Hid (Below w.heap.size w W) ∧ Hid (PtsAt W ad cd) ∧ Hid (TbP W)) := hide (fun W hk => ⟨(bx.kp hk (by simp)).cell rfl, (bx.kp hk (by simp)).cell rfl, (Array.getElem?_eq_some_iff.1 (bx.kp hk (by simp))).1, hide ((k0.trans hk (by simp)).below (Nat.le_refl _) (by simp)), hide (hc.kp (k0.trans hk (by simp))), hide (hT.kp (k0.trans hk (by simp)) (by simp))⟩)
  have HCT : Hid (∀ W, PtsAt W ad cd → TbE W → Calls Tryz.prog 61 #[.slice ad cd.length c] W fun e w' => ∃ g c, e = .returned (.slice (some ⟨g, 0, none⟩) (cdT cd).length c) ∧ TksAt w' (some ⟨g, 0, none⟩) (cdT cd) ∧ Below W.heap.size W w') := hide (fun W h1 h2 => condTokens_any ad c cd W h1 h2 hok.2.2 h0)
  obtain ⟨_, -, -, -, -, -, -, hlen, hne⟩ := cdT_is h0 hok.2.2
  have hpos : 0 < (cdT cd).length := List.length_pos_iff.2 hne
  have hHi : (H : Int) < 4 := by omega
  have HK : Hid (Kp [] (w.alloc (.cells #[.string nm, .int .i64 (H : Int), .bool mn, .slice ad cd.length c] 54)).drew (w.alloc (.cells #[.string nm, .int .i64 (H : Int), .bool mn, .slice ad cd.length c] 54)).drew) := hide (Kp.refl _ _)
  clear hc hT hok h0 hh k0 bx hne
  obtain ⟨ST, hST⟩ : ∃ q, stK ⟨nm, (H : Int), mn, cd⟩ = q := ⟨_, rfl⟩
  have HST : Hid (ST = [wdK (txt (hwW (H : Int))), wdK nm] ++ ((if mn then [sgK (txt [43])] else []) ++ ([sgK (txt [58])] ++ (cdT cd ++ [sgK (txt [59])])))) := hide (by rw [← hST]; rfl)
  rw [hST]
  clear hST
  generalize txt (hwW (H : Int)) = HWT at *
  generalize cdT cd = CT at *
  generalize cd.length = CL at *
  go_enter Tryz.func39, Tryz.ntmps39
  go_wp2_with fail
  generalize (w.alloc (.cells #[.string nm, .int .i64 (H : Int), .bool mn, .slice ad CL c] 54)) = V at *
  generalize hGG : w.heap.size = G at *
  have HGG := hide hGG
  clear hGG
  go_cut [3] (fun v3 wc => ∃ g, v3 = .slice (some ⟨g, 0, none⟩) 2 2 ∧ Hid (CBox g #[.int .i64 1, .string HWT, .int .i64 0, .int .i64 0, .int .i64 1, .string nm, .int .i64 0, .int .i64 0] 74 wc ∧ V.heap.size ≤ g ∧ Kp [] V.drew wc))
  case first =>
    go_region_held3 (fun W => W.cell? ⟨G, 0, none⟩ = some (.string nm) ∧ W.cell? ⟨G, 1, none⟩ = some (.int .i64 (H : Int)) ∧ W.cell? ⟨1, H, none⟩ = some (.string HWT))
      (first | exact unhide HS _ (unhide (by assumption)) | exact unhide HS _ (Kp.trans (unhide (by assumption)) (Kp.alloc _ _) (by simp)))
      (first | (go_at_call 40; refine (word_tok _ _).mono ?_; rintro e wk ⟨rfl, hbk⟩; have HKk := hide (Kp.trans (unhide (by assumption)) (Kp.ofBelow hbk) (by simp)); clear hbk))
    go_wp2_with fail
    go_meet
    exact ⟨wk.heap.size, rfl, hide ⟨CBox.new wk _ _, (unhide HKk).size, (unhide HKk).trans (Kp.alloc _ _) (by simp)⟩⟩
  case rest =>
    obtain ⟨g, rfl, HX⟩ := hcut
    obtain ⟨hbx, hgg, hkw⟩ := unhide HX
    have ho : OwnsK V.heap.size wc (.slice (some ⟨g, 0, none⟩) 2 2) [wdK HWT, wdK nm] := OwnsK.two (a := wdK HWT) (b := wdK nm) hbx hgg
    have HKW : Hid (∀ W, Below V.heap.size V W → Kp [] V.drew W) := hide (fun W hb => ⟨hb.os, hb.tape, hb.output, hb.size, fun i hi _ => hb.block i hi⟩)
    have HBC : Hid (Below V.heap.size V wc) := hide ⟨hkw.os, hkw.tape, hkw.output, hkw.size, fun i hi => hkw.block i hi (by simp)⟩
    obtain ⟨c2, c3, hltc, _, _, _⟩ := unhide HW wc hkw
    have HOC := hide ho
    clear HX hbx hgg hkw ho HS HK
    cases mn with
    | true =>
      go_wp2_with fail
      refine (sign_tok _ _).mono ?_
      rintro e w1 ⟨rfl, hb1⟩
      obtain ⟨g2, cp2, w2, hrun2, ho2, hb2⟩ := OwnsK.app1 (B := V.heap.size) ((unhide HOC).kp (Kp.ofBelow hb1)) (by have := (unhide HBC).size; have := hb1.size; omega) (sgK ⟨#[43]⟩) (by simp) 71
      have HBW := hide (((unhide HBC).trans (hb1.mono (unhide HBC).size)).trans hb2)
      have hl2 : [wdK HWT, wdK nm].length + 1 = 3 := rfl
      rw [hl2] at hrun2 ho2
      have HO2 := hide ho2
      have HR2 := hide hrun2
      clear hb1 hrun2 ho2 hb2 HBC HOC hl2 c2 c3
      dsimp only
      obtain ⟨L3, hL3⟩ : ∃ q, [wdK HWT, wdK nm] ++ [sgK ⟨#[43]⟩] = q := ⟨_, rfl⟩
      have HO : Hid (OwnsK V.heap.size w2 (.slice (some ⟨g2, 0, none⟩) 3 cp2) L3) := by rw [← hL3]; exact HO2
      obtain ⟨NL, hNL⟩ : ∃ q : Nat, q = 3 := ⟨_, rfl⟩
      have HNL : Hid (L3.length = NL) := hide (by rw [← hL3, hNL]; rfl)
      have HL3E : [wdK HWT, wdK nm] ++ ((if true then [sgK (txt [43])] else []) ++ ([sgK (txt [58])] ++ (CT ++ [sgK (txt [59])]))) = L3 ++ ([sgK (txt [58])] ++ (CT ++ [sgK (txt [59])])) := by rw [← hL3]; rfl
      have hNLb : NL ≤ 3 := by omega
      have HL3E2 := hide HL3E
      clear hL3 HO2 HL3E
      rw [← hNL] at HO HR2
      clear hNL
      go_wp2_with (first | (at_builtin; refine wpList_app_run rfl _ _ _ rfl rfl rfl (unhide HR2) ?_) | fail)
      refine (sign_tok _ _).mono ?_
      rintro e wA ⟨rfl, hbA⟩
      obtain ⟨gB, cB, wB, hrunB, hoB, hbB⟩ := OwnsK.app1 (B := V.heap.size) ((unhide HO).kp (Kp.ofBelow hbA)) (by have := (unhide HBW).size; have := hbA.size; omega) (sgK ⟨#[58]⟩) (by rw [unhide HNL]; omega) 71
      have HBB := hide (((unhide HBW).trans (hbA.mono (unhide HBW).size)).trans hbB)
      rw [unhide HNL] at hrunB hoB
      have HOB := hide hoB
      have HRB := hide hrunB
      obtain ⟨_, d3, hltB, _, HPB, HTB⟩ := unhide HW wB (unhide HKW wB (unhide HBB))
      have CT1 := hide (unhide HCT wB (unhide HPB) (unhide HTB).ex)
      have HLB : Hid ((L3 ++ [sgK ⟨#[58]⟩]).length = NL + 1) := hide (by rw [List.length_append, unhide HNL]; rfl)
      clear hbA hrunB hoB hbB HPB HTB
      dsimp only
      go_wp2_with (first | (at_builtin; refine wpList_app_run rfl _ _ _ rfl rfl rfl (unhide HRB) ?_) | fail)
      refine (unhide CT1).mono ?_
      rintro e wC ⟨gC, cC, rfl, hatC, hbC⟩
      obtain ⟨gD, cD, wD, hrunD, hoD, hbD⟩ := OwnsK.app (c := cC) (B := V.heap.size) ((unhide HOB).kp (Kp.ofBelow hbC)) (by have := (unhide HBB).size; have := hbC.size; omega) hatC hpos (by rw [unhide HLB]; omega) 71
      have HBD := hide (((unhide HBB).trans (hbC.mono (unhide HBB).size)).trans hbD)
      rw [unhide HLB] at hrunD hoD
      obtain ⟨ML, hML⟩ : ∃ q, NL + 1 + CT.length = q := ⟨_, rfl⟩
      have hMLb : ML ≤ 2000 := by omega
      rw [hML] at hrunD hoD
      have HOD := hide hoD
      have HRD := hide hrunD
      have HLD : Hid (((L3 ++ [sgK ⟨#[58]⟩]) ++ CT).length = ML) := hide (by rw [List.length_append, unhide HLB, hML])
      clear hatC hbC hrunD hoD hbD CT1 HRB hML
      dsimp only
      go_wp2_with (first | (at_builtin; refine wpList_app_run rfl _ _ _ rfl rfl rfl (unhide HRD) ?_) | fail)
      refine (sign_tok _ _).mono ?_
      rintro e wE ⟨rfl, hbE⟩
      obtain ⟨gF, cF, wF, hrunF, hoF, hbF⟩ := OwnsK.app1 (B := V.heap.size) ((unhide HOD).kp (Kp.ofBelow hbE)) (by have := (unhide HBD).size; have := hbE.size; omega) (sgK ⟨#[59]⟩) (by rw [unhide HLD]; omega) 71
      have HBF := hide (((unhide HBD).trans (hbE.mono (unhide HBD).size)).trans hbF)
      rw [unhide HLD] at hrunF hoF
      have HOF := hide hoF
      have HRF := hide hrunF
      clear hbE hrunF hoF hbF HRD
      dsimp only
      go_wp2_with (at_builtin; refine wpList_app_run rfl _ _ _ rfl rfl rfl (unhide HRF) ?_)
      have hstl : ST = ((L3 ++ [sgK ⟨#[58]⟩]) ++ CT) ++ [sgK ⟨#[59]⟩] := by
        rw [unhide HST, unhide HL3E2]
        simp
        exact ⟨rfl, rfl⟩
      have hlen2 : ST.length = ML + 1 := by rw [hstl, List.length_append, unhide HLD]; rfl
      refine bodyPost_ret (results_tmp rfl _ _ _) rfl ⟨gF, cF, by rw [hlen2]; rfl, ?_, ?_⟩
      · obtain ⟨a', c', e', hat, _⟩ := (unhide HOF).at
        injection e' with ea eb ec
        rw [hstl]
        cases ea
        exact hat
      · rw [unhide HGG]
        exact unhide (unhide HW wF (unhide HKW wF (unhide HBF))).2.2.2.1
    | false =>
      obtain ⟨L3, hL3⟩ : ∃ q, [wdK HWT, wdK nm] = q := ⟨_, rfl⟩
      obtain ⟨NL, hNL⟩ : ∃ q : Nat, q = 2 := ⟨_, rfl⟩
      have HBW := hide (unhide HBC)
      have HL3E2 : Hid ([wdK HWT, wdK nm] ++ ((if false then [sgK (txt [43])] else []) ++ ([sgK (txt [58])] ++ (CT ++ [sgK (txt [59])]))) = L3 ++ ([sgK (txt [58])] ++ (CT ++ [sgK (txt [59])]))) := hide (by rw [← hL3]; rfl)
      have HNL : Hid (L3.length = NL) := hide (by rw [← hL3, hNL]; rfl)
      have HO : Hid (OwnsK V.heap.size wc (.slice (some ⟨g, 0, none⟩) NL 2) L3) := by rw [← hL3, hNL]; exact HOC
      have hNLb : NL ≤ 3 := by omega
      have hn2 : (2 : Nat) = NL := hNL.symm
      rw [show Value.slice (some ⟨g, 0, none⟩) 2 2 = Value.slice (some ⟨g, 0, none⟩) NL 2 by rw [hNL]]
      clear hL3 HOC HBC hNL hn2
      go_wp2_with fail
      refine (sign_tok _ _).mono ?_
      rintro e wA ⟨rfl, hbA⟩
      obtain ⟨gB, cB, wB, hrunB, hoB, hbB⟩ := OwnsK.app1 (B := V.heap.size) ((unhide HO).kp (Kp.ofBelow hbA)) (by have := (unhide HBW).size; have := hbA.size; omega) (sgK ⟨#[58]⟩) (by rw [unhide HNL]; omega) 71
      have HBB := hide (((unhide HBW).trans (hbA.mono (unhide HBW).size)).trans hbB)
      rw [unhide HNL] at hrunB hoB
      have HOB := hide hoB
      have HRB := hide hrunB
      obtain ⟨_, d3, hltB, _, HPB, HTB⟩ := unhide HW wB (unhide HKW wB (unhide HBB))
      have CT1 := hide (unhide HCT wB (unhide HPB) (unhide HTB).ex)
      have HLB : Hid ((L3 ++ [sgK ⟨#[58]⟩]).length = NL + 1) := hide (by rw [List.length_append, unhide HNL]; rfl)
      clear hbA hrunB hoB hbB HPB HTB
      dsimp only
      go_wp2_with (first | (at_builtin; refine wpList_app_run rfl _ _ _ rfl rfl rfl (unhide HRB) ?_) | fail)
      refine (unhide CT1).mono ?_
      rintro e wC ⟨gC, cC, rfl, hatC, hbC⟩
      obtain ⟨gD, cD, wD, hrunD, hoD, hbD⟩ := OwnsK.app (c := cC) (B := V.heap.size) ((unhide HOB).kp (Kp.ofBelow hbC)) (by have := (unhide HBB).size; have := hbC.size; omega) hatC hpos (by rw [unhide HLB]; omega) 71
      have HBD := hide (((unhide HBB).trans (hbC.mono (unhide HBB).size)).trans hbD)
      rw [unhide HLB] at hrunD hoD
      obtain ⟨ML, hML⟩ : ∃ q, NL + 1 + CT.length = q := ⟨_, rfl⟩
      have hMLb : ML ≤ 2000 := by omega
      rw [hML] at hrunD hoD
      have HOD := hide hoD
      have HRD := hide hrunD
      have HLD : Hid (((L3 ++ [sgK ⟨#[58]⟩]) ++ CT).length = ML) := hide (by rw [List.length_append, unhide HLB, hML])
      clear hatC hbC hrunD hoD hbD CT1 HRB hML
      dsimp only
      go_wp2_with (first | (at_builtin; refine wpList_app_run rfl _ _ _ rfl rfl rfl (unhide HRD) ?_) | fail)
      refine (sign_tok _ _).mono ?_
      rintro e wE ⟨rfl, hbE⟩
      obtain ⟨gF, cF, wF, hrunF, hoF, hbF⟩ := OwnsK.app1 (B := V.heap.size) ((unhide HOD).kp (Kp.ofBelow hbE)) (by have := (unhide HBD).size; have := hbE.size; omega) (sgK ⟨#[59]⟩) (by rw [unhide HLD]; omega) 71
      have HBF := hide (((unhide HBD).trans (hbE.mono (unhide HBD).size)).trans hbF)
      rw [unhide HLD] at hrunF hoF
      have HOF := hide hoF
      have HRF := hide hrunF
      clear hbE hrunF hoF hbF HRD
      dsimp only
      go_wp2_with (at_builtin; refine wpList_app_run rfl _ _ _ rfl rfl rfl (unhide HRF) ?_)
      have hstl : ST = ((L3 ++ [sgK ⟨#[58]⟩]) ++ CT) ++ [sgK ⟨#[59]⟩] := by
        rw [unhide HST, unhide HL3E2]
        simp
        exact ⟨rfl, rfl⟩
      have hlen2 : ST.length = ML + 1 := by rw [hstl, List.length_append, unhide HLD]; rfl
      refine bodyPost_ret (results_tmp rfl _ _ _) rfl ⟨gF, cF, by rw [hlen2]; rfl, ?_, ?_⟩
      · obtain ⟨a', c', e', hat, _⟩ := (unhide HOF).at
        injection e' with ea eb ec
        rw [hstl]
        cases ea
        exact hat
      · rw [unhide HGG]
        exact unhide (unhide HW wF (unhide HKW wF (unhide HBF))).2.2.2.1
end Go.Proofs.YtjijhefmbmdbeaaGreatDoor
namespace Go.Proofs.YtjijhefmbmdbeaaGreatDoor
open Go.RowKit

theorem gFol : Tryz.prog.globalNamed "weaver/pattern.follows" = some 1 := by kernel_rfl
theorem gFolT : (Tryz.prog.globals[1]?).map (·.type) = some 101 := by kernel_rfl
theorem cells4 : Tryz.prog.cellsOf 101 = 4 := by kernel_rfl
def folW : List (List UInt8) := [[115, 116, 97, 114, 116], [110, 101, 120, 116], [116, 104, 101, 110], [97, 110, 121]]
/-- The row's list. -/
def laidQ : List (String × DataW Unit) := [("math/bits.deBruijn32tab", Rows.laid_math_bits_deBruijn32tab), ("math/bits.deBruijn64tab", Rows.laid_math_bits_deBruijn64tab), ("internal/strconv.uint64pow10", Rows.laid_internal_strconv_uint64pow10), ("strconv.ErrRange", Rows.laid_strconv_ErrRange), ("strconv.ErrSyntax", Rows.laid_strconv_ErrSyntax), ("weaver/token.sets", Rows.laid_weaver_token_sets), ("weaver/expr.fields", Rows.laid_weaver_expr_fields), ("weaver/pattern.follows", Rows.laid_weaver_pattern_follows)]
theorem tbP {W : World} (h0 : laidMetH Tryz.prog laidQ W) : TbP W := by
  have h : laidMet Tryz.prog laidQ W := h0
  have t1 := h.tail
  have hdb : Lib.TabIs Tryz.prog W "math/bits.deBruijn64tab" .u8 dbI := Lib.tabIs_of_head gDb gDbT Tryz.underlying237 Tryz.underlying5 cellsU8 cells64 t1
  have hlow : 9 ≤ W.heap.size := World.block_lt_of_cell? _ _ (hdb.cell gDb 0 (by decide))
  have t2 := t1.tail
  have t3 := t2.tail
  have t5 := t3.tail.tail
  have t6 := t5.tail
  have t7 := t6.tail
  have hpow : Lib.TabIs Tryz.prog W "internal/strconv.uint64pow10" .u64 Lib.pow10Tab := Lib.tabIs_of_head gPow gPowT Tryz.underlying208 Tryz.underlying155 cellsU64 cells20 t2
  have hset : Lib.TabIs Tryz.prog W "weaver/token.sets" .u8 setsI := Lib.tabIs_of_head gSets gSetsT Tryz.underlying156 Tryz.underlying5 cellsU8 cells128 t5
  obtain ⟨a, s, hv, _⟩ := laid_sentinel t3 gRng gRngT Tryz.underlying110 errRow Tryz.underlying224 Tryz.underlying226 rfl rfl Tryz.underlying9 cellsErr cellsStr
  have fd := fun i => strs_of_head (zs := fldW) gFds gFdsT Tryz.underlying188 Tryz.underlying9 cellsStr cells6 t6 i
  have fo := fun i => strs_of_head (zs := folW) gFol gFolT Tryz.underlying101 Tryz.underlying9 cellsStr cells4 t7 i
  refine ⟨⟨⟨hlow, fun i hi => ?_, hpow, ⟨_, _, by simpa using World.var?_cell gRng hv 0⟩⟩, fd 0, fd 1, fd 2, fd 3, fd 4, fd 5⟩, fun i hi => ?_⟩
  · rw [hset.cell gSets i (by simpa [setsI] using hi), setsI_get ⟨i, hi⟩]
  · match i, hi with
    | 0, _ => exact fo 0
    | 1, _ => exact fo 1
    | 2, _ => exact fo 2
    | 3, _ => exact fo 3
def folV : Array Value := (folW.map fun z => Value.string ⟨z.toArray⟩).toArray
def putQ (h : Array Obj) : Array Obj := (putL h).modify 1 (cellsPut folV)
end Go.Proofs.YtjijhefmbmdbeaaGreatDoor
namespace Go.Proofs.YtjijhefmbmdbeaaGreatDoor
open Go.RowKit

def fldV : Array Value := #[.string ⟨#[110, 48]⟩, .string ⟨#[110, 49]⟩, .string ⟨#[110, 50]⟩, .string ⟨#[110, 51]⟩, .string ⟨#[116, 121, 112, 101]⟩, .string ⟨#[116, 101, 120, 116]⟩]
theorem fldV_at (k : Nat) (h : k < 6) : fldV[k]? = some (.string (txt (fldW.getD k []))) := by
  rcases (show k = 0 ∨ k = 1 ∨ k = 2 ∨ k = 3 ∨ k = 4 ∨ k = 5 by omega) with rfl | rfl | rfl | rfl | rfl | rfl <;> rfl
theorem fldOf_at (k : Nat) (h : k < 6) : fldOf (fldW.getD k []) = (k : Int) := by
  rcases (show k = 0 ∨ k = 1 ∨ k = 2 ∨ k = 3 ∨ k = 4 ∨ k = 5 by omega) with rfl | rfl | rfl | rfl | rfl | rfl <;> decide
theorem rFields_any (w : World) : Calls Tryz.prog 89 #[] w fun e w' => e = .returned (.slice (some ⟨w.heap.size, 0, none⟩) 6 6) ∧ CBox w.heap.size fldV 9 w' ∧ Kp [] w w' := by
  go_enter Tryz.func89, Tryz.ntmps89
  go_wp2
  go_ret
  exact ⟨rfl, CBox.new w _ _, Kp.alloc _ _⟩
set_option maxHeartbeats 1000000 in
set_option maxRecDepth 100000 in
theorem rField_any (s : ByteArray) (w : World) : Calls Tryz.prog 109 #[.string s] w fun e w' => e = .returned (.int .i64 (fldOf s.data.toList)) ∧ Kp [] w w' := by
  have tl := toList_data s
  generalize hl : s.data.toList = l at tl ⊢
  clear hl
  obtain ⟨F, hF⟩ : ∃ F, fldOf l = F := ⟨_, rfl⟩
  rw [hF]
  have HF := hide hF
  have HTL := hide tl
  clear hF tl
  go_enter Tryz.func109, Tryz.ntmps109
  go_wp2_with fail
  refine (rFields_any w).mono ?_
  rintro e w1 ⟨rfl, hbx, hk⟩
  have HBX := hide hbx
  have HK := hide hk
  have hlt := (Array.getElem?_eq_some_iff.1 hbx).1
  clear hbx hk
  go_wp2_with fail
  go_loop [4] (fun i => ∃ k : Nat, k ≤ 6 ∧ Hid (noFd l k) ∧ i = .int .i64 (k : Int)) (fun i => 6 - (intOf i).toNat)
  case atStart => exact ⟨0, by omega, hide (fun j hj => by omega), rfl⟩
  case round =>
    obtain ⟨k, hk, HN, rfl⟩ := hrel
    by_cases hlt6 : k < 6
    · have c := (unhide HBX).cell (fldV_at k hlt6)
      have hli : (k : Int) < 6 := by omega
      by_cases e : l = fldW.getD k []
      · have g2 : ((txt (fldW.getD k [])).toList == s.toList) = true := by rw [toList_data, txt_list, unhide HTL, e]; exact beq_self_eq_true _
        obtain rfl : F = (k : Int) := by rw [← unhide HF, e]; exact fldOf_at k hlt6
        clear e HF HN
        generalize txt (fldW.getD k []) = FS at *
        go_wp2
        go_ret
        exact ⟨rfl, unhide HK⟩
      · have g2 : ((txt (fldW.getD k [])).toList == s.toList) = false := by rw [toList_data, txt_list, unhide HTL]; exact beq_eq_false_iff_ne.2 (fun h => e h.symm)
        have HN2 : Hid (noFd l (k + 1)) := hide (noFd_next (unhide HN) e)
        clear e
        generalize txt (fldW.getD k []) = FS at *
        go_wp2
        go_round
        case rel => exact ⟨k + 1, by omega, HN2, by go_num⟩
        case measure => simp [intOf]; omega
    · obtain rfl : k = 6 := by omega
      obtain rfl : F = -1 := by rw [← unhide HF]; exact fldOf_no (unhide HN)
      go_wp2
      go_ret
      exact ⟨rfl, unhide HK⟩
/-- Does a word name no stage? -/
theorem rKeyword_any (s : ByteArray) (w : World) : Calls Tryz.prog 84 #[.string s] w fun e w' => e = .returned (.bool (!freeW s.data.toList)) ∧ Kp [] w w' := by
  have FA := hide (rField_any s w)
  have tl := toList_data s
  obtain ⟨R, hR⟩ : ∃ R, (!freeW s.data.toList) = R := ⟨_, rfl⟩
  rw [hR]
  unfold freeW at hR
  generalize s.data.toList = l at *
  have q1 : (s.toList == [111, 114]) = decide (l = [111, 114]) := by rw [tl, Bool.eq_iff_iff, beq_iff_eq, decide_eq_true_eq]
  have q2 : (s.toList == [97, 110, 100]) = decide (l = [97, 110, 100]) := by rw [tl, Bool.eq_iff_iff, beq_iff_eq, decide_eq_true_eq]
  have q3 : (s.toList == [110, 111, 116]) = decide (l = [110, 111, 116]) := by rw [tl, Bool.eq_iff_iff, beq_iff_eq, decide_eq_true_eq]
  generalize decide (l = [111, 114]) = b1 at *
  generalize decide (l = [97, 110, 100]) = b2 at *
  generalize decide (l = [110, 111, 116]) = b3 at *
  generalize fldOf l = F at *
  have HR := hide hR
  clear hR tl
  by_cases hf : 0 ≤ F
  · have g : (0 ≤ F) = True := eq_true hf
    have e : R = true := by rw [← unhide HR, decide_eq_false (by omega)]; simp
    subst e
    go_enter Tryz.func84, Tryz.ntmps84
    go_wp2_with fail
    refine (unhide FA).mono ?_
    rintro e w1 ⟨rfl, hk⟩
    clear FA HR
    go_wp2
    go_ret
    exact ⟨rfl, hk⟩
  · have g : (0 ≤ F) = False := eq_false hf
    have e : R = (b1 || b2 || b3) := by rw [← unhide HR, decide_eq_true (by omega)]; simp
    subst e
    clear HR
    cases b1 <;> cases b2 <;> cases b3
    all_goals
      go_enter Tryz.func84, Tryz.ntmps84
      go_wp2_with fail
      refine (unhide FA).mono ?_
      rintro e w1 ⟨rfl, hk⟩
      clear FA
      go_wp2
      go_ret
      exact ⟨rfl, hk⟩
end Go.Proofs.YtjijhefmbmdbeaaGreatDoor
namespace Go.Proofs.YtjijhefmbmdbeaaGreatDoor
open Go.RowKit

set_option maxHeartbeats 2000000 in
set_option maxRecDepth 100000 in
theorem rOf_any (op a b : Int) (w : World) : Calls Tryz.prog 111 #[.int .i64 op, .int .i64 a, .int .i64 b] w fun e w' => e = .returned (.int .i64 (opK op a b)) ∧ w' = w := by
  by_cases hop : 4 ≤ op ∧ op ≤ 13
  · rcases (show op = 4 ∨ op = 5 ∨ op = 6 ∨ op = 7 ∨ op = 8 ∨ op = 9 ∨ op = 10 ∨ op = 11 ∨ op = 12 ∨ op = 13 by omega) with rfl | rfl | rfl | rfl | rfl | rfl | rfl | rfl | rfl | rfl
    all_goals
      clear hop
      by_cases a1 : a = 1
      · subst a1
        by_cases b1 : b = 1
        · subst b1
          go_enter Tryz.func111, Tryz.ntmps111
          go_wp2
          go_ret
          exact ⟨rfl, rfl⟩
        · have g : (b == 1) = false := beq_eq_false_iff_ne.2 b1
          have g2 : ((1 : Int) == b) = false := beq_eq_false_iff_ne.2 (fun h => b1 h.symm)
          go_enter Tryz.func111, Tryz.ntmps111
          go_wp2
          go_ret
          exact ⟨ret_int (by unfold opK; simp [b1]; try omega), rfl⟩
      · have ga : (a == 1) = false := beq_eq_false_iff_ne.2 a1
        by_cases a2 : a = 2
        · subst a2
          by_cases b1 : b = 2
          · subst b1
            go_enter Tryz.func111, Tryz.ntmps111
            go_wp2
            go_ret
            exact ⟨rfl, rfl⟩
          · have g : (b == 2) = false := beq_eq_false_iff_ne.2 b1
            have g2 : ((2 : Int) == b) = false := beq_eq_false_iff_ne.2 (fun h => b1 h.symm)
            go_enter Tryz.func111, Tryz.ntmps111
            go_wp2
            go_ret
            exact ⟨ret_int (by unfold opK; simp; try omega), rfl⟩
        · have ga2 : (a == 2) = false := beq_eq_false_iff_ne.2 a2
          by_cases a3 : a = 3
          · subst a3
            by_cases b1 : b = 3
            · subst b1
              go_enter Tryz.func111, Tryz.ntmps111
              go_wp2
              go_ret
              exact ⟨rfl, rfl⟩
            · have g : (b == 3) = false := beq_eq_false_iff_ne.2 b1
              have g2 : ((3 : Int) == b) = false := beq_eq_false_iff_ne.2 (fun h => b1 h.symm)
              go_enter Tryz.func111, Tryz.ntmps111
              go_wp2
              go_ret
              exact ⟨ret_int (by unfold opK; simp [b1]; try omega), rfl⟩
          · have ga3 : (a == 3) = false := beq_eq_false_iff_ne.2 a3
            by_cases b1 : a = b
            · subst b1
              go_enter Tryz.func111, Tryz.ntmps111
              go_wp2
              go_ret
              exact ⟨ret_int (by unfold opK; simp [a1, a2, a3]; try omega), rfl⟩
            · have g : (a == b) = false := beq_eq_false_iff_ne.2 b1
              go_enter Tryz.func111, Tryz.ntmps111
              go_wp2
              go_ret
              exact ⟨ret_int (by unfold opK; simp [a1, a2, a3]; try omega), rfl⟩
  · have g4 : (op == 4) = false := beq_eq_false_iff_ne.2 (by omega)
    have g5 : (op == 5) = false := beq_eq_false_iff_ne.2 (by omega)
    have g6 : (op == 6) = false := beq_eq_false_iff_ne.2 (by omega)
    have g7 : (op == 7) = false := beq_eq_false_iff_ne.2 (by omega)
    have g8 : (op == 8) = false := beq_eq_false_iff_ne.2 (by omega)
    have g9 : (op == 9) = false := beq_eq_false_iff_ne.2 (by omega)
    have g10 : (op == 10) = false := beq_eq_false_iff_ne.2 (by omega)
    have g11 : (op == 11) = false := beq_eq_false_iff_ne.2 (by omega)
    have g12 : (op == 12) = false := beq_eq_false_iff_ne.2 (by omega)
    have g13 : (op == 13) = false := beq_eq_false_iff_ne.2 (by omega)
    have e : opK op a b = 0 := by
      unfold opK
      rw [if_neg (by omega), if_neg (by omega), if_neg (by omega), if_neg (by omega), if_neg (by omega)]
    rw [e]
    clear hop e
    go_enter Tryz.func111, Tryz.ntmps111
    go_wp2
    go_ret
    exact ⟨rfl, rfl⟩
set_option maxHeartbeats 2000000 in
set_option maxRecDepth 100000 in
theorem rSignO_any (op : Int) (h4 : 4 ≤ op) (h12 : op ≤ 12) (w : World) : Calls Tryz.prog 90 #[.int .i64 op] w fun e w' => e = .returned (.string (txt (sgO op))) ∧ Kp [] w w' := by
  rcases (show op = 4 ∨ op = 5 ∨ op = 6 ∨ op = 7 ∨ op = 8 ∨ op = 9 ∨ op = 10 ∨ op = 11 ∨ op = 12 by omega) with rfl | rfl | rfl | rfl | rfl | rfl | rfl | rfl | rfl
  all_goals
    go_enter Tryz.func90, Tryz.ntmps90
    go_wp2
    go_ret
    exact ⟨rfl, Kp.alloc _ _⟩
end Go.Proofs.YtjijhefmbmdbeaaGreatDoor
namespace Go.Proofs.YtjijhefmbmdbeaaGreatDoor

def nb (c : UInt8) : Bool := (decide ((97 : Int) ≤ (c.toNat : Int)) && decide ((c.toNat : Int) ≤ 122)) || (decide ((48 : Int) ≤ (c.toNat : Int)) && decide ((c.toNat : Int) ≤ 57))
/-- Is a text a name? -/
def nameB (s : ByteArray) : Bool := decide (1 ≤ s.size) && decide (s.size ≤ 32) && s.data.toList.all nb
end Go.Proofs.YtjijhefmbmdbeaaGreatDoor
