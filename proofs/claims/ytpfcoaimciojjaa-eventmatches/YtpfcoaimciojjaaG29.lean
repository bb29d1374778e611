/-
  A match that comes in as an argument, with the weights of its stages.
  EventMatches is proved: for every match and all bytes the law EventMatches returns true (which matches may be, their bytes, and what any bytes are as a match, is as the document has it; a match stays as it is), and its arguments read behind the call as before. No condition.
-/
import Derived.Test.YtpfcoaimciojjaaG28
import Derived.Test.YtpfcoaimciojjaaG07
import Derived.SizedLaws
import Derived.Test.YtpfcoaimciojjaaRows
import Derived.ProofKit
import Derived.OpenShut
import Derived.Deep.DeepHandedRow
import Derived.Lib.LaidTab
namespace Go.Proofs.Ytpfcoaimciojjaa
open Go.RowKit Go.Deep

theorem bytes_intM : Try.prog.bytesOf 3 = 8 := by kernel_rfl
theorem bytes_intsM : Try.prog.bytesOf 61 = 24 := by kernel_rfl
section
variable {H : Type} {enc : TypeId × Value → H} {W : World} {spare : Nat → Bool} {held : Bool} {fuel : Nat} {v : Value} {x : DataW H × List MemPlace}
theorem sized_intsM (h : DataW.trod enc Try.prog W 0 spare held fuel 61 [v] = some x) : ∀ (ad : Option Addr) (n cap : Nat), v = .slice ad n cap → (∀ m ∈ x.1.weights Try.prog 61, m ≤ reachBytes) → n * 8 ≤ reachBytes := by
  intro ad n cap hv hw
  rcases open_slice Try.underlying61 h with ⟨hcs, _⟩ | ⟨a, len, cp, m, k, D, Pl, hcs, hb, hl, hm, hmm, hx, _⟩
  · simp only [List.cons.injEq, and_true] at hcs
    rw [hcs] at hv
    injection hv with _ e
    rw [← e]
    exact Nat.zero_le _
  · simp only [List.cons.injEq, and_true] at hcs
    rw [hcs] at hv
    injection hv with _ e
    subst e
    have h1 := hw _ (by rw [hx]; simp only [DataW.weights, Try.underlying61]; exact List.mem_cons_self)
    rw [bytes_intM, List.length_map, List.length_range, List.length_map, List.length_range] at h1
    omega
theorem open_stagesW (h : DataW.trod enc Try.prog W 0 spare held fuel 33 [v] = some x) :
    ∃ (ad : Option Addr) (cap : Nat) (ss : List (List Int)), v = .slice ad ss.length cap ∧ ss.length ≤ 9223372036854775807 ∧ StagesN W ad ss ∧ (∀ p ∈ ss, p.length ≤ 9223372036854775807) ∧ ((∀ m ∈ x.1.weights Try.prog 33, m ≤ reachBytes) → ss.length * 24 ≤ reachBytes ∧ ∀ p ∈ ss, p.length * 8 ≤ reachBytes) := by
  rcases open_slice1 Try.underlying33 cells_ints h with ⟨hcs, _⟩ | ⟨a, len, cap, m, n, V, D, Pl, hcs, hb, hl, hm, hmm, hxe, hx⟩
  · simp only [List.cons.injEq, and_true] at hcs
    subst hcs
    exact ⟨none, 0, [], rfl, by simp, fun hne => absurd rfl hne, by simp, fun _ => ⟨by simp, by simp⟩⟩
  · simp only [List.cons.injEq, and_true] at hcs
    subst hcs
    have hlm : len ≤ m := by rw [hmm]; split <;> omega
    have each : ∀ i, i < len → ∃ p : List Int, (∃ a' c, W.cell? (a.add i) = some (.slice a' p.length c) ∧ IntsAt W a' p ∧ (a' = none → p = [] ∧ c = 0)) ∧ p.length ≤ 9223372036854775807 ∧ ((∀ m ∈ (D i).weights Try.prog 61, m ≤ reachBytes) → p.length * 8 ≤ reachBytes) := by
      intro i hi
      obtain ⟨h1, h2⟩ := hx i (by omega)
      have hz := sized_intsM h2
      obtain ⟨ad, cp, l, e, hl', hI, _, hn⟩ := open_ints h2
      rw [e] at h1
      refine ⟨l, ⟨ad, cp, h1, hI, fun hna => ⟨?_, hn hna⟩⟩, hl', fun hw => hz ad l.length cp e hw⟩
      rcases Classical.em (l = []) with h0 | h0
      · exact h0
      · obtain ⟨b, off, e2, _⟩ := hI h0
        rw [hna] at e2
        cases e2
    have hinh : Inhabited (List Int) := ⟨[]⟩
    obtain ⟨q, hq⟩ := choose_lt each
    refine ⟨some a, cap, (List.range len).map q, by simp, by simp; unfold maxLen at hm; omega, fun hne => ?_, fun y hy => ?_, fun hw => ⟨?_, fun y hy => ?_⟩⟩
    · have h0 : 0 < len := by
        rcases Nat.eq_zero_or_pos len with e | e
        · subst e; simp at hne
        · exact e
      obtain ⟨b, off, spot⟩ := a
      obtain ⟨_, _, hc0, _, _⟩ := (hq 0 h0).1
      have hspot : spot = none := by simpa [Addr.add] using World.cell?_spot hc0
      subst hspot
      refine ⟨b, off, rfl, ?_, fun i hi => ?_⟩
      · rcases Nat.lt_or_ge b W.heap.size with hlt | hge
        · exact hlt
        · exfalso
          rw [Go.WideShapes.add_plain] at hc0
          simp [World.cell?, Array.getElem?_eq_none hge] at hc0
      · have hi' : i < len := by simpa using hi
        obtain ⟨⟨a', c, c0, hI, hnn⟩, _⟩ := hq i hi'
        rw [Go.WideShapes.add_plain] at c0
        simp only [List.getElem_map, List.getElem_range]
        exact ⟨a', c, c0, hI, hnn⟩
    · obtain ⟨i, hi, rfl⟩ := List.mem_map.1 hy
      exact (hq i (List.mem_range.1 hi)).2.1
    · have h1 := hw _ (by rw [hxe]; simp only [DataW.weights, Try.underlying33]; exact List.mem_cons_self)
      rw [bytes_intsM, List.length_map, List.length_range, List.length_map, List.length_range] at h1
      rw [List.length_map, List.length_range]
      omega
    · obtain ⟨i, hi, rfl⟩ := List.mem_map.1 hy
      refine (hq i (List.mem_range.1 hi)).2.2 (fun m hm => hw m ?_)
      rw [hxe]
      simp only [DataW.weights, Try.underlying33]
      refine List.mem_cons_of_mem _ (List.mem_append.2 (Or.inl ?_))
      have hall : ∀ (L : List (DataW H)) (d : DataW H), d ∈ L → ∀ m ∈ d.weights Try.prog 61, m ∈ DataW.weightsAll Try.prog 61 L := by
        intro L
        induction L with
        | nil => intro d hd; cases hd
        | cons y L ih =>
          intro d hd m hm
          simp only [DataW.weightsAll]
          rcases List.mem_cons.1 hd with rfl | hd
          · exact List.mem_append.2 (Or.inl hm)
          · exact List.mem_append.2 (Or.inr (ih d hd m hm))
      exact hall _ (D i) (List.mem_map.2 ⟨i, hi, rfl⟩) m hm
theorem open_matchW {cs : Array Value} (hsz : cs.size = Try.prog.cellsOf 35) (h : DataW.trod enc Try.prog W 0 spare held fuel 35 cs.toList = some x) :
    ∃ (k : ByteArray) (ad : Option Addr) (cap : Nat) (ss : List (List Int)), cs = #[.string k, .slice ad ss.length cap] ∧ MtOk k ss ∧ StagesN W ad ss ∧ ((∀ m ∈ x.1.weights Try.prog 35, m ≤ reachBytes) → ss.length * 24 ≤ reachBytes ∧ ∀ p ∈ ss, p.length * 8 ≤ reachBytes) := by
  obtain ⟨f0, f1, hu, t0, t1, o0, o1⟩ := fields_Match
  rw [cells_Match] at hsz
  obtain ⟨xs, n, _, hxe, _, hxl, hf⟩ := DataW.trod_struct hu h
  obtain ⟨v0, v1, rfl⟩ : ∃ v0 v1, cs = #[v0, v1] := by
    obtain ⟨l⟩ := cs
    have hl : l.length = 2 := hsz
    cases l with
    | nil => cases hl
    | cons a r =>
      cases r with
      | nil => cases hl
      | cons b r =>
        cases r with
        | nil => exact ⟨a, b, rfl⟩
        | cons c r => simp at hl
  match xs, hxl with
  | [y0, y1], _ =>
    have g0 := hf 0 f0 rfl
    have g1 := hf 1 f1 rfl
    simp [o0, o1, t0, t1, cells_str, cells_stages] at g0 g1
    obtain ⟨s, q0, _, hs⟩ := DataW.trod_string Try.underlying9 g0
    simp only [List.cons.injEq, and_true] at q0
    obtain ⟨ad, cap, ss, e, hl, hS, hp, hn⟩ := open_stagesW g1
    subst q0 e
    refine ⟨s, ad, cap, ss, rfl, ⟨by unfold maxLen at hs; omega, hl, hp⟩, hS, fun hw => hn (fun m hm => hw m ?_)⟩
    rw [hxe]
    have hu' : Try.prog.underlying 35 = some (.struct #[f0, f1]) := hu
    simp only [DataW.weights, hu']
    refine DataW.weights_mem_each (j := 1) (t := 33) (d := y1.1) ?_ rfl m hm
    simp [t1]
end
end Go.Proofs.Ytpfcoaimciojjaa
namespace Go.Proofs.Ytpfcoaimciojjaa.eventMatches
open Go.ChangeShapes Go.WideShapes Go.ChangeAt Go.RowKit

theorem laidOut : laidOutB Try.prog = true := by kernel_rfl
theorem own : ownKnob Try.prog.godebug = none := by kernel_rfl
set_option maxRecDepth 100000 in
/-- What the walk gives, for every argument and every world. -/
theorem contract (H : Type) (enc : TypeId × Value → H) (W : World) (base : Nat) (args : Array Value) (ds gs : List (DataW H)) (before : List MemPlace)
    (hval : ∀ (j : Nat) t v, Try.f4.params[j]? = some t → args[j]? = some v → Value.okWide Try.prog W .any base t v)
    (hW : DataW.Whole enc Try.prog Try.f4.params.toList Rows.eventMatchesSpec.vars false W args.toList ds gs before) (hsz0 : (DataW.weightsEach Try.prog (Try.f4.params.toList ++ (OpenSpec.ofChange Rows.eventMatchesSpec).bare.plain.varTypes Try.prog) (ds ++ gs)).all (· ≤ reachBytes) = true) :
    Calls Try.prog 4 args W fun e W' => ∃ v, e = .returned v ∧ Rows.eventMatchesSpec.post enc Try.prog Try.f4 false true false false W args v W' := by
  have hW' := hW
  obtain ⟨p, q, hA0, hV, rfl, hfz, hnd⟩ := hW
  have hA : DataW.TrodAll enc Try.prog W 0 (fun _ => true) true Try.f4.params.toList args.toList ds p := hA0
  have hsz : (DataW.weightsEach Try.prog (Try.f4.params.toList ++ Rows.eventMatchesSpec.plain.varTypes Try.prog) (ds ++ gs)).all (· ≤ reachBytes) = true := hsz0
  rw [Try.params4] at hsz
  rw [Try.params4] at hA hval
  obtain ⟨v0, vs0, d0, ds0, p0, q0, hargs, rfl, rfl, h0, r0⟩ := trodAll_cons hA
  obtain ⟨v1, vs1, d1, ds1, p1, q1, rfl, rfl, rfl, h1, r1⟩ := trodAll_cons r0
  obtain ⟨rfl, rfl, rfl⟩ := trodAll_nil r1
  obtain rfl : args = #[v0, v1] := by cases args; simp_all
  obtain ⟨rfl, rfl⟩ := trodVars_none hV
  have h0k := h0
  obtain ⟨cs0, rfl, z0⟩ := okWide_struct Try.underlying35 (hval 0 35 v0 rfl rfl)
  obtain ⟨fuel0, hf0⟩ := h0
  obtain ⟨k0, ad0, cap0, ss0, rfl, ok0, hs0, hw0⟩ := open_matchW z0 (by simpa [Value.cells] using hf0)
  obtain ⟨hz1, hz2⟩ := hw0 (fun m hm => by have := List.all_eq_true.1 hsz m (DataW.weights_mem_each (j := 0) (t := 35) (d := d0) rfl rfl m hm); simpa using this)
  have hrb := reachBytes_lt
  obtain ⟨x1, rfl, rfl, rfl, hx1⟩ := Go.ChangeMaps.open_string Try.underlying9 (hval 1 9 v1 rfl rfl) h1
  clear hA0 hf0
  simp only [List.append_nil] at hW'
  have hlt0 : ∀ x ∈ p0, x.block < W.heap.size := fun x hx => by simpa using hW'.lt x (by simp [hx])
  refine (emat_walk k0 ad0 cap0 ss0 x1 W ok0 hs0 (by omega) (fun p hp => by have := hz2 p hp; omega) hx1).mono fun e W' ⟨he, hg⟩ => ?_
  subst he
  exact ⟨_, rfl, _, _, _, [], p0 ++ ([] ++ []), [], hW', trodAll_cons_mk (shut_bool Try.underlying4 _) trodAll_mk0, trodAll_cons_mk (Below.trod laidOut (by kernel_rfl) (of_decide_eq_true (by kernel_rfl)) h0k hg hlt0) (trodAll_cons_mk (Go.ChangeMaps.shut_string Try.underlying9 hx1) trodAll_mk0), rfl, hg.frame _, fun h => by cases h⟩

theorem reads (os : Os) {H : Type} (enc : TypeId × Value → H) : ∃ places, DataW.whole enc Try.prog ((World.holding Try.prog os ⟨#[], #[], []⟩).forCall (fun _ _ => 0) ⟨#[], #[.agg #[.string ⟨#[]⟩, .slice none 0 0], .string ⟨#[]⟩], []⟩).memory Try.f4.params.toList Rows.eventMatchesSpec.vars false #[Value.agg #[.string ⟨#[]⟩, .slice none 0 0], Value.string ⟨#[]⟩].toList 8 = some ([.agg [.lit (.string []), .nil], .lit (.string [])], [], places) :=
  ⟨[], by kernel_rfl⟩
set_option maxRecDepth 100000 in
theorem lifted (os : Os) (started : os.Started) (H : Type) (enc : TypeId × Value → H) (F : Stop.Interp) :
    ReturnsInHanded {} Try.checked os 4 .any ((OpenSpec.ofChange Rows.eventMatchesSpec).preRow enc Try.prog Try.f4 Rows.eventMatchesRow.domain false Rows.eventMatchesRow.laid) (((OpenSpec.ofChange Rows.eventMatchesSpec).at F).post enc Try.prog Try.f4 false true false false) := by
  obtain ⟨places, hx⟩ := reads os enc
  refine returnsInHanded_of_row (C := Try.checked) (s := OpenSpec.ofChange Rows.eventMatchesSpec) own started (by kernel_rfl) Try.func4
    (witness_row_at (enc := enc) (C := Try.checked) false (World.holding Try.prog os ⟨#[], #[], []⟩) #[.agg #[.string ⟨#[]⟩, .slice none 0 0], .string ⟨#[]⟩] rfl (by kernel_rfl) (by kernel_rfl) (by kernel_rfl)
      (OpenSpec.preRow_of_cond 8 hx (by kernel_rfl) (fun k hk => by cases hk) (by kernel_rfl) (laidMet_of_run' 8 (by kernel_rfl) (by kernel_rfl)))) ?_
  intro W base args ds gs before hval hW _ _ hsz _ _ _
  exact contract H enc W base args ds gs before hval hW hsz
end Go.Proofs.Ytpfcoaimciojjaa.eventMatches
namespace Go.Proofs.Ytpfcoaimciojjaa
/-- Whatever the match and the bytes, EventMatches returns true. -/
theorem eventMatches_said : Rows.EventMatchesSaid :=
  OpenClaim.holds_of_cond 4 Try.f4 rfl rfl rfl rfl rfl rfl rfl ⟨rfl, rfl, rfl, rfl, rfl⟩ rfl rfl rfl rfl rfl (by kernel_rfl) Try.func4 (by kernel_rfl)
    (of_decide_eq_true (by kernel_rfl)) (by unfold Func.isWrapper; first | (rw [if_pos (by decide +kernel)]; kernel_rfl) | (rw [if_neg (by decide +kernel)]; exact ⟨rfl, rfl⟩))
    (fun os started H enc _ F => by rw [OpenClaim.pre_eq_preRow]; exact eventMatches.lifted os started H enc F)
end Go.Proofs.Ytpfcoaimciojjaa
