/-
  Rows of events of the call's own; events lent with a mark behind their end, and asked for whether they were kept.
  Two arrays of four numbers compared.
  Two rows of events that are the same (SameEvents).
  Events that were lent are as they were, the mark behind their end too (KeptEvents).
  What the three folds share: new cells, what a round keeps, and how a fold returns.
  What an expression's value is, plainly: numbers, texts, truths; of an event, and of stages' last events.
-/
import Derived.Test.YthipclehhcfahaaGreatDoorHH08
import Derived.Test.YthipclehhcfahaaGreatDoorHH13
import Derived.Test.YthipclehhcfahaaGreatDoorChecked
import Derived.WalkKit
import Derived.WalkLawsBesides
import Derived.Deep.RegionHeld3
import Derived.Laws.ResultCell
import Derived.Test.YthipclehhcfahaaGreatDoorHH03
namespace Go.Proofs.YthipclehhcfahaaGreatDoor
open Go.RowKit Go.Shelf

def evL (e : Ev) : List Value := [.string e.k, .string e.t, .int .i64 e.n0, .int .i64 e.n1, .int .i64 e.n2, .int .i64 e.n3, .string e.x]
theorem evL_len (e : Ev) : (evL e).length = 7 := rfl
theorem info_Ev : (Tryz.prog.info? 37).map (fun i => (i.zero, i.size, i.bytes)) = some (some (.agg #[.string ⟨#[]⟩, .string ⟨#[]⟩, .int .i64 0, .int .i64 0, .int .i64 0, .int .i64 0, .string ⟨#[]⟩]), 7, 80) := by kernel_rfl
theorem evL_one (l : List Ev) : ∀ v ∈ l.flatMap evL, v.oneCell' = true := by
  intro v hv
  obtain ⟨e, _, h⟩ := List.mem_flatMap.1 hv
  unfold evL at h
  simp only [List.mem_cons, List.not_mem_nil, or_false] at h
  rcases h with rfl | rfl | rfl | rfl | rfl | rfl | rfl <;> rfl
/-- A row of events of the call's own. -/
def OwnsE (w : World) (v : Value) (l : List Ev) : Prop := w.ownsRow 0 37 7 v l.length (l.flatMap evL)
theorem OwnsE.kp {w w' : World} {v : Value} {l : List Ev} {F : List Nat} (h : OwnsE w v l) (hk : Kp F w w') (hF : ∀ g, v.ownBlock = some g → g ∉ F) : OwnsE w' v l := row_kp h hk hF
theorem OwnsE.empty (w : World) : OwnsE (w.alloc (.cells #[] 37)) (.slice (some ⟨w.heap.size, 0, none⟩) 0 0) [] :=
  ⟨rfl, Or.inr ⟨w.heap.size, 0, #[], rfl, Nat.zero_le _, CBox.new w _ _, Nat.le_refl _, by unfold maxLen; omega, rfl, rfl⟩⟩
theorem evC_cells {w : World} {b off : Nat} {l : List Ev} (h : EvsAt w (some ⟨b, off, none⟩) l) : ∀ j u, (l.flatMap evL)[j]? = some u → w.cell? ((⟨b, off, none⟩ : Addr).add j) = some u := by
  intro j u hj
  have hl := flat_len evL 7 evL_len l
  have hjl : j < l.length * 7 := by
    rw [← hl]
    exact (List.getElem?_eq_some_iff.1 hj).1
  have h7 := flat_at evL 7 evL_len l (j / 7) (j % 7) (by omega) (by omega)
  rw [show j / 7 * 7 + j % 7 = j by omega, hj] at h7
  obtain ⟨b', off', e, c0, c1, c2, c3, c4, c5, c6⟩ := h.seven (j / 7) (by omega)
  cases e
  have ea : (⟨b, off, none⟩ : Addr).add j = ⟨b, off + j / 7 * 7 + j % 7, none⟩ := by rw [Go.WideShapes.add_plain]; congr 1; omega
  rw [ea]
  rcases (show j % 7 = 0 ∨ j % 7 = 1 ∨ j % 7 = 2 ∨ j % 7 = 3 ∨ j % 7 = 4 ∨ j % 7 = 5 ∨ j % 7 = 6 by omega) with e | e | e | e | e | e | e
  all_goals
    rw [e] at h7 ⊢
    cases h7
    assumption
theorem OwnsE.len {w : World} {g n cap : Nat} {l : List Ev} (h : OwnsE w (.slice (some ⟨g, 0, none⟩) n cap) l) : n = l.length ∧ l.length ≤ cap ∧ cap ≤ 9223372036854775807 ∧ g < w.heap.size := by
  obtain ⟨_, ⟨e, _⟩ | ⟨g', cp, cur, e, _, _, hn, hm, _⟩⟩ := id h
  · cases e
  · injection e with _ e2 e3
    exact ⟨e2, by omega, by unfold maxLen at hm; omega, (World.ownsRow.lt h g rfl).2⟩
theorem OwnsE.evs {w : World} {g n cap : Nat} {l : List Ev} (h : OwnsE w (.slice (some ⟨g, 0, none⟩) n cap) l) : EvsAt w (some ⟨g, 0, none⟩) l := fun _ => by
  obtain ⟨rfl, _, _, hlt⟩ := h.len
  refine ⟨g, 0, rfl, hlt, fun i e hi j u hu => ?_⟩
  obtain ⟨hil, rfl⟩ := List.getElem?_eq_some_iff.1 hi
  have hj : j < 7 := by
    have := (Array.getElem?_eq_some_iff.1 hu).1
    simpa [Ev.c] using this
  have c := own_cell evL_len h i j hil hj
  rw [Nat.zero_add, c, ← hu]
  unfold evL Ev.c
  simp
theorem run_app_evs {w : World} {ad : Option Addr} {c g2 n2 cap2 : Nat} {A l : List Ev} (ho : OwnsE w (.slice (some ⟨g2, 0, none⟩) n2 cap2) A) (h : EvsAt w ad l) (ha : ad = none → l = [] ∧ c = 0) (hl : (A.length + l.length) * 80 ≤ 140737488355328) (ty : TypeId) :
    ∃ g cap w', (Builtin.append_ #[38, 38] ty #[.slice (some ⟨g2, 0, none⟩) n2 cap2, .slice ad l.length c]).run Tryz.prog w = .ok (.slice (some ⟨g, 0, none⟩) (n2 + l.length) cap) w' ∧ OwnsE w' (.slice (some ⟨g, 0, none⟩) (n2 + l.length) cap) (A ++ l) ∧ w.grownBy w' (some g2) ∧ (g = g2 ∨ g = w.heap.size) := by
  obtain ⟨i0, hi, hz0, hz1, hz2⟩ := info_parts info_Ev
  obtain ⟨rfl, hc2, _, _⟩ := ho.len
  have fin : ∀ {W : World} {g cap : Nat}, W.ownsRow 0 37 7 (.slice (some ⟨g, 0, none⟩) (A.length + l.length) cap) (A.length + l.length) (A.flatMap evL ++ l.flatMap evL) → OwnsE W (.slice (some ⟨g, 0, none⟩) (A.length + l.length) cap) (A ++ l) := fun hr => by
    unfold OwnsE
    rw [List.length_append, List.flatMap_append]
    exact hr
  cases ad with
  | none =>
    obtain ⟨rfl, rfl⟩ := ha rfl
    exact ⟨g2, cap2, w, by simpa using run_append_owned_none (P := Tryz.prog) (w := w) 0 _ ty 37 i0 7 Tryz.underlying38 hi _ _ _ ho, by simpa using ho, World.grownBy.refl _ _, Or.inl rfl⟩
  | some a =>
    by_cases h0 : l = []
    · subst h0
      have := run_append_room_cells (P := Tryz.prog) (w := w) 38 ty 37 i0 Tryz.underlying38 hi g2 0 A.length cap2 a 0 c [] (by simp) (fun j u hj => by simp at hj) (fun u hu => by cases hu) (by omega) (fun j hj => absurd hj (by simp)) (fun j hj => absurd hj (by simp))
      exact ⟨g2, cap2, w, by simpa [World.setCells] using this, by simpa using ho, World.grownBy.refl _ _, Or.inl rfl⟩
    · obtain ⟨b, off, e, _⟩ := id (h h0)
      cases e
      obtain ⟨g, cap, w', hr, r1, r2, r3⟩ := run_app_any (P := Tryz.prog) (w := w) 38 ty 37 i0 (.agg #[.string ⟨#[]⟩, .string ⟨#[]⟩, .int .i64 0, .int .i64 0, .int .i64 0, .int .i64 0, .string ⟨#[]⟩]) 7 80 Tryz.underlying38 hi hz0 hz1 hz2 rfl (by decide) ho (some ⟨b, off, none⟩) l.length c (l.flatMap evL) (flat_len evL 7 evL_len l) (fun h => by cases h) (fun a h => by cases h; rfl) (fun a h => by cases h; exact evC_cells h) (evL_one l) (by unfold maxLen; omega) hl
      exact ⟨g, cap, w', hr, fin r1, r2, r3⟩
def markE : Ev := ⟨⟨#[109, 97, 114, 107]⟩, ⟨#[]⟩, 0, 0, 0, 0, ⟨#[]⟩⟩
set_option maxHeartbeats 1000000 in
set_option maxRecDepth 100000 in
theorem lendEvents_any (ad : Option Addr) (cap : Nat) (l : List Ev) (w : World) (hl : l.length * 80 ≤ 140737488351232) (h : EvsAt w ad l) (ha : ad = none → l = [] ∧ cap = 0) :
    Calls Tryz.prog 18 #[.slice ad l.length cap] w fun r w' => ∃ g c, r = .returned (.slice (some ⟨g, 0, none⟩) l.length c) ∧ l.length + 1 ≤ c ∧ OwnsE w' (.slice (some ⟨g, 0, none⟩) (l.length + 1) c) (l ++ [markE]) ∧ w.heap.size ≤ g ∧ Kp [] w w' := by
  obtain ⟨g3, cap3, w3, r3, o3, gr3, at3⟩ := run_app_evs (c := cap) (OwnsE.empty w) (h.kp (Kp.alloc w (.cells #[] 37)) (by simp)) ha (by rw [List.length_nil]; omega) 38
  have hz : (w.alloc (.cells #[] 37)).heap.size = w.heap.size + 1 := by simp
  have k3 : Kp [] w w3 := (Kp.alloc w (.cells #[] 37)).trans (Kp.of gr3) (fun x hx => Or.inr (by simp at hx; omega))
  have hg3 : w.heap.size ≤ g3 := by rcases at3 with e | e <;> omega
  rw [List.nil_append, Nat.zero_add] at o3
  rw [Nat.zero_add] at r3
  have mk : EvsAt (w3.alloc (.cells markE.c 37)) (some ⟨w3.heap.size, 0, none⟩) [markE] := fun _ => ⟨w3.heap.size, 0, rfl, by simp, fun i e hi j u hu => by
    obtain rfl : i = 0 := by
      have := (List.getElem?_eq_some_iff.1 hi).1
      simp at this
      exact this
    simp at hi
    subst hi
    simp only [Nat.zero_mul, Nat.add_zero, Nat.zero_add]
    exact (CBox.new w3 _ _).cell hu⟩
  obtain ⟨g4, cap4, w4, r4, o4, gr4, at4⟩ := run_app_evs (c := 1) (o3.kp (Kp.alloc w3 (.cells markE.c 37)) (by simp)) mk (fun h => by cases h) (by simp; omega) 38
  have hz3 : (w3.alloc (.cells markE.c 37)).heap.size = w3.heap.size + 1 := by simp
  have k4 : Kp [] w w4 := (k3.trans (Kp.alloc w3 (.cells markE.c 37)) (by simp)).trans (Kp.of gr4) (fun x hx => Or.inr (by simp at hx; omega))
  have hg4 : w.heap.size ≤ g4 := by have := k3.size; rcases at4 with e | e <;> omega
  have hc4 := o4.len
  rw [List.length_append, List.length_singleton] at hc4
  rw [List.length_singleton] at o4 r4
  have hm : markE.c = #[.string ⟨#[109, 97, 114, 107]⟩, .string ⟨#[]⟩, .int .i64 0, .int .i64 0, .int .i64 0, .int .i64 0, .string ⟨#[]⟩] := rfl
  rw [hm] at r4
  have R3 := hide r3
  have R4 := hide r4
  have O4 := hide o4
  have K4 := hide k4
  have hcap : l.length + 1 ≤ cap4 := hc4.2.1
  have hcap0 : l.length ≤ cap4 := by omega
  clear r3 r4 o3 o4 k3 k4 gr3 gr4 at3 at4 mk h ha hm hc4 hz hz3
  generalize l.length = n at *
  go_enter Tryz.func18, Tryz.ntmps18
  go_wp2_with (first
    | (at_builtin; refine wpList_app_run rfl _ _ _ rfl rfl rfl (unhide R4) ?_)
    | (at_builtin; refine wpList_app_run rfl _ _ _ rfl rfl rfl (unhide R3) ?_))
  go_ret
  exact ⟨g4, cap4, rfl, hcap, unhide O4, hg4, unhide K4⟩
end Go.Proofs.YthipclehhcfahaaGreatDoor
namespace Go.Proofs.YthipclehhcfahaaGreatDoor
open Go.RowKit

theorem eq4 (d : Nat) (a0 a1 a2 a3 b0 b1 b2 b3 : Int) (w : World) : (Op.equalIn (d + 2) 35 (.agg #[.int .i64 a0, .int .i64 a1, .int .i64 a2, .int .i64 a3]) (.agg #[.int .i64 b0, .int .i64 b1, .int .i64 b2, .int .i64 b3])).run Tryz.prog w = .ok (a0 == b0 && (a1 == b1 && (a2 == b2 && a3 == b3))) w := by
  have hi := fun (a b : Int) (w : World) => run_equalIn_int (P := Tryz.prog) w d 2 .i64 .i64 a b Tryz.underlying2
  unfold Op.equalIn
  simp only [Sem.run_bind, run_underlying Tryz.underlying35, Result.andThen_ok]
  simp [part, Tryz.sizeOf2, go_sem, hi, Std.Legacy.Range.forIn_eq_forIn_range', List.range'_succ]
  by_cases h0 : a0 = b0 <;> by_cases h1 : a1 = b1 <;> by_cases h2 : a2 = b2 <;> by_cases h3 : a3 = b3 <;> simp [h0, h1, h2, h3]
end Go.Proofs.YthipclehhcfahaaGreatDoor
namespace Go.Proofs.YthipclehhcfahaaGreatDoor
open Go.RowKit

set_option maxHeartbeats 2000000 in
set_option maxRecDepth 100000 in
theorem sameEvs_any (a1 a2 : Option Addr) (c1 c2 : Nat) (l : List Ev) (w : World) (hl : l.length ≤ 9223372036854775807) (h1 : EvsAt w a1 l) (h2 : EvsAt w a2 l) :
    Calls Tryz.prog 37 #[.slice a1 l.length c1, .slice a2 l.length c2] w fun e w' => e = .returned (.bool true) ∧ Kp [] w w' := by
  have H1 := hide h1
  have H2 := hide h2
  clear h1 h2
  go_enter Tryz.func37, Tryz.ntmps37
  go_wp2
  go_loopw [5] (fun i wr => ∃ k : Nat, k ≤ l.length ∧ i = .int .i64 (k : Int) ∧ Kp [] w wr) (fun i _ => l.length - (intOf i).toNat)
  case atStart => exact ⟨0, Nat.zero_le _, rfl, Kp.refl _ _⟩
  case round =>
    obtain ⟨k, hk, rfl, kp⟩ := hrel
    by_cases hlt : k < l.length
    · have kp2 := kp.trans (Kp.drew wr) (by simp)
      obtain ⟨b1, o1, rfl, x0, x1, x2, x3, x4, x5, x6⟩ := ((unhide H1).kp kp2 (by simp)).seven k hlt
      obtain ⟨b2, o2, rfl, y0, y1, y2, y3, y4, y5, y6⟩ := ((unhide H2).kp kp2 (by simp)).seven k hlt
      have hli : (k : Int) < (l.length : Int) := by omega
      have KP := hide kp2
      clear H1 H2 kp kp2
      generalize l[k] = e at *
      obtain ⟨ek, et, n0, n1, n2, n3, ex⟩ := e
      dsimp only at x0 x1 x2 x3 x4 x5 x6 y0 y1 y2 y3 y4 y5 y6
      have h4 := fun d W => eq4 d n0 n1 n2 n3 n0 n1 n2 n3 W
      simp only [BEq.rfl, Bool.and_true] at h4
      have cS := And.intro x0 (And.intro x1 (And.intro x2 (And.intro x3 (And.intro x4 (And.intro x5 (And.intro x6 (And.intro y0 (And.intro y1 (And.intro y2 (And.intro y3 (And.intro y4 (And.intro y5 y6))))))))))))
      clear x0 x1 x2 x3 x4 x5 x6 y0 y1 y2 y3 y4 y5 y6
      go_wp2_with fail
      go_region_held3 (fun W => W.cell? ⟨b1, o1 + k * 7, none⟩ = some (.string ek) ∧ W.cell? ⟨b1, o1 + k * 7 + 1, none⟩ = some (.string et) ∧ W.cell? ⟨b1, o1 + k * 7 + 2, none⟩ = some (.int .i64 n0) ∧ W.cell? ⟨b1, o1 + k * 7 + 3, none⟩ = some (.int .i64 n1) ∧ W.cell? ⟨b1, o1 + k * 7 + 4, none⟩ = some (.int .i64 n2) ∧ W.cell? ⟨b1, o1 + k * 7 + 5, none⟩ = some (.int .i64 n3) ∧ W.cell? ⟨b1, o1 + k * 7 + 6, none⟩ = some (.string ex) ∧ W.cell? ⟨b2, o2 + k * 7, none⟩ = some (.string ek) ∧ W.cell? ⟨b2, o2 + k * 7 + 1, none⟩ = some (.string et) ∧ W.cell? ⟨b2, o2 + k * 7 + 2, none⟩ = some (.int .i64 n0) ∧ W.cell? ⟨b2, o2 + k * 7 + 3, none⟩ = some (.int .i64 n1) ∧ W.cell? ⟨b2, o2 + k * 7 + 4, none⟩ = some (.int .i64 n2) ∧ W.cell? ⟨b2, o2 + k * 7 + 5, none⟩ = some (.int .i64 n3) ∧ W.cell? ⟨b2, o2 + k * 7 + 6, none⟩ = some (.string ex))
        (first | with_reducible exact cS)
        (first | fail)
      go_wp2
      go_roundw
      case rel => exact ⟨k + 1, by omega, by go_num, unhide KP⟩
      case measure => simp [intOf]; omega
    · go_wp2
      go_ret
      exact ⟨rfl, kp⟩
end Go.Proofs.YthipclehhcfahaaGreatDoor
namespace Go.Proofs.YthipclehhcfahaaGreatDoor
open Go.RowKit Go.Shelf

theorem OwnsE.lent {w : World} {g c : Nat} {l : List Ev} (h : OwnsE w (.slice (some ⟨g, 0, none⟩) (l.length + 1) c) (l ++ [markE])) : EvsAt w (some ⟨g, 0, none⟩) l := fun hl => by
  obtain ⟨b, off, e, hlt, hc⟩ := h.evs (by simp)
  exact ⟨b, off, e, hlt, fun i x hx => hc i x (by rw [List.getElem?_append_left (List.getElem?_eq_some_iff.1 hx).1]; exact hx)⟩
set_option maxHeartbeats 1000000 in
set_option maxRecDepth 100000 in
theorem keptEvents_any (ad : Option Addr) (cap : Nat) (l : List Ev) (g c : Nat) (w : World) (hl : l.length * 80 ≤ 140737488351232) (hr : OwnsE w (.slice (some ⟨g, 0, none⟩) (l.length + 1) c) (l ++ [markE])) (h : EvsAt w ad l) :
    Calls Tryz.prog 21 #[.slice (some ⟨g, 0, none⟩) l.length c, .slice ad l.length cap] w fun e w' => e = .returned (.bool true) ∧ Kp [] w w' := by
  have SI := hide (sameEvs_any (some ⟨g, 0, none⟩) ad c cap l w (by omega) hr.lent h)
  obtain ⟨-, hc1, hc2, -⟩ := hr.len
  rw [List.length_append, List.length_singleton] at hc1
  have c0 : Hid (∀ W, Kp [] w W → W.cell? ⟨g, l.length * 7, none⟩ = some (.string ⟨#[109, 97, 114, 107]⟩)) := hide (fun W hk => by
    obtain ⟨b, off, e, q0, _⟩ := hr.evs.seven l.length (by simp)
    cases e
    rw [Nat.zero_add] at q0
    have : (l ++ [markE])[l.length]'(by simp) = markE := by simp
    rw [this] at q0
    exact hk.cell q0 (by simp))
  have hcI : ((l.length : Int) + 1) ≤ (c : Int) := by omega
  have hcN : l.length + 1 ≤ c := hc1
  have hx : (l.length : Int) < (l.length : Int) + 1 := by omega
  have hwr : IntKind.i64.wrap ((l.length : Int) + 1) = (l.length : Int) + 1 := by rw [IntKind.wrap_i64]; omega
  clear hr h
  generalize l.length = n at *
  go_enter Tryz.func21, Tryz.ntmps21
  go_wp2_with fail
  refine (unhide SI).mono ?_
  rintro r w1 ⟨rfl, hk1⟩
  have cm := unhide c0 w1 hk1
  have HK := hide hk1
  clear hk1 SI c0
  go_wp2
  go_ret
  exact ⟨rfl, unhide HK⟩
end Go.Proofs.YthipclehhcfahaaGreatDoor
namespace Go.Proofs.YthipclehhcfahaaGreatDoor
open Go.RowKit Go.Shelf

theorem KeepsOthers.ofCells {W W' : World} {F : List Nat} (h : Kp F W W') (hF : ∀ y ∈ F, ∃ cs t, CBox y cs t W) : KeepsOthers W W' := ⟨h.size, fun k o hk ho => by
  refine (h.block k (Array.getElem?_eq_some_iff.1 hk).1 (fun hm => ?_)).trans hk
  obtain ⟨cs, t, hc⟩ := hF k hm
  unfold CBox at hc
  rw [hk] at hc
  cases hc
  cases ho⟩
theorem new_cells (W : World) (news : List Value) (t : TypeId) : ∀ (j : Nat) (u : Value), news[j]? = some u → (W.alloc (.cells news.toArray t)).cell? ((⟨W.heap.size, 0, none⟩ : Addr).add j) = some u := fun j u hj => by
  have := (CBox.new W news.toArray t).cell (i := j) (v := u) (by simpa using hj)
  rw [show (⟨W.heap.size, 0, none⟩ : Addr).add j = ⟨W.heap.size, j, none⟩ by cases j <;> simp [Addr.add]]
  exact this
theorem flat_take_le (ts : List Ex) (k : Nat) : ((ts.take k).flatMap Ex.flat).length ≤ (ts.flatMap Ex.flat).length := by
  conv => rhs; rw [← List.take_append_drop k ts, List.flatMap_append, List.length_append]
  omega
theorem tab_stF (w : World) : (storeCells ⟨w.heap.size, 0, none⟩ opsV.toList 0).run Tryz.prog (w.alloc (.cells Tryz.zeroCells98 98)) = .ok () (w.alloc (.cells opsV 98)) :=
  run_storeCells_new w _ _ opsV info_tab (by kernel_rfl) opsV_one
theorem results_row_cell {P : Program} {fn : Func} {p u : Tmp} {ty ty2 : TypeId} (h : fn.results = #[.cell p ty, .cell u ty2]) (tmps : Array Value) (w : World) (g : Nat) (t : TypeId) (cs : Array Value) (fr : Nat × Nat) (fs : Array Field)
    (hp : tmps.getD p undef = .pointer (some ⟨g, 0, none⟩)) (hg : w.heap[g]? = some (.cells cs t fr))
    (hu : P.underlying ty = some (.struct fs)) (hi : (P.info? ty).map (·.size) = some cs.size)
    (g2 : Nat) (v : Value) (hp2 : tmps.getD u undef = .pointer (some ⟨g2, 0, none⟩)) (h2 : (loadVar ty2 ⟨g2, 0, none⟩).run P w = .ok v w) :
    (results fn tmps).run P w = .ok (.tuple #[.agg cs, v]) w := by
  have hp' : tmps[p]?.getD undef = .pointer (some ⟨g, 0, none⟩) := by simpa using hp
  have hp2' : tmps[u]?.getD undef = .pointer (some ⟨g2, 0, none⟩) := by simpa using hp2
  simp [results, h, hp', hp2', asAddr, run_loadVar_row w g t ty cs fr (.struct fs) hg hu rfl hi, h2, Sem.run_bind, Result.andThen]
theorem load_bool {W : World} {g : Nat} {b : Bool} (h : CBox g #[.bool b] 4 W) : (loadVar 4 ⟨g, 0, none⟩).run Tryz.prog W = .ok (.bool b) W := by
  have c := h.cell (i := 0) (v := .bool b) rfl
  go_simp
theorem CBox.putObj {g D : Nat} {cs : Array Value} {t : TypeId} {W : World} {o o' : Obj} (h : CBox g cs t W) (hD : W.heap[D]? = some o) (ho : o.isCells = false) : CBox g cs t (W.putObj D o') := by
  unfold CBox at *
  rw [World.putObj_heap_other (fun e => by subst e; rw [h] at hD; cases hD; cases ho)]
  exact h
/-- How a fold returns. -/
theorem fo_ret {n : Nat} {fn : Func} {R : Ending → World → Prop} {tmps : Array Value} {W : World} {D b1 b2 n₀ : Nat} {ty : TypeId} {cs : Array Value} {b : Bool} {fs : Array Field} {w : World} (h : fn.results = #[.cell 4 ty, .cell 5 4])
    (h4 : tmps.getD 4 undef = .pointer (some ⟨b1, 0, none⟩)) (h5 : tmps.getD 5 undef = .pointer (some ⟨b2, 0, none⟩)) (hu : Tryz.prog.underlying ty = some (.struct fs)) (hi : (Tryz.prog.info? ty).map (·.size) = some cs.size)
    (hK : W.heap[D]? = some (.deferred (some []))) (c1 : CBox b1 cs ty W) (c2 : CBox b2 #[.bool b] 4 W) (hb : Below n₀ w W) (hD : n₀ ≤ D) 
    (hR : ∀ W', Below n₀ w W' → R (.returned (.tuple #[.agg cs, .bool b])) W') :
    bodyPostM Fence.wide n Tryz.prog fn R .ret { tmps := tmps, defers := [{ target := .collected D, args := #[] }] } W := by
  refine ⟨by simp, .inl ⟨_, _, rfl, run_takeDeferred hK, ?_⟩⟩
  have k1 := c1.putObj (o' := .deferred none) hK rfl
  have k2 := c2.putObj (o' := .deferred none) hK rfl
  refine ⟨_, results_row_cell h tmps _ b1 ty cs (0, 0) fs h4 k1 hu hi b2 (.bool b) h5 (load_bool k2), hR _ ?_⟩
  exact hb.trans ⟨rfl, rfl, rfl, by simp, fun k hk => World.putObj_heap_other (by omega)⟩
end Go.Proofs.YthipclehhcfahaaGreatDoor
namespace Go.Proofs.YthipclehhcfahaaGreatDoor

structure Vl where
  n : Int
  s : ByteArray
  t : Bool
def noB : ByteArray := ⟨#[]⟩
/-- The moment at which a condition is asked: the event, the stages' names and their last events. -/
structure Mo where
  e : Ev
  ns : List ByteArray
  la : List Ev
/-- The first place of a name. -/
def fstN (s : ByteArray) : List ByteArray → Nat
  | [] => 0
  | n :: r => if n.data.toList = s.data.toList then 0 else fstN s r + 1
def evZ : Ev := ⟨noB, noB, 0, 0, 0, 0, noB⟩
def Mo.at (M : Mo) (s : ByteArray) : Ev := if emptyB s then M.e else M.la.getD (fstN s M.ns) evZ
def evN (e : Ev) (f : Int) : Int := if f = 0 then e.n0 else if f = 1 then e.n1 else if f = 2 then e.n2 else e.n3
def fdV (e : Ev) (f : Int) : Vl := if f = 4 then ⟨0, e.t, false⟩ else if f = 5 then ⟨0, e.x, false⟩ else ⟨evN e f, noB, false⟩
def lfV (M : Mo) (p : Pt) : Vl := if p.kd = 1 then ⟨p.n, noB, false⟩ else if p.kd = 2 then ⟨0, p.s, false⟩ else fdV (M.at p.st) p.fl
def eqV (a b : Vl) : Bool := decide (a.n = b.n) && (decide (a.s.data.toList = b.s.data.toList) && decide (a.t = b.t))
def opV (k : Int) (a b : Vl) : Vl :=
  if k = 4 then ⟨IntKind.i64.wrap (a.n + b.n), noB, false⟩
  else if k = 5 then ⟨IntKind.i64.wrap (a.n - b.n), noB, false⟩
  else if k = 6 then ⟨IntKind.i64.wrap (a.n * b.n), noB, false⟩
  else if k = 7 then ⟨0, noB, decide (a.n < b.n)⟩
  else if k = 8 then ⟨0, noB, decide (a.n ≤ b.n)⟩
  else if k = 9 then ⟨0, noB, eqV a b⟩
  else if k = 10 then ⟨0, noB, !eqV a b⟩
  else if k = 11 then ⟨0, noB, a.t && b.t⟩
  else if k = 12 then ⟨0, noB, a.t || b.t⟩
  else ⟨0, noB, !a.t⟩
def vlv (M : Mo) (p : Pt) : List Vl → Vl
  | [] => lfV M p
  | [a] => opV p.kd a ⟨0, noB, false⟩
  | a :: b :: _ => opV p.kd a b
/-- Does a stage have its name among these? -/
def hasN (ns : List ByteArray) (s : ByteArray) : Bool := decide (fstN s ns < ns.length)
/-- Have all stages that are asked for? -/
def hasS (ns : List ByteArray) (x : List Pt) : Bool := x.all fun p => emptyB p.st || hasN ns p.st
/-- What Holds tells. -/
def hdE (x : List Pt) (M : Mo) : Int := if ckK x ≠ 3 then 110 else if M.ns.length ≠ M.la.length ∨ hasS M.ns x = false then 5 else 0
def hdB (x : List Pt) (M : Mo) : Bool := if hdE x M ≠ 0 then false else match fdX (vlv M) x with
  | some v => v.t
  | none => false
end Go.Proofs.YthipclehhcfahaaGreatDoor
