/-
  A slice of acts that comes in as an argument (SourcePlays): its acts lie where it says.
-/
import Derived.Test.YtnikkjbjidhhlaaEvIn
import Derived.Test.YtnikkjbjidhhlaaIntsIn
import Derived.Test.YtnikkjbjidhhlaaKp0
import Derived.Test.YtnikkjbjidhhlaaSoI
import Derived.ProofKit
import Derived.SizedLaws
import Derived.OpenShut
import Derived.Deep.Slices
namespace Go.Proofs.Ytnikkjbjidhhlaa
open Go.RowKit Go.Deep

/-- An act. -/
structure Ao where
  kind : Int
  e : Ev
  part : Int
  fro : Int
  n : Int
  oa : Option Addr
  oc : Nat
  os : List Int
def Ao.c (a : Ao) : Array Value := #[.int .i64 a.kind, .string a.e.k, .string a.e.t, .int .i64 a.e.n0, .int .i64 a.e.n1, .int .i64 a.e.n2, .int .i64 a.e.n3, .string a.e.x, .int .i64 a.part, .int .i64 a.fro, .int .i64 a.n, .slice a.oa a.os.length a.oc]
structure Ao.lies (w : World) (a : Ao) : Prop where
  k : inW a.kind
  ev : a.e.ok
  p : inW a.part
  f : inW a.fro
  n : inW a.n
  ol : a.os.length ≤ 9223372036854775807
  off : IntsAt w a.oa a.os
  nil : a.oa = none → a.os = [] ∧ a.oc = 0
def AosAt (w : World) (ad : Option Addr) (l : List Ao) : Prop :=
  l ≠ [] → ∃ b off, ad = some ⟨b, off, none⟩ ∧ b < w.heap.size ∧ ∀ i (h : i < l.length), ∀ (j : Nat) (u : Value), (l[i]).c[j]? = some u → w.cell? ⟨b, off + i * 12 + j, none⟩ = some u
theorem cells_Act5 : Try.prog.cellsOf 47 = 12 := by kernel_rfl
theorem cells_int5 : Try.prog.cellsOf 3 = 1 := by kernel_rfl
theorem cells_ints5 : Try.prog.cellsOf 34 = 1 := by kernel_rfl
theorem fields_Act5 : ∃ f0 f1 f2 f3 f4 f5 : Field, Try.prog.underlying 47 = some (.struct #[f0, f1, f2, f3, f4, f5]) ∧ f0.type = 3 ∧ f1.type = 45 ∧ f2.type = 3 ∧ f3.type = 3 ∧ f4.type = 3 ∧ f5.type = 34 ∧ f0.offset = 0 ∧ f1.offset = 1 ∧ f2.offset = 8 ∧ f3.offset = 9 ∧ f4.offset = 10 ∧ f5.offset = 11 :=
  ⟨_, _, _, _, _, _, Try.underlying47, rfl, rfl, rfl, rfl, rfl, rfl, rfl, rfl, rfl, rfl, rfl, rfl⟩
theorem list12 {α : Type} : ∀ (l : List α), l.length = 12 → ∃ a b c d e f g h i j k m, l = [a, b, c, d, e, f, g, h, i, j, k, m]
  | [a, b, c, d, e, f, g, h, i, j, k, m], _ => ⟨a, b, c, d, e, f, g, h, i, j, k, m, rfl⟩
theorem list6 {α : Type} : ∀ (l : List α), l.length = 6 → ∃ a b c d e f, l = [a, b, c, d, e, f]
  | [a, b, c, d, e, f], _ => ⟨a, b, c, d, e, f, rfl⟩
section
variable {H : Type} {enc : TypeId × Value → H} {W : World} {spare : Nat → Bool} {held : Bool} {fuel : Nat} {v : Value} {x : DataW H × List MemPlace}
theorem bytes_int5 : Try.prog.bytesOf 3 = 8 := by kernel_rfl
theorem sized_ints5 (h : DataW.trod enc Try.prog W 0 spare held fuel 34 [v] = some x) : ∀ (ad : Option Addr) (n cap : Nat), v = .slice ad n cap → (∀ m ∈ x.1.weights Try.prog 34, m ≤ reachBytes) → n * 8 ≤ reachBytes := by
  intro ad n cap hv hw
  rcases open_slice Try.underlying34 h with ⟨hcs, _⟩ | ⟨a, len, cp, m, k, D, Pl, hcs, hb, hl, hm, hmm, hx, _⟩
  · simp only [List.cons.injEq, and_true] at hcs
    rw [hcs] at hv
    injection hv with _ e
    rw [← e]
    exact Nat.zero_le _
  · simp only [List.cons.injEq, and_true] at hcs
    rw [hcs] at hv
    injection hv with _ e
    subst e
    have h1 := hw _ (by rw [hx]; simp only [DataW.weights, Try.underlying34]; exact List.mem_cons_self)
    rw [bytes_int5, List.length_map, List.length_range, List.length_map, List.length_range] at h1
    omega
theorem open_act5 {cs : Array Value} (hsz : cs.size = 12) (h : DataW.trod enc Try.prog W 0 spare held fuel 47 cs.toList = some x) : ∃ a : Ao, cs = a.c ∧ a.lies W ∧ ((∀ m ∈ x.1.weights Try.prog 47, m ≤ reachBytes) → a.os.length * 8 ≤ reachBytes) := by
  obtain ⟨f0, f1, f2, f3, f4, f5, hu, t0, t1, t2, t3, t4, t5, o0, o1, o2, o3, o4, o5⟩ := fields_Act5
  obtain ⟨xs, n, _, hxe, _, hxl, hf⟩ := DataW.trod_struct hu h
  obtain ⟨l⟩ := cs
  obtain ⟨v0, v1, v2, v3, v4, v5, v6, v7, v8, v9, v10, v11, rfl⟩ := list12 l hsz
  obtain ⟨y0, y1, y2, y3, y4, y5, rfl⟩ := list6 xs hxl
  have g0 := hf 0 f0 rfl
  have g1 := hf 1 f1 rfl
  have g2 := hf 2 f2 rfl
  have g3 := hf 3 f3 rfl
  have g4 := hf 4 f4 rfl
  have g5 := hf 5 f5 rfl
  simp [o0, o1, o2, o3, o4, o5, t0, t1, t2, t3, t4, t5, cells_int5, cells_Event, cells_ints5] at g0 g1 g2 g3 g4 g5
  obtain ⟨k0, q0, _, w0⟩ := DataW.trod_int Try.underlying3 g0
  obtain ⟨k2, q2, _, w2⟩ := DataW.trod_int Try.underlying3 g2
  obtain ⟨k3, q3, _, w3⟩ := DataW.trod_int Try.underlying3 g3
  obtain ⟨k4, q4, _, w4⟩ := DataW.trod_int Try.underlying3 g4
  obtain ⟨ev, he, hok⟩ := open_event (cs := #[v1, v2, v3, v4, v5, v6, v7]) (by rw [cells_Event]; rfl) (by simpa using g1)
  have hz5 := sized_ints5 g5
  obtain ⟨oa, oc, os, h1, h2, h3, _, h5⟩ := open_ints g5
  simp only [List.cons.injEq, and_true] at q0 q2 q3 q4
  subst q0 q2 q3 q4 h1
  unfold Ev.c at he
  simp only [Array.mk.injEq, List.cons.injEq, and_true] at he
  obtain ⟨rfl, rfl, rfl, rfl, rfl, rfl, rfl⟩ := he
  have u0 := bounds_i64 w0
  have u2 := bounds_i64 w2
  have u3 := bounds_i64 w3
  have u4 := bounds_i64 w4
  refine ⟨⟨k0, ev, k2, k3, k4, oa, oc, os⟩, rfl, ⟨⟨u0.1, ?_⟩, hok, ⟨u2.1, ?_⟩, ⟨u3.1, ?_⟩, ⟨u4.1, ?_⟩, h2, h3, fun e => ⟨?_, h5 e⟩⟩, fun hw => ?_⟩
  · show k0 ≤ _; omega
  · show k2 ≤ _; omega
  · show k3 ≤ _; omega
  · show k4 ≤ _; omega
  · rcases Classical.em (os = []) with e1 | e1
    · exact e1
    · have e : oa = none := e
      obtain ⟨b, off, e2, _⟩ := h3 e1
      rw [e] at e2
      cases e2
  · refine hz5 oa os.length oc rfl (fun m hm => hw m ?_)
    rw [hxe]
    have hu' : Try.prog.underlying 47 = some (.struct #[f0, f1, f2, f3, f4, f5]) := hu
    simp only [DataW.weights, hu']
    refine DataW.weights_mem_each (j := 5) (t := 34) (d := y5.1) ?_ rfl m hm
    simp [t5]
theorem open_acts5 (h : DataW.trod enc Try.prog W 0 spare held fuel 36 [v] = some x) :
    ∃ (ad : Option Addr) (cap : Nat) (l : List Ao), v = .slice ad l.length cap ∧ l.length ≤ 9223372036854775807 ∧ AosAt W ad l ∧ (∀ y ∈ l, y.lies W) ∧ ((∀ m ∈ x.1.weights Try.prog 36, m ≤ reachBytes) → ∀ y ∈ l, y.os.length * 8 ≤ reachBytes) := by
  rcases open_slice Try.underlying36 h with ⟨hcs, _⟩ | ⟨a, len, cap, m, n, D, Pl, hcs, hb, hl, hm, hmm, hxe, hx⟩
  · simp only [List.cons.injEq, and_true] at hcs
    subst hcs
    exact ⟨none, 0, [], rfl, by simp, fun hne => absurd rfl hne, by simp, by simp⟩
  · simp only [List.cons.injEq, and_true] at hcs
    subst hcs
    have hlm : len ≤ m := by rw [hmm]; split <;> omega
    have each : ∀ i, i < len → ∃ y : Ao, (∀ (j : Nat) (u : Value), y.c[j]? = some u → W.cell? (a.add (i * 12 + j)) = some u) ∧ y.lies W ∧ ((∀ m ∈ (D i).weights Try.prog 47, m ≤ reachBytes) → y.os.length * 8 ≤ reachBytes) := by
      intro i hi
      obtain ⟨cs', h1, h2⟩ := hx i (by omega)
      rw [cells_Act5] at h1
      obtain ⟨_, hlen, hcell⟩ := World.cells?_some h1
      obtain ⟨y, hy, hok⟩ := open_act5 (cs := cs'.toArray) (by simpa using hlen) (by simpa using h2)
      refine ⟨y, fun j u hu => ?_, hok⟩
      rw [← hy] at hu
      have hj : j < cs'.length := by
        have := (Array.getElem?_eq_some_iff.1 hu).1
        simpa using this
      have e0 := hcell j (by omega)
      rw [Go.Deep.add_add] at e0
      rw [e0]
      simpa using hu
    have hinh : Inhabited Ao := ⟨⟨0, ⟨⟨#[]⟩, ⟨#[]⟩, 0, 0, 0, 0, ⟨#[]⟩⟩, 0, 0, 0, none, 0, []⟩⟩
    obtain ⟨q, hq⟩ := choose_lt each
    refine ⟨some a, cap, (List.range len).map q, by simp, by simp; unfold maxLen at hm; omega, fun hne => ?_, fun y hy => ?_, fun hw y hy => ?_⟩
    · have h0 : 0 < len := by
        rcases Nat.eq_zero_or_pos len with e | e
        · subst e; simp at hne
        · exact e
      obtain ⟨b, off, spot⟩ := a
      have hc0 := (hq 0 h0).1 0 _ rfl
      have hspot : spot = none := by simpa [Addr.add] using World.cell?_spot hc0
      subst hspot
      refine ⟨b, off, rfl, ?_, fun i hi j u hu => ?_⟩
      · rcases Nat.lt_or_ge b W.heap.size with hlt | hge
        · exact hlt
        · exfalso
          rw [Go.WideShapes.add_plain] at hc0
          simp [World.cell?, Array.getElem?_eq_none hge] at hc0
      · have hi' : i < len := by simpa using hi
        simp only [List.getElem_map, List.getElem_range] at hu
        have := (hq i hi').1 j u hu
        rw [Go.WideShapes.add_plain] at this
        rw [Nat.add_assoc]
        exact this
    · obtain ⟨i, hi, rfl⟩ := List.mem_map.1 hy
      exact (hq i (List.mem_range.1 hi)).2.1
    · obtain ⟨i, hi, rfl⟩ := List.mem_map.1 hy
      refine (hq i (List.mem_range.1 hi)).2.2 (fun m hm => hw m ?_)
      rw [hxe]
      simp only [DataW.weights, Try.underlying36]
      refine List.mem_cons_of_mem _ (List.mem_append.2 (Or.inl ?_))
      have hall : ∀ (L : List (DataW H)) (d : DataW H), d ∈ L → ∀ m ∈ d.weights Try.prog 47, m ∈ DataW.weightsAll Try.prog 47 L := by
        intro L
        induction L with
        | nil => intro d hd; cases hd
        | cons y L ih =>
          intro d hd m hm
          simp only [DataW.weightsAll]
          rcases List.mem_cons.1 hd with rfl | hd
          · exact List.mem_append.2 (Or.inl hm)
          · exact List.mem_append.2 (Or.inr (ih d hd m hm))
      exact hall _ (D i) (List.mem_map.2 ⟨i, hi, rfl⟩) m hm
end
end Go.Proofs.Ytnikkjbjidhhlaa
