/-
  The document's Nodes: what is known lies in a row; a sweep over it.
-/
import Derived.Test.YtjijhefmbmdbeaaGreatDoorD47
namespace Go.Proofs.YtjijhefmbmdbeaaGreatDoor
open Go.RowKit Go.Shelf

/-- The row of what is known, read off a world. -/
def rowW (gk n : Nat) (W : World) : List Bool := (List.range n).map fun i => match W.cell? ⟨gk, i, none⟩ with
  | some (.bool b) => b
  | _ => false
theorem rowW_is {gk : Nat} {kn : List Bool} {W : World} (h : CBox gk (knC kn) 4 W) : rowW gk kn.length W = kn := by
  apply List.ext_getElem
  · unfold rowW; simp
  · intro i h1 h2
    have e : (rowW gk kn.length W)[i]? = some kn[i] := by
      unfold rowW
      rw [List.getElem?_map, List.getElem?_range h2, Option.map_some, h.cell (knC_at h2)]
    rw [List.getElem?_eq_getElem h1] at e
    exact Option.some.inj e
def bOf : Value → Nat
  | .bool true => 1
  | _ => 0
/-- All that lies there while the document's search goes on. -/
structure KnW (w W : World) (pc : Array Value) (g NL c : Nat) (al : List Nd) (gk : Nat) (kn : List Bool) : Prop where
  r : RnS w W pc (.slice (some ⟨g, 0, none⟩) NL c) al
  b : CBox gk (knC kn) 4 W
  ne : g < gk
  lo : w.heap.size < gk
  nl : al.length = NL
  kl : kn.length = NL
theorem KnW.kp {w W W' : World} {pc : Array Value} {g NL c gk : Nat} {al : List Nd} {kn : List Bool} (h : KnW w W pc g NL c al gk kn) (hk : Kp [] W W') : KnW w W' pc g NL c al gk kn :=
  ⟨h.r.kp hk, h.b.kp hk (by simp), h.ne, h.lo, h.nl, h.kl⟩
theorem KnW.set {w W : World} {pc : Array Value} {g NL c gk : Nat} {al : List Nd} {kn : List Bool} (h : KnW w W pc g NL c al gk kn) (i : Nat) (b : Bool) : KnW w (W.setCell ⟨gk, i, none⟩ (.bool b)) pc g NL c al gk (kn.set i b) := by
  have hk := Kp.set W gk i (.bool b)
  refine ⟨⟨h.r.p.kp hk (by simp; have := h.lo; omega), row_kp h.r.r hk (fun q hq hm => ?_), h.r.k.trans hk (fun q hq => Or.inr ?_)⟩, ?_, h.ne, h.lo, h.nl, by rw [List.length_set]; exact h.kl⟩
  · simp [Value.ownBlock] at hq
    simp at hm
    have := h.ne
    omega
  · simp at hq
    have := h.lo
    omega
  · have := h.b.set i (.bool b)
    rwa [knC_set] at this
theorem KnW.kpF {w W W' : World} {pc : Array Value} {g NL c gk : Nat} {al : List Nd} {kn : List Bool} {F : List Nat} (h : KnW w W pc g NL c al gk kn) (hk : Kp F W W') (hF : ∀ q ∈ F, gk + 1 ≤ q) : KnW w W' pc g NL c al gk kn := by
  have h1 := h.ne
  have h2 := h.lo
  refine ⟨⟨h.r.p.kp hk (fun hm => by have := hF _ hm; omega), row_kp h.r.r hk (fun q hq hm => ?_), h.r.k.trans hk (fun q hq => Or.inr (by have := hF _ hq; omega))⟩, h.b.kp hk (fun hm => by have := hF _ hm; omega), h.ne, h.lo, h.nl, h.kl⟩
  simp [Value.ownBlock] at hq
  have := hF _ hm
  omega
theorem KnW.put {w W : World} {pc : Array Value} {g NL c gk : Nat} {al : List Nd} {kn : List Bool} {v : Value} {L : List Nd} (h : KnW w W pc g NL c al gk kn) (ho : OwnsD (gk + 1) W v L) (x : Nd) (hl : L.length ≤ 1000) (ty : TypeId) :
    ∃ g' cap w', (Builtin.append_ #[41, 41] ty #[v, .slice (some ⟨W.heap.size, 0, none⟩) 1 1]).run Tryz.prog (W.alloc (.cells #[.int .i64 x.st, .bool x.lp, .bool x.tk] 26)) = .ok (.slice (some ⟨g', 0, none⟩) (L.length + 1) cap) w' ∧ KnW w w' pc g NL c al gk kn ∧ OwnsD (gk + 1) w' (.slice (some ⟨g', 0, none⟩) (L.length + 1) cap) (L ++ [x]) := by
  have k1 := Kp.alloc W (.cells #[.int .i64 x.st, .bool x.lp, .bool x.tk] 26)
  have h1 := h.kp k1
  have o1 := ho.kp k1
  have hlt : gk < W.heap.size := (Array.getElem?_eq_some_iff.1 h.b).1
  obtain ⟨g', cap, w', hr, ho', hb, hg⟩ := o1.app (by have := k1.size; omega) x (g := W.heap.size) (c := 1) (CBox.new W _ _) (by omega) ty
  have hkp := Kp.of hg
  have hlow : ∀ q ∈ v.ownBlock.toList, gk + 1 ≤ q := fun q hq => (World.ownsRow.lt o1 q (by simpa using hq)).1
  exact ⟨g', cap, w', hr, h1.kpF hkp hlow, ho'⟩
theorem KnW.known {w W : World} {pc : Array Value} {g NL c gk : Nat} {al : List Nd} {kn : List Bool} (h : KnW w W pc g NL c al gk kn) (i : Nat) (hi : i < kn.length) : W.cell? ⟨gk, i, none⟩ = some (.bool kn[i]) := h.b.cell (knC_at hi)
theorem KnW.node {w W : World} {pc : Array Value} {g NL c gk : Nat} {al : List Nd} {kn : List Bool} (h : KnW w W pc g NL c al gk kn) (i : Nat) (hi : i < al.length) : W.cell? ⟨g, i * 3, none⟩ = some (.int .i64 al[i].st) ∧ W.cell? ⟨g, i * 3 + 1, none⟩ = some (.bool al[i].lp) ∧ W.cell? ⟨g, i * 3 + 2, none⟩ = some (.bool al[i].tk) := h.r.r.get i hi
theorem KnW.pat {w W : World} {sv : Value} {wi : Int} {g NL c gk : Nat} {al : List Nd} {kn : List Bool} (h : KnW w W #[sv, .int .i64 wi] g NL c al gk kn) : W.cell? ⟨w.heap.size, 0, none⟩ = some sv ∧ W.cell? ⟨w.heap.size, 1, none⟩ = some (.int .i64 wi) := ⟨h.r.p.cell rfl, h.r.p.cell rfl⟩
theorem KnW.lt {w W : World} {pc : Array Value} {g NL c gk : Nat} {al : List Nd} {kn : List Bool} (h : KnW w W pc g NL c al gk kn) : gk < W.heap.size := (Array.getElem?_eq_some_iff.1 h.b).1
/-- Within a sweep: what was found so far. -/
def SwS (l : List Stg) (al : List Nd) (kn0 kn : List Bool) (gb : Bool) (j : Nat) : Prop :=
  (gb = false → kn = kn0 ∧ ∀ i (h : i < al.length) (h' : i < kn.length), i < j → kn[i] = false → Far l al kn al[i]) ∧ (gb = true → falses kn < falses kn0)
/-- Within a look for one: what was found so far. -/
def IsS (l : List Stg) (al : List Nd) (kn : List Bool) (y : Nd) (b : Bool) (m : Nat) : Prop :=
  (b = true → rch l y = true) ∧ (b = false → y ≠ bgN l y.st.toNat ∧ ∀ i (h : i < al.length) (h' : i < kn.length), i < m → kn[i] = true → ¬ waitsN l al[i] y)
/-- .. and of one that is known, of the first ways of four. -/
def IsH (l : List Stg) (al : List Nd) (kn : List Bool) (y : Nd) (b : Bool) (m : Nat) (x : Nd) (h : Nat) : Prop :=
  (b = true → rch l y = true) ∧ (b = false → IsS l al kn y false m ∧ ∀ j, j < h → ¬ ((psN l x (decide (j / 2 = 1)) (decide (j % 2 = 1))).live = true ∧ psN l x (decide (j / 2 = 1)) (decide (j % 2 = 1)) = y))
theorem IsS.start {l : List Stg} {al : List Nd} {kn : List Bool} {y : Nd} (h : mayN l y = true) : IsS l al kn y (ndE y (bgN l y.st.toNat)) 0 := by
  obtain ⟨h1, _⟩ := may_split h
  obtain ⟨s1, s2⟩ := isS_iff.1 h1
  refine ⟨fun e => ?_, fun e => ⟨fun h => ?_, fun i _ _ hi => by omega⟩⟩
  · rw [ndE_iff] at e
    rw [e]
    exact rch_tk (by omega) (by omega)
  · have := (ndE_iff _ _).2 h
    rw [this] at e
    cases e
theorem IsS.known {l : List Stg} {al : List Nd} {kn : List Bool} {y : Nd} {b : Bool} {m : Nat} (h : IsS l al kn y b m) (x : Nd) : IsH l al kn y b m x 0 := ⟨h.1, fun e => ⟨by rw [e] at h; exact h, fun j hj => by omega⟩⟩
theorem IsS.skip {l : List Stg} {al : List Nd} {kn : List Bool} {y : Nd} {b : Bool} {m : Nat} (h : IsS l al kn y b m) (hm : m < kn.length) (hk : kn[m] = false) : IsS l al kn y b (m + 1) := by
  refine ⟨h.1, fun e => ⟨(h.2 e).1, fun i h1 h2 hi hki => ?_⟩⟩
  by_cases hlt : i < m
  · exact (h.2 e).2 i h1 h2 hlt hki
  · obtain rfl : i = m := by omega
    rw [hk] at hki
    cases hki
theorem IsH.next {l : List Stg} {al : List Nd} {kn : List Bool} {y x : Nd} {b : Bool} {m h : Nat} (H : IsH l al kn y b m x h) (hx : rch l x = true) :
    IsH l al kn y (b || ((psN l x (decide (h / 2 = 1)) (decide (h % 2 = 1))).live && ndE (psN l x (decide (h / 2 = 1)) (decide (h % 2 = 1))) y)) m x (h + 1) := by
  refine ⟨fun e => ?_, fun e => ?_⟩
  · rw [Bool.or_eq_true] at e
    rcases e with e | e
    · exact H.1 e
    · rw [Bool.and_eq_true] at e
      have := rch_ps hx _ _ e.1
      rwa [(ndE_iff _ _).1 e.2] at this
  · rw [Bool.or_eq_false_iff] at e
    obtain ⟨e1, e2⟩ := e
    refine ⟨(H.2 e1).1, fun j hj hw => ?_⟩
    by_cases hlt : j < h
    · exact (H.2 e1).2 j hlt hw
    · obtain rfl : j = h := by omega
      rw [hw.1, (ndE_iff _ _).2 hw.2] at e2
      cases e2
theorem IsH.done {l : List Stg} {al : List Nd} {kn : List Bool} {y : Nd} {b : Bool} {m : Nat} (hm : m < al.length) (H : IsH l al kn y b m al[m] 4) : IsS l al kn y b (m + 1) := by
  refine ⟨H.1, fun e => ⟨((H.2 e).1.2 rfl).1, fun i h1 h2 hi hki => ?_⟩⟩
  by_cases hlt : i < m
  · exact ((H.2 e).1.2 rfl).2 i h1 h2 hlt hki
  · obtain rfl : i = m := by omega
    rintro ⟨lo, ta, g1, g2⟩
    have := (H.2 e).2
    cases lo <;> cases ta
    · exact this 0 (by omega) ⟨g1, g2⟩
    · exact this 1 (by omega) ⟨g1, g2⟩
    · exact this 2 (by omega) ⟨g1, g2⟩
    · exact this 3 (by omega) ⟨g1, g2⟩
theorem IsS.far {l : List Stg} {al : List Nd} {kn : List Bool} {y : Nd} (h : IsS l al kn y false al.length) : Far l al kn y := ⟨(h.2 rfl).1, fun i h1 h2 hk => (h.2 rfl).2 i h1 h2 h1 hk⟩
/-- One that was known already. -/
theorem SwS.skip {l : List Stg} {al : List Nd} {kn0 kn : List Bool} {gb : Bool} {j : Nat} (h : SwS l al kn0 kn gb j) (hj : j < kn.length) (hk : kn[j] = true) : SwS l al kn0 kn gb (j + 1) := by
  refine ⟨fun e => ⟨(h.1 e).1, fun i h1 h2 hi hki => ?_⟩, h.2⟩
  by_cases hlt : i < j
  · exact (h.1 e).2 i h1 h2 hlt hki
  · obtain rfl : i = j := by omega
    rw [hk] at hki
    cases hki
/-- One that was not known, and is so now, or not. -/
theorem SwS.next {l : List Stg} {al : List Nd} {kn0 kn : List Bool} {gb b : Bool} {j : Nat} (h : SwS l al kn0 kn gb j) (hj : j < kn.length) (hl : kn.length = al.length) (hk : kn[j] = false) (hb : b = false → Far l al kn al[j]) : SwS l al kn0 (kn.set j b) (gb || b) (j + 1) := by
  have hle : falses kn ≤ falses kn0 := by
    cases gb with
    | false => rw [(h.1 rfl).1]; exact Nat.le_refl _
    | true => exact Nat.le_of_lt (h.2 rfl)
  cases b with
  | true =>
    refine ⟨fun e => by simp at e, fun _ => ?_⟩
    have := falses_set hj hk
    omega
  | false =>
    rw [set_same hj hk, Bool.or_false]
    refine ⟨fun e => ⟨(h.1 e).1, fun i h1 h2 hi hki => ?_⟩, h.2⟩
    by_cases hlt : i < j
    · exact (h.1 e).2 i h1 h2 hlt hki
    · obtain rfl : i = j := by omega
      exact hb rfl
theorem KnS.next {l : List Stg} {al : List Nd} {kn : List Bool} {b : Bool} {j m : Nat} (h : KnS l al kn) (hj : j < al.length) (H : IsS l al kn al[j] b m) : KnS l al (kn.set j b) := h.set j b (fun e _ => H.1 e)
/-- The first ones of the nodes that are known. -/
def outN (al : List Nd) (kn : List Bool) (k : Nat) : List Nd := (((al.zip kn).take k).filter (·.2)).map (·.1)
theorem outN_next {al : List Nd} {kn : List Bool} {k : Nat} (h1 : k < al.length) (h2 : k < kn.length) : outN al kn (k + 1) = outN al kn k ++ (if kn[k] = true then [al[k]] else []) := by
  unfold outN
  rw [List.take_succ_eq_append_getElem (by rw [List.length_zip]; omega), List.filter_append, List.map_append, List.getElem_zip]
  congr 1
  cases hk : kn[k] with
  | true => simp
  | false => simp
theorem outN_len (al : List Nd) (kn : List Bool) (k : Nat) : (outN al kn k).length ≤ al.length := by
  unfold outN
  rw [List.length_map]
  have h1 := List.length_filter_le (fun x : Nd × Bool => x.2) ((al.zip kn).take k)
  rw [List.length_take, List.length_zip] at h1
  omega
theorem outN_all {al : List Nd} {kn : List Bool} {k : Nat} (h1 : al.length ≤ k) : outN al kn k = ((al.zip kn).filter (·.2)).map (·.1) := by
  unfold outN
  rw [List.take_of_length_le (by rw [List.length_zip]; omega)]
end Go.Proofs.YtjijhefmbmdbeaaGreatDoor
