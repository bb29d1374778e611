/-
  The document's link: rows of texts that are left; how its sender lies; a text put behind, the first one taken off.
  The document's link: rows of texts that came early; how its receiver lies; the one of a number.
  The document's link: rows of texts that came early: one is taken out; what a receiver has on its way.
-/
import Derived.Test.YtiomngpfolkgpaaL05
import Derived.Test.YtiomngpfolkgpaaL11
import Derived.Test.YtiomngpfolkgpaaL18
import Derived.BigQuiet
import Derived.Test.YtiomngpfolkgpaaL14
namespace Go.Proofs.Ytiomngpfolkgpaa
open Go.RowKit Lk

theorem info_ou : (Try.prog.info? 68).map (fun i => (i.zero, i.size, i.bytes)) = some (some (.agg #[.string ⟨#[]⟩, .bool false, .int .i64 0]), 3, 32) := by kernel_rfl
def ouW (x : Pu) : Int := if x.at_ = -1 then 0 else x.at_
/-- A text that is left, as cells. -/
def ouA (x : Pu) : Array Value := #[.string x.b, .bool (x.at_ != -1), .int .i64 (ouW x)]
def ouC (l : List Pu) : List Value := l.flatMap fun p => (ouA p).toList
theorem ouC_cons (x : Pu) (l : List Pu) : ouC (x :: l) = .string x.b :: .bool (x.at_ != -1) :: .int .i64 (ouW x) :: ouC l := rfl
theorem ouC_append (a b : List Pu) : ouC (a ++ b) = ouC a ++ ouC b := by unfold ouC; exact List.flatMap_append ..
theorem ouC_len (l : List Pu) : (ouC l).length = l.length * 3 := by
  induction l with
  | nil => rfl
  | cons e r ih => rw [ouC_cons, List.length_cons, List.length_cons, List.length_cons, ih, List.length_cons]; omega
theorem ouC_one (l : List Pu) : ∀ u ∈ ouC l, u.oneCell' = true := by
  intro u h
  unfold ouC at h
  obtain ⟨p, _, h⟩ := List.mem_flatMap.1 h
  simp [ouA] at h
  rcases h with rfl | rfl | rfl <;> rfl
/-- Where they lie, cell by cell. -/
def OuCs (w : World) (g off : Nat) (l : List Pu) : Prop := ∀ i (h : i < l.length), w.cell? ⟨g, off + i * 3, none⟩ = some (.string (l[i]).b) ∧ w.cell? ⟨g, off + i * 3 + 1, none⟩ = some (.bool ((l[i]).at_ != -1)) ∧ w.cell? ⟨g, off + i * 3 + 2, none⟩ = some (.int .i64 (ouW l[i]))
theorem OuCs.tail {w : World} {g off : Nat} {x : Pu} {l : List Pu} (h : OuCs w g off (x :: l)) : OuCs w g (off + 3) l := fun i hi => by
  have := h (i + 1) (by simpa using hi)
  rw [show off + (i + 1) * 3 = off + 3 + i * 3 by omega] at this
  exact this
theorem OuCs.to {w : World} {g : Nat} : ∀ {l : List Pu} {off : Nat}, OuCs w g off l → ∀ j u, (ouC l)[j]? = some u → w.cell? ⟨g, off + j, none⟩ = some u
  | [], _, _, j, u, e => by cases e
  | x :: l, off, h, j, u, e => by
    obtain ⟨h0, h1, h2⟩ := h 0 (by simp)
    rw [ouC_cons] at e
    match j, e with
    | 0, e => injection e with e; subst e; exact h0
    | 1, e => injection e with e; subst e; exact h1
    | 2, e => injection e with e; subst e; exact h2
    | j + 3, e =>
      have := OuCs.to h.tail j u e
      rw [show off + (j + 3) = off + 3 + j by omega]
      exact this
theorem ouC_at (l : List Pu) (i : Nat) (h : i < l.length) : (ouC l)[i * 3]? = some (.string (l[i]).b) ∧ (ouC l)[i * 3 + 1]? = some (.bool ((l[i]).at_ != -1)) ∧ (ouC l)[i * 3 + 2]? = some (.int .i64 (ouW l[i])) := by
  induction l generalizing i with
  | nil => cases h
  | cons e r ih =>
    rw [ouC_cons]
    cases i with
    | zero => exact ⟨rfl, rfl, rfl⟩
    | succ i =>
      have := ih i (by simpa using h)
      rw [show (i + 1) * 3 = i * 3 + 3 by omega]
      simpa using this
theorem OuCs.of {w : World} {g off : Nat} {l : List Pu} (h : ∀ j u, (ouC l)[j]? = some u → w.cell? ⟨g, off + j, none⟩ = some u) : OuCs w g off l := fun i hi => by
  obtain ⟨a, b, c⟩ := ouC_at l i hi
  have a := h _ _ a
  have b := h _ _ b
  have c := h _ _ c
  rw [← Nat.add_assoc] at b c
  exact ⟨a, b, c⟩
/-- A row of texts that are left: it may begin anywhere in its block. -/
def OuQ (w : World) (v : Value) (l : List Pu) : Prop :=
  (v = .slice none 0 0 ∧ l = []) ∨ ∃ g off cap, v = .slice (some ⟨g, off, none⟩) l.length cap ∧ (∃ cur, CBox g cur 68 w) ∧ l.length ≤ cap ∧ cap ≤ 9223372036854775807 ∧ OuCs w g off l
theorem OuQ.block {w : World} {v : Value} {l : List Pu} (h : OuQ w v l) {k : Nat} (hk : v.ownBlock = some k) : ∃ cur, CBox k cur 68 w := by
  rcases h with ⟨rfl, _⟩ | ⟨g, off, cap, rfl, hb, _⟩
  · cases hk
  · simp [Value.ownBlock] at hk
    subst hk
    exact hb
theorem OuQ.slice {w : World} {v : Value} {l : List Pu} (h : OuQ w v l) : ∃ ad cap, v = .slice ad l.length cap := by
  rcases h with ⟨rfl, rfl⟩ | ⟨g, off, cap, rfl, _⟩
  · exact ⟨_, _, rfl⟩
  · exact ⟨_, _, rfl⟩
theorem OuCs.kp {F : List Nat} {w w' : World} {g off : Nat} {l : List Pu} (h : OuCs w g off l) (hk : Kp F w w') (hF : g ∉ F) : OuCs w' g off l := fun i hi =>
  ⟨hk.cell (h i hi).1 hF, hk.cell (h i hi).2.1 hF, hk.cell (h i hi).2.2 hF⟩
theorem OuQ.kp {F : List Nat} {w w' : World} {v : Value} {l : List Pu} (h : OuQ w v l) (hk : Kp F w w') (hF : ∀ k, v.ownBlock = some k → k ∉ F) : OuQ w' v l := by
  rcases h with h | ⟨g, off, cap, rfl, ⟨cur, hb⟩, h1, h2, h3⟩
  · exact Or.inl h
  · have hg : g ∉ F := hF g rfl
    exact Or.inr ⟨g, off, cap, rfl, ⟨cur, hb.kp hk hg⟩, h1, h2, h3.kp hk hg⟩
/-- The document's sender. -/
def rsC (s : Snd) (v : Value) : Array Value := #[.int .i64 s.ep, .int .i64 (s.wd : Int), .int .i64 s.pt, v, .int .i64 (s.first : Int), .int .i64 s.now]
structure RsV (w : World) (b : Nat) (v : Value) (s : Snd) : Prop where
  box : CBox b (rsC s v) 52 w
  row : OuQ w v s.left
def RsAt (B : Nat) (w : World) (b : Nat) (s : Snd) : Prop := ∃ v, RsV w b v s ∧ B ≤ b ∧ ∀ k, v.ownBlock = some k → B ≤ k
/-- The objects of the document's senders. -/
def rsO : Obj → Bool
  | .cells _ t _ => t == 52 || t == 68
  | _ => false
theorem box_ne {b b' : Nat} {cs cs' : Array Value} {t t' : TypeId} {w : World} (h : CBox b cs t w) (h' : CBox b' cs' t' w) (ht : t ≠ t') : b ≠ b' := by
  rintro rfl
  unfold CBox at h h'
  rw [h] at h'
  injection h' with e
  injection e with _ e
  exact ht e
theorem RsV.ne {w : World} {b : Nat} {v : Value} {s : Snd} (h : RsV w b v s) {k : Nat} (hk : v.ownBlock = some k) : k ≠ b := by
  obtain ⟨cur, hc⟩ := h.row.block hk
  exact box_ne hc h.box (by decide)
theorem CBox.kept {P : Obj → Bool} {B' g : Nat} {cs : Array Value} {t : TypeId} {w w' : World} (h : CBox g cs t w) (hk : Ko P B' w w') (hP : B' = w.heap.size ∨ P (.cells cs t (0, 0)) = false) : CBox g cs t w' := by
  refine hk.block g _ h ?_
  rcases hP with rfl | hP
  · exact Or.inl (Array.getElem?_eq_some_iff.1 h).1
  · exact Or.inr hP
theorem CBox.cells {g : Nat} {cs : Array Value} {t : TypeId} {w : World} (h : CBox g cs t w) (i : Nat) : w.cell? ⟨g, i, none⟩ = cs[i]? := by
  unfold CBox at h
  simp [World.cell?, h]
theorem OuQ.kept {P : Obj → Bool} {B' : Nat} {w w' : World} {v : Value} {l : List Pu} (h : OuQ w v l) (hk : Ko P B' w w') (hP : B' = w.heap.size ∨ ∀ o, rsO o = true → P o = false) : OuQ w' v l := by
  rcases h with h | ⟨g, off, cap, rfl, ⟨cur, hb⟩, h1, h2, h3⟩
  · exact Or.inl h
  · have hb' := hb.kept hk (hP.imp id (fun h => h _ rfl))
    refine Or.inr ⟨g, off, cap, rfl, ⟨cur, hb'⟩, h1, h2, fun i hi => ?_⟩
    have := h3 i hi
    rw [hb.cells, hb.cells, hb.cells] at this
    rw [hb'.cells, hb'.cells, hb'.cells]
    exact this
theorem RsAt.ko {P : Obj → Bool} {B B' : Nat} {w w' : World} {b : Nat} {s : Snd} (h : RsAt B w b s) (hk : Ko P B' w w') (hP : B' = w.heap.size ∨ ∀ o, rsO o = true → P o = false) : RsAt B w' b s := by
  obtain ⟨v, h1, h2, h3⟩ := h
  exact ⟨v, ⟨h1.box.kept hk (hP.imp id (fun h => h _ rfl)), h1.row.kept hk hP⟩, h2, h3⟩
theorem RsAt.kp {B : Nat} {w w' : World} {b : Nat} {s : Snd} (h : RsAt B w b s) (hk : Kp [] w w') : RsAt B w' b s :=
  h.ko (P := fun _ => false) (B' := w.heap.size) (Ko.nil hk) (Or.inl rfl)
theorem rs_same {B b : Nat} {w w' : World} {s : Snd} (h : RsAt B w b s) (hk : Kp [] w w') : RsAt B w' b s ∧ Ko rsO B w w' := ⟨h.kp hk, Ko.nil hk⟩
/-- A step of the document's sender: its box and its row alone change. -/
theorem rs_step {B b : Nat} {w w' : World} {v v' : Value} {s s' : Snd} (h : RsV w b v s) (hB : B ≤ b) (hv : ∀ k, v.ownBlock = some k → B ≤ k) (hk : Kp (b :: v.ownBlock.toList) w w') (hb : CBox b (rsC s' v') 52 w') (hr : OuQ w' v' s'.left) (hv' : ∀ k, v'.ownBlock = some k → v.ownBlock = some k ∨ w.heap.size ≤ k) (hBw : B ≤ w.heap.size) : RsAt B w' b s' ∧ Ko rsO B w w' := by
  refine ⟨⟨v', ⟨hb, hr⟩, hB, fun k hk1 => ?_⟩, Ko.of hk (fun k hm hlt => ?_)⟩
  · rcases hv' k hk1 with h1 | h1
    · exact hv k h1
    · omega
  · rcases List.mem_cons.1 hm with rfl | hm
    · exact ⟨hB, _, h.box, rfl⟩
    · have hk1 : v.ownBlock = some k := by simpa using hm
      obtain ⟨cur, hc⟩ := h.row.block hk1
      exact ⟨hv k hk1, _, hc, rfl⟩
set_option maxRecDepth 100000 in
/-- A row of which nothing is shared: put together anew, with a text behind. -/
theorem ou_push {w : World} {v : Value} {l : List Pu} (h : OuQ w v l) (hl : l.length ≤ 100000) (t : ByteArray) (ty ty' : TypeId) :
    ∃ g3 cap3 W3, (Builtin.append_ #[50, 50] ty #[.slice (some ⟨w.heap.size, 0, none⟩) 0 0, v]).run Try.prog (w.alloc (.cells #[] 68)) = .ok (.slice (some ⟨g3, 0, none⟩) l.length cap3) W3 ∧
    ∃ g5 cap5 W5, (Builtin.append_ #[50, 50] ty' #[.slice (some ⟨g3, 0, none⟩) l.length cap3, .slice (some ⟨W3.heap.size, 0, none⟩) 1 1]).run Try.prog (W3.alloc (.cells #[.string t, .bool false, .int .i64 0] 68)) = .ok (.slice (some ⟨g5, 0, none⟩) (l.length + 1) cap5) W5 ∧
    OuQ W5 (.slice (some ⟨g5, 0, none⟩) (l.length + 1) cap5) (l ++ [⟨t, -1⟩]) ∧ Kp [] w W5 ∧ w.heap.size ≤ g5 := by
  obtain ⟨i0, hi, hz0, hz1, hz2⟩ := info_parts info_ou
  have k2 := Kp.alloc w (.cells #[] 68)
  have h2 := h.kp k2 (by simp)
  have r2 : (w.alloc (.cells #[] 68)).ownsRow 0 68 3 (.slice (some ⟨w.heap.size, 0, none⟩) 0 0) 0 [] :=
    ⟨rfl, Or.inr ⟨w.heap.size, 0, #[], rfl, Nat.zero_le _, heap_alloc_new w _, Nat.le_refl _, Nat.zero_le _, rfl, rfl⟩⟩
  obtain ⟨ad, cp, rfl⟩ := h.slice
  have hnone : ad = none → l.length = 0 ∧ cp = 0 := fun e => by
    rcases h with ⟨e1, e2⟩ | ⟨g, off, cap, e1, _⟩
    · injection e1 with _ _ e3; exact ⟨by rw [e2]; rfl, e3⟩
    · injection e1 with e2; rw [e] at e2; cases e2
  have hsp : ∀ a, ad = some a → a.spot = none := fun a e => by
    rcases h with ⟨e1, _⟩ | ⟨g, off, cap, e1, _⟩
    · injection e1 with e2; rw [e] at e2; cases e2
    · injection e1 with e2; rw [e] at e2; injection e2 with e2; rw [e2]
  have hc : ∀ a, ad = some a → ∀ j u, (ouC l)[j]? = some u → (w.alloc (.cells #[] 68)).cell? (a.add j) = some u := fun a e j u hj => by
    rcases h2 with ⟨e1, _⟩ | ⟨g, off, cap, e1, _, _, _, hcs⟩
    · injection e1 with e2; rw [e] at e2; cases e2
    · injection e1 with e2; rw [e] at e2; injection e2 with e2; rw [e2, Go.WideShapes.add_plain]; exact hcs.to j u hj
  obtain ⟨g3, cap3, W3, run3, r3, gr3, at3⟩ := run_app_any (P := Try.prog) 50 ty 68 i0 _ 3 32 Try.underlying50 hi hz0 hz1 hz2 rfl (by decide) r2 ad l.length cp (ouC l) (ouC_len l) hnone hsp hc (ouC_one l) (by unfold maxLen; omega) (by omega)
  simp only [List.nil_append, Nat.zero_add] at run3 r3
  refine ⟨g3, cap3, W3, run3, ?_⟩
  have k3 : Kp [] w W3 := k2.trans (Kp.of gr3) (by simp)
  have k4 := Kp.alloc W3 (.cells #[.string t, .bool false, .int .i64 0] 68)
  have nb := CBox.new W3 #[.string t, .bool false, .int .i64 0] 68
  have hg3 : w.heap.size ≤ g3 := by
    rcases at3 with e | e
    · omega
    · rw [e, World.size_alloc]; omega
  have r4 : (W3.alloc (.cells #[.string t, .bool false, .int .i64 0] 68)).ownsRow 0 68 3 (.slice (some ⟨g3, 0, none⟩) l.length cap3) l.length (ouC l) := World.ownsRow.alloc r3 _
  obtain ⟨g5, cap5, W5, run5, r5, gr5, at5⟩ := run_app_any (P := Try.prog) 50 ty' 68 i0 _ 3 32 Try.underlying50 hi hz0 hz1 hz2 rfl (by decide) r4 (some ⟨W3.heap.size, 0, none⟩) 1 1 (ouC [⟨t, -1⟩]) rfl (fun e => by cases e) (fun a e => by injection e with e; subst e; rfl) (fun a e j u hj => by
    injection e with e
    subst e
    rw [Go.WideShapes.add_plain, Nat.zero_add]
    exact nb.cell (by
      have : (ouC [⟨t, -1⟩])[j]? = (#[Value.string t, .bool false, .int .i64 0] : Array Value)[j]? := by
        rw [← Array.getElem?_toList]
        rfl
      rw [← this]
      exact hj)) (ouC_one _) (by unfold maxLen; omega) (by omega)
  refine ⟨g5, cap5, W5, run5, ?_, (k3.trans k4 (by simp)).trans (Kp.of gr5) (by simp; omega), ?_⟩
  · rw [← ouC_append] at r5
    obtain ⟨_, ⟨e, _⟩ | ⟨g', cap', cur, e, _, hh, hn, hm, _⟩⟩ := id r5
    · cases e
    · injection e with e1 e2 e3
      injection e1 with e1
      injection e1 with e1
      subst e1 e3
      refine Or.inr ⟨g5, 0, cap5, by rw [List.length_append]; rfl, ⟨cur, hh⟩, by rw [List.length_append]; exact hn, by unfold maxLen at hm; omega, OuCs.of (fun j u hj => ?_)⟩
      have := World.ownsRow.cells r5 (g := g5) rfl j u hj
      rw [Go.WideShapes.add_plain] at this
      exact this
  · rcases at5 with e | e
    · omega
    · rw [e, World.size_alloc]; have := k3.size; omega
end Go.Proofs.Ytiomngpfolkgpaa
namespace Go.Proofs.Ytiomngpfolkgpaa
open Go.RowKit Lk

theorem info_er : (Try.prog.info? 87).map (fun i => (i.zero, i.size, i.bytes)) = some (some (.agg #[.int .i64 0, .string ⟨#[]⟩]), 2, 24) := by kernel_rfl
def erA (x : Nat × ByteArray) : Array Value := #[.int .i64 (x.1 : Int), .string x.2]
def erC (l : List (Nat × ByteArray)) : List Value := l.flatMap fun p => (erA p).toList
theorem erC_append (a b : List (Nat × ByteArray)) : erC (a ++ b) = erC a ++ erC b := by unfold erC; exact List.flatMap_append ..
theorem erC_one (p : Nat × ByteArray) : erC [p] = [.int .i64 (p.1 : Int), .string p.2] := rfl
theorem erC_cons (p : Nat × ByteArray) (l : List (Nat × ByteArray)) : erC (p :: l) = .int .i64 (p.1 : Int) :: .string p.2 :: erC l := rfl
theorem erC_len (l : List (Nat × ByteArray)) : (erC l).length = l.length * 2 := by
  induction l with
  | nil => rfl
  | cons e r ih => rw [erC_cons, List.length_cons, List.length_cons, ih, List.length_cons]; omega
theorem erC_cell (l : List (Nat × ByteArray)) (u : Value) (h : u ∈ erC l) : u.oneCell' = true := by
  unfold erC at h
  obtain ⟨p, _, h⟩ := List.mem_flatMap.1 h
  simp [erA] at h
  rcases h with rfl | rfl <;> rfl
theorem erC_at (l : List (Nat × ByteArray)) (i : Nat) (h : i < l.length) : (erC l)[i * 2]? = some (.int .i64 ((l[i]).1 : Int)) ∧ (erC l)[i * 2 + 1]? = some (.string (l[i]).2) := by
  induction l generalizing i with
  | nil => cases h
  | cons e r ih =>
    rw [erC_cons]
    cases i with
    | zero => exact ⟨rfl, rfl⟩
    | succ i =>
      have := ih i (by simpa using h)
      rw [show (i + 1) * 2 = i * 2 + 2 by omega]
      simpa using this
/-- A row of texts that came early, of one's own. -/
def ErRow (w : World) (v : Value) (l : List (Nat × ByteArray)) : Prop := w.ownsRow 0 87 2 v l.length (erC l)
theorem ErRow.nil (w : World) : ErRow w (.slice none 0 0) [] := World.ownsRow_nil _ _ _ _
theorem ErRow.form {w : World} {v : Value} {l : List (Nat × ByteArray)} (h : ErRow w v l) : (v = .slice none 0 0 ∧ l = []) ∨ ∃ g cap, v = .slice (some ⟨g, 0, none⟩) l.length cap ∧ l.length ≤ cap ∧ cap ≤ 9223372036854775807 := by
  obtain ⟨_, ⟨rfl, h0⟩ | ⟨g, cp, cur, rfl, _, _, hn, hm, _⟩⟩ := h
  · exact Or.inl ⟨rfl, List.eq_nil_of_length_eq_zero h0⟩
  · exact Or.inr ⟨g, cp, rfl, hn, by unfold maxLen at hm; omega⟩
theorem ErRow.slice {w : World} {v : Value} {l : List (Nat × ByteArray)} (h : ErRow w v l) : ∃ ad cap, v = .slice ad l.length cap := by
  rcases h.form with ⟨rfl, rfl⟩ | ⟨g, cap, rfl, _⟩
  · exact ⟨_, _, rfl⟩
  · exact ⟨_, _, rfl⟩
theorem ErRow.block {w : World} {v : Value} {l : List (Nat × ByteArray)} (h : ErRow w v l) {k : Nat} (hk : v.ownBlock = some k) : ∃ cur, CBox k cur 87 w := by
  obtain ⟨_, ⟨rfl, h0⟩ | ⟨g, cp, cur, rfl, _, hh, _⟩⟩ := h
  · cases hk
  · simp [Value.ownBlock] at hk
    subst hk
    exact ⟨cur, hh⟩
theorem ErRow.kp {F : List Nat} {w w' : World} {v : Value} {l : List (Nat × ByteArray)} (h : ErRow w v l) (hk : Kp F w w') (hF : ∀ k, v.ownBlock = some k → k ∉ F) : ErRow w' v l := by
  obtain ⟨h1, h2 | ⟨g, cp, cur, rfl, hb, hh, r⟩⟩ := h
  · exact ⟨h1, Or.inl h2⟩
  · exact ⟨h1, Or.inr ⟨g, cp, cur, rfl, hb, (hk.block g (Array.getElem?_eq_some_iff.1 hh).1 (hF g rfl)).trans hh, r⟩⟩
theorem ErRow.cell {w : World} {g n cap : Nat} {l : List (Nat × ByteArray)} (h : ErRow w (.slice (some ⟨g, 0, none⟩) n cap) l) (i : Nat) (hi : i < l.length) : w.cell? ⟨g, i * 2, none⟩ = some (.int .i64 ((l[i]).1 : Int)) ∧ w.cell? ⟨g, i * 2 + 1, none⟩ = some (.string (l[i]).2) := by
  have k := World.ownsRow.cells h (g := g) rfl
  obtain ⟨a, b⟩ := erC_at l i hi
  have ka := k _ _ a
  have kb := k _ _ b
  rw [Go.WideShapes.add_plain, Nat.zero_add] at ka kb
  exact ⟨ka, kb⟩
theorem ErRow.emp (w : World) : (w.alloc (.cells #[] 87)).ownsRow 0 87 2 (.slice (some ⟨w.heap.size, 0, none⟩) 0 0) 0 [] :=
  ⟨rfl, Or.inr ⟨w.heap.size, 0, #[], rfl, Nat.zero_le _, heap_alloc_new w _, Nat.le_refl _, Nat.zero_le _, rfl, rfl⟩⟩
/-- The document's receiver. -/
def rrC (r : Rcv) (v : Value) : Array Value := #[.int .i64 r.ep, .int .i64 (r.wd : Int), .int .i64 (r.next : Int), v]
structure RrV (w : World) (b : Nat) (v : Value) (r : Rcv) : Prop where
  box : CBox b (rrC r v) 55 w
  row : ErRow w v r.early
def RrAt (B : Nat) (w : World) (b : Nat) (r : Rcv) : Prop := ∃ v, RrV w b v r ∧ B ≤ b ∧ ∀ k, v.ownBlock = some k → B ≤ k
def rrO : Obj → Bool
  | .cells _ t _ => t == 55 || t == 87
  | _ => false
theorem RrV.ne {w : World} {b : Nat} {v : Value} {r : Rcv} (h : RrV w b v r) {k : Nat} (hk : v.ownBlock = some k) : k ≠ b := by
  obtain ⟨cur, hc⟩ := h.row.block hk
  exact box_ne hc h.box (by decide)
theorem RrV.kp {w w' : World} {b : Nat} {v : Value} {r : Rcv} (h : RrV w b v r) (hk : Kp [] w w') : RrV w' b v r := ⟨h.box.kp hk (by simp), h.row.kp hk (by simp)⟩
theorem RrAt.ko {P : Obj → Bool} {B B' : Nat} {w w' : World} {b : Nat} {r : Rcv} (h : RrAt B w b r) (hk : Ko P B' w w') (hP : B' = w.heap.size ∨ ∀ o, rrO o = true → P o = false) : RrAt B w' b r := by
  obtain ⟨v, h1, h2, h3⟩ := h
  refine ⟨v, ⟨h1.box.kept hk (hP.imp id (fun h => h _ rfl)), ?_⟩, h2, h3⟩
  obtain ⟨g1, g2 | ⟨g, cp, cur, e, hb, hh, q⟩⟩ := h1.row
  · exact ⟨g1, Or.inl g2⟩
  · exact ⟨g1, Or.inr ⟨g, cp, cur, e, hb, CBox.kept (show CBox g cur _ w from hh) hk (hP.imp id (fun h => h _ rfl)), q⟩⟩
theorem RrAt.kp {B : Nat} {w w' : World} {b : Nat} {r : Rcv} (h : RrAt B w b r) (hk : Kp [] w w') : RrAt B w' b r :=
  h.ko (P := fun _ => false) (B' := w.heap.size) (Ko.nil hk) (Or.inl rfl)
theorem rr_same {B b : Nat} {w w' : World} {r : Rcv} (h : RrAt B w b r) (hk : Kp [] w w') : RrAt B w' b r ∧ Ko rrO B w w' := ⟨h.kp hk, Ko.nil hk⟩
theorem rr_step {B b : Nat} {w w' : World} {v v' : Value} {r r' : Rcv} (h : RrV w b v r) (hB : B ≤ b) (hk : Kp [b] w w') (hb : RrV w' b v' r') (hv' : ∀ k, v'.ownBlock = some k → B ≤ k) : RrAt B w' b r' ∧ Ko rrO B w w' := by
  refine ⟨⟨v', hb, hB, hv'⟩, Ko.of hk (fun k hm _ => ?_)⟩
  rw [List.mem_singleton] at hm
  subst hm
  exact ⟨hB, _, h.box, rfl⟩
set_option maxHeartbeats 2000000 in
set_option maxRecDepth 100000 in
theorem rfind_none (b : Nat) (v : Value) (r : Rcv) (n : Nat) (w : World) (h : RrV w b v r) (hf : erl r.early n = none) (hl : r.early.length ≤ 100000) :
    Calls Try.prog 34 #[.pointer (some ⟨b, 0, none⟩), .int .i64 (n : Int)] w fun e w' => e = .returned (.int .i64 (-1)) ∧ w' = w := by
  obtain ⟨ad, cap, rfl⟩ := h.row.slice
  have c3 : w.cell? ⟨b, 3, none⟩ = some (.slice ad r.early.length cap) := h.box.cell (i := 3) rfl
  have HX : Hid (∀ k, k < r.early.length → ∃ g, ∃ N : Nat, ad = some ⟨g, 0, none⟩ ∧ w.cell? ⟨g, k * 2, none⟩ = some (.int .i64 (N : Int)) ∧ (N : Int) ≠ (n : Int)) := hide (fun k hk => by
    rcases h.row.form with ⟨_, e⟩ | ⟨g, c, e, _⟩
    · rw [e] at hk; cases hk
    · injection e with e1
      subst e1
      have := erl_none hf r.early[k] (List.getElem_mem hk)
      exact ⟨g, _, rfl, (h.row.cell k hk).1, by omega⟩)
  clear h hf
  generalize hL : r.early.length = L at *
  go_enter Try.func34, Try.ntmps34
  go_wp2_with fail
  go_loopw [5] (fun iv wr => ∃ k : Nat, k ≤ L ∧ iv = .int .i64 (k : Int) ∧ wr = w) (fun iv _ => L - (intOf iv).toNat)
  case atStart => exact ⟨0, Nat.zero_le _, rfl, rfl⟩
  case round =>
    obtain ⟨k, hk, rfl, hwr⟩ := hrel
    obtain rfl := hwr.symm
    by_cases hlt : k < L
    · have hlti : (k : Int) < (L : Int) := by omega
      obtain ⟨g, N, rfl, x0, x1⟩ := unhide HX k (by omega)
      clear HX
      go_wp2
      go_roundw
      case rel => exact ⟨k + 1, by omega, by go_num, by first | trivial | rfl⟩
      case measure => simp [intOf]; omega
    · obtain rfl : k = L := by omega
      have hlti : ¬ (k : Int) < (k : Int) := by omega
      clear HX
      go_wp2
      go_ret
      exact ⟨rfl, rfl⟩
set_option maxHeartbeats 2000000 in
set_option maxRecDepth 100000 in
theorem rfind_some (b : Nat) (v : Value) (r : Rcv) (n : Nat) (w : World) (h : RrV w b v r) (i : Nat) (hi : i < r.early.length) (hn : (r.early[i]).1 = n) (hbef : ∀ j (hj : j < r.early.length), j < i → (r.early[j]).1 ≠ n) (hl : r.early.length ≤ 100000) :
    Calls Try.prog 34 #[.pointer (some ⟨b, 0, none⟩), .int .i64 (n : Int)] w fun e w' => e = .returned (.int .i64 (i : Int)) ∧ w' = w := by
  obtain ⟨ad, cap, rfl⟩ := h.row.slice
  have c3 : w.cell? ⟨b, 3, none⟩ = some (.slice ad r.early.length cap) := h.box.cell (i := 3) rfl
  have HX : Hid (∀ k, k < r.early.length → ∃ g, ∃ N : Nat, ad = some ⟨g, 0, none⟩ ∧ w.cell? ⟨g, k * 2, none⟩ = some (.int .i64 (N : Int)) ∧ (k < i → (N : Int) ≠ (n : Int)) ∧ (k = i → N = n)) := hide (fun k hk => by
    rcases h.row.form with ⟨_, e⟩ | ⟨g, c, e, _⟩
    · rw [e] at hk; cases hk
    · injection e with e1
      subst e1
      exact ⟨g, _, rfl, (h.row.cell k hk).1, fun hki => by have := hbef k hk hki; omega, fun e => by subst e; exact hn⟩)
  clear h hbef hn
  generalize r.early.length = L at *
  go_enter Try.func34, Try.ntmps34
  go_wp2_with fail
  go_loopw [5] (fun iv wr => ∃ k : Nat, k ≤ i ∧ iv = .int .i64 (k : Int) ∧ wr = w) (fun iv _ => i - (intOf iv).toNat)
  case atStart => exact ⟨0, Nat.zero_le _, rfl, rfl⟩
  case round =>
    obtain ⟨k, hk, rfl, hwr⟩ := hrel
    obtain rfl := hwr.symm
    have hlti : (k : Int) < (L : Int) := by omega
    obtain ⟨g, N, rfl, x0, xa, xb⟩ := unhide HX k (by omega)
    by_cases hlt : k < i
    · have x1 := xa hlt
      clear HX xa xb
      go_wp2
      go_roundw
      case rel => exact ⟨k + 1, by omega, by go_num, by first | trivial | rfl⟩
      case measure => simp [intOf]; omega
    · obtain rfl : k = i := by omega
      obtain rfl := xb rfl
      clear HX xa xb
      go_wp2
      go_ret
      exact ⟨rfl, rfl⟩
end Go.Proofs.Ytiomngpfolkgpaa
namespace Go.Proofs.Ytiomngpfolkgpaa
open Go.RowKit Lk

set_option maxRecDepth 100000 in
/-- One is taken out: put together anew. -/
theorem er_cut {V : World} {g n cap : Nat} {l : List (Nat × ByteArray)} (h : ErRow V (.slice (some ⟨g, 0, none⟩) n cap) l) (hn : n = l.length) (k : Nat) (hk : k < l.length) (hcap : n ≤ cap) (hl : l.length ≤ 100000) (ty ty' : TypeId) :
    ∃ g1 c1 X1, (Builtin.append_ #[53, 53] ty #[.slice (some ⟨V.heap.size, 0, none⟩) 0 0, .slice (some ⟨g, 0, none⟩) k cap]).run Try.prog (V.alloc (.cells #[] 87)) = .ok (.slice (some ⟨g1, 0, none⟩) k c1) X1 ∧ Kp [] V X1 ∧
    ∃ g2 c2 X2, (Builtin.append_ #[53, 53] ty' #[.slice (some ⟨g1, 0, none⟩) k c1, .slice (if cap = k + 1 then some ⟨g, 0, none⟩ else some ⟨g, (k + 1) * 2, none⟩) (n - (k + 1)) (cap - (k + 1))]).run Try.prog X1 = .ok (.slice (some ⟨g2, 0, none⟩) (l.take k ++ l.drop (k + 1)).length c2) X2 ∧
    ErRow X2 (.slice (some ⟨g2, 0, none⟩) (l.take k ++ l.drop (k + 1)).length c2) (l.take k ++ l.drop (k + 1)) ∧ Kp [] V X2 ∧ V.heap.size ≤ g2 := by
  obtain ⟨i0, hi, hz0, hz1, hz2⟩ := info_parts info_er
  have k2 := Kp.alloc V (.cells #[] 87)
  have h2 := h.kp k2 (by simp)
  have htl : (l.take k).length = k := by rw [List.length_take]; omega
  have hdl : (l.drop (k + 1)).length = n - (k + 1) := by rw [List.length_drop, hn]
  have hsplit : erC l = erC (l.take k) ++ (erC [l[k]] ++ erC (l.drop (k + 1))) := by
    rw [← erC_append, ← erC_append]
    congr 1
    rw [List.singleton_append, ← List.drop_eq_getElem_cons hk, List.take_append_drop]
  have hcs : ∀ j u, (erC l)[j]? = some u → (V.alloc (.cells #[] 87)).cell? ⟨g, j, none⟩ = some u := fun j u hj => by
    have := World.ownsRow.cells h2 (g := g) rfl j u hj
    rwa [Go.WideShapes.add_plain, Nat.zero_add] at this
  obtain ⟨g1, c1, X1, run1, r1, gr1, at1⟩ := run_app_any (P := Try.prog) 53 ty 87 i0 _ 2 24 Try.underlying53 hi hz0 hz1 hz2 rfl (by decide) (ErRow.emp V) (some ⟨g, 0, none⟩) k cap (erC (l.take k)) (by rw [erC_len, htl]) (fun e => by cases e) (fun a e => by injection e with e; subst e; rfl) (fun a e j u hj => by
    injection e with e
    subst e
    rw [Go.WideShapes.add_plain, Nat.zero_add]
    refine hcs j u ?_
    rw [hsplit, List.getElem?_append_left (List.getElem?_eq_some_iff.1 hj).1]
    exact hj) (erC_cell _) (by unfold maxLen; omega) (by omega)
  simp only [List.nil_append, Nat.zero_add] at run1 r1
  have k1 : Kp [] V X1 := k2.trans (Kp.of gr1) (by simp)
  have hg1 : V.heap.size ≤ g1 := by
    rcases at1 with e | e
    · omega
    · rw [e, World.size_alloc]; omega
  refine ⟨g1, c1, X1, run1, k1, ?_⟩
  have h3 := h.kp k1 (by simp)
  have hcs3 : ∀ j u, (erC l)[j]? = some u → X1.cell? ⟨g, j, none⟩ = some u := fun j u hj => by
    have := World.ownsRow.cells h3 (g := g) rfl j u hj
    rwa [Go.WideShapes.add_plain, Nat.zero_add] at this
  obtain ⟨g2, c2, X2, run2, r2, gr2, at2⟩ := run_app_any (P := Try.prog) 53 ty' 87 i0 _ 2 24 Try.underlying53 hi hz0 hz1 hz2 rfl (by decide) r1 (if cap = k + 1 then some ⟨g, 0, none⟩ else some ⟨g, (k + 1) * 2, none⟩) (n - (k + 1)) (cap - (k + 1)) (erC (l.drop (k + 1))) (by rw [erC_len, hdl]) (fun e => by split at e <;> cases e) (fun a e => by split at e <;> (injection e with e; subst e; rfl)) (fun a e j u hj => by
    have hjl := (List.getElem?_eq_some_iff.1 hj).1
    rw [erC_len, hdl] at hjl
    rw [if_neg (by omega)] at e
    injection e with e
    subst e
    rw [Go.WideShapes.add_plain]
    refine hcs3 _ u ?_
    rw [hsplit, List.getElem?_append_right (by rw [erC_len, htl]; omega), List.getElem?_append_right (by rw [erC_len, erC_len, htl]; simp; omega)]
    rw [erC_len, erC_len, htl, List.length_singleton, show (k + 1) * 2 + j - k * 2 - 1 * 2 = j by omega]
    exact hj) (erC_cell _) (by unfold maxLen; omega) (by omega)
  have hlen : (l.take k ++ l.drop (k + 1)).length = k + (n - (k + 1)) := by rw [List.length_append, htl, hdl]
  rw [← erC_append] at r2
  refine ⟨g2, c2, X2, by rw [hlen]; exact run2, by unfold ErRow; rw [hlen]; exact r2, k1.trans (Kp.of gr2) (by simp; omega), ?_⟩
  rcases at2 with e | e
  · omega
  · rw [e]; have := k1.size; omega
/-- A receiver on its way, with what it has told. -/
structure TkG (w : World) (B b : Nat) (r1 rc : Rcv) (O : List ByteArray) (ov : Value) (W : World) : Prop where
  rr : ∃ v, RrV W b v rc ∧ ∀ k, v.ownBlock = some k → B ≤ k
  tx : TxO w.heap.size W ov O
  kp : Kp [b] w W
  ok : ROk rc
  ep : rc.ep = r1.ep
  lr : lgR r1 = lgR rc
  lo : lgO r1 = O ++ lgO rc
  ln : O.length + rc.early.length ≤ r1.early.length
theorem TkG.al {w W W' : World} {B b : Nat} {r1 rc : Rcv} {O : List ByteArray} {ov : Value} (h : TkG w B b r1 rc O ov W) (hk : Kp [] W W') : TkG w B b r1 rc O ov W' := by
  obtain ⟨v, h1, h2⟩ := h.rr
  exact ⟨⟨v, h1.kp hk, h2⟩, h.tx.kp hk (by simp), h.kp.trans hk (by simp), h.ok, h.ep, h.lr, h.lo, h.ln⟩
/-- Where the next one is. -/
def FdV (rc : Rcv) (iv : Int) : Prop := (erl rc.early rc.next = none ∧ iv = -1) ∨ ∃ i, ∃ hi : i < rc.early.length, ∃ x, erl rc.early rc.next = some x ∧ rc.early[i] = (rc.next, x) ∧ iv = (i : Int) ∧ (∀ j (hj : j < rc.early.length), j < i → (rc.early[j]).1 ≠ rc.next)
theorem fdV_any (rc : Rcv) : ∃ iv, FdV rc iv := by
  cases h : erl rc.early rc.next with
  | none => exact ⟨-1, Or.inl ⟨h, rfl⟩⟩
  | some x =>
    obtain ⟨i, hi, h1, h2⟩ := erl_at h
    exact ⟨i, Or.inr ⟨i, hi, x, h, h1, rfl, h2⟩⟩
theorem rfind_any (b : Nat) (v : Value) (rc : Rcv) (iv : Int) (w : World) (h : RrV w b v rc) (hf : FdV rc iv) (hok : ROk rc) :
    Calls Try.prog 34 #[.pointer (some ⟨b, 0, none⟩), .int .i64 (rc.next : Int)] w fun e w' => e = .returned (.int .i64 iv) ∧ w' = w := by
  have := hok.few
  rcases hf with ⟨h1, rfl⟩ | ⟨i, hi, x, _, h1, rfl, h2⟩
  · exact rfind_none b v rc rc.next w h h1 (by omega)
  · exact rfind_some b v rc rc.next w h i hi (by rw [h1]) h2 (by omega)
end Go.Proofs.Ytiomngpfolkgpaa
