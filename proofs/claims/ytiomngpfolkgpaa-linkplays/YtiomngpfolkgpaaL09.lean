/-
  Links: rows of texts that were pushed; how senders and receivers lie; their leaves.
  What a row of items of the call's own reads as.
  Two faults held against one another.
  A pair of results of which the first lies in cells. Of no program.
-/
import Derived.Test.YtiomngpfolkgpaaL08
import Derived.Deep.RegionHeld3
import Derived.Test.YtiomngpfolkgpaaL04
import Derived.Test.YtiomngpfolkgpaaChecked
import Derived.WalkKit
import Derived.WalkLawsBesides
import Derived.Test.YtiomngpfolkgpaaL07
import Derived.Laws.ResultCell
namespace Go.Proofs.Ytiomngpfolkgpaa
open Go.RowKit Lk

theorem info_pu : (Try.prog.info? 66).map (fun i => (i.zero, i.size, i.bytes)) = some (some (.agg #[.string ⟨#[]⟩, .int .i64 0]), 2, 24) := by kernel_rfl
/-- A packet as cells. -/
def pshA (p : Pu) : Array Value := #[.string p.b, .int .i64 p.at_]
def pshC (l : List Pu) : List Value := l.flatMap fun p => (pshA p).toList
theorem pshC_append (a b : List Pu) : pshC (a ++ b) = pshC a ++ pshC b := by unfold pshC; exact List.flatMap_append ..
theorem pshC_one (p : Pu) : pshC [p] = (pshA p).toList := by unfold pshC; simp
theorem pshC_len (l : List Pu) : (pshC l).length = l.length * 2 := by
  induction l with
  | nil => rfl
  | cons e r ih =>
    have : pshC (e :: r) = (pshA e).toList ++ pshC r := rfl
    rw [this, List.length_append, ih, List.length_cons]
    show 2 + r.length * 2 = _
    omega
theorem pshC_cell (l : List Pu) (u : Value) (h : u ∈ pshC l) : u.oneCell' = true := by
  unfold pshC at h
  obtain ⟨p, _, h⟩ := List.mem_flatMap.1 h
  simp [pshA] at h
  rcases h with rfl | rfl <;> rfl
theorem pshC_at (l : List Pu) (i : Nat) (h : i < l.length) : (pshC l)[i * 2]? = some (.string (l[i]).b) ∧ (pshC l)[i * 2 + 1]? = some (.int .i64 (l[i]).at_) := by
  induction l generalizing i with
  | nil => cases h
  | cons e r ih =>
    have hc : pshC (e :: r) = .string e.b :: .int .i64 e.at_ :: pshC r := rfl
    rw [hc]
    cases i with
    | zero => exact ⟨rfl, rfl⟩
    | succ i =>
      have := ih i (by simpa using h)
      rw [show (i + 1) * 2 = i * 2 + 2 by omega]
      simpa using this
theorem pshC_set (l : List Pu) (i : Nat) (p : Pu) (h : i < l.length) : pshC (l.set i p) = ((pshC l).set (i * 2) (.string p.b)).set (i * 2 + 1) (.int .i64 p.at_) := by
  induction l generalizing i with
  | nil => cases h
  | cons e r ih =>
    have hc : pshC (e :: r) = .string e.b :: .int .i64 e.at_ :: pshC r := rfl
    cases i with
    | zero => rfl
    | succ i =>
      have := ih i (by simpa using h)
      rw [List.set_cons_succ, hc, show (i + 1) * 2 = i * 2 + 2 by omega]
      show .string e.b :: .int .i64 e.at_ :: pshC (r.set i p) = _
      rw [this]
      rfl
/-- A row of packets of one's own. -/
def PuRow (w : World) (v : Value) (l : List Pu) : Prop := w.ownsRow 0 66 2 v l.length (pshC l)
theorem PuRow.nil (w : World) : PuRow w (.slice none 0 0) [] := World.ownsRow_nil _ _ _ _
theorem PuRow.form {w : World} {v : Value} {l : List Pu} (h : PuRow w v l) : (v = .slice none 0 0 ∧ l = []) ∨ ∃ g cap, v = .slice (some ⟨g, 0, none⟩) l.length cap ∧ l.length ≤ cap ∧ cap ≤ 9223372036854775807 := by
  obtain ⟨_, ⟨rfl, h0⟩ | ⟨g, cp, cur, rfl, _, _, hn, hm, _⟩⟩ := h
  · exact Or.inl ⟨rfl, List.eq_nil_of_length_eq_zero h0⟩
  · exact Or.inr ⟨g, cp, rfl, hn, by unfold maxLen at hm; omega⟩
theorem PuRow.slice {w : World} {v : Value} {l : List Pu} (h : PuRow w v l) : ∃ ad cap, v = .slice ad l.length cap := by
  rcases h.form with ⟨rfl, rfl⟩ | ⟨g, cap, rfl, _⟩
  · exact ⟨_, _, rfl⟩
  · exact ⟨_, _, rfl⟩
theorem PuRow.block {w : World} {v : Value} {l : List Pu} (h : PuRow w v l) {k : Nat} (hk : v.ownBlock = some k) : ∃ cur, w.heap[k]? = some (.cells cur 66 (0, 0)) := by
  obtain ⟨_, ⟨rfl, h0⟩ | ⟨g, cp, cur, rfl, _, hh, _⟩⟩ := h
  · cases hk
  · simp [Value.ownBlock] at hk
    subst hk
    exact ⟨cur, hh⟩
theorem PuRow.lt {w : World} {v : Value} {l : List Pu} (h : PuRow w v l) {k : Nat} (hk : v.ownBlock = some k) : k < w.heap.size := by
  obtain ⟨cur, hc⟩ := h.block hk
  exact (Array.getElem?_eq_some_iff.1 hc).1
theorem PuRow.kp {F : List Nat} {w w' : World} {v : Value} {l : List Pu} (h : PuRow w v l) (hk : Kp F w w') (hF : ∀ k, v.ownBlock = some k → k ∉ F) : PuRow w' v l := by
  obtain ⟨h1, h2 | ⟨g, cp, cur, rfl, hb, hh, r⟩⟩ := h
  · exact ⟨h1, Or.inl h2⟩
  · exact ⟨h1, Or.inr ⟨g, cp, cur, rfl, hb, (hk.block g (Array.getElem?_eq_some_iff.1 hh).1 (hF g rfl)).trans hh, r⟩⟩
theorem PuRow.cell {w : World} {g n cap : Nat} {l : List Pu} (h : PuRow w (.slice (some ⟨g, 0, none⟩) n cap) l) (i : Nat) (hi : i < l.length) : w.cell? ⟨g, i * 2, none⟩ = some (.string (l[i]).b) ∧ w.cell? ⟨g, i * 2 + 1, none⟩ = some (.int .i64 (l[i]).at_) := by
  have k := World.ownsRow.cells h (g := g) rfl
  obtain ⟨a, b⟩ := pshC_at l i hi
  have ka := k _ _ a
  have kb := k _ _ b
  rw [Go.WideShapes.add_plain, Nat.zero_add] at ka kb
  exact ⟨ka, kb⟩
/-- What stays: all below B, and all that is not of that kind. -/
structure Ko (P : Obj → Bool) (B : Nat) (w w' : World) : Prop where
  os : w'.os = w.os
  tape : w'.tape = w.tape
  output : w'.output = w.output
  size : w.heap.size ≤ w'.heap.size
  block : ∀ k o, w.heap[k]? = some o → (k < B ∨ P o = false) → w'.heap[k]? = some o
theorem Ko.refl (P : Obj → Bool) (B : Nat) (w : World) : Ko P B w w := ⟨rfl, rfl, rfl, Nat.le_refl _, fun _ _ h _ => h⟩
theorem Ko.trans {P : Obj → Bool} {B : Nat} {a b c : World} (h : Ko P B a b) (k : Ko P B b c) : Ko P B a c :=
  ⟨k.os.trans h.os, k.tape.trans h.tape, k.output.trans h.output, Nat.le_trans h.size k.size, fun i o h1 h2 => k.block i o (h.block i o h1 h2) h2⟩
theorem Ko.of {P : Obj → Bool} {F : List Nat} {B : Nat} {w w' : World} (h : Kp F w w') (hF : ∀ k ∈ F, k < w.heap.size → B ≤ k ∧ ∃ o, w.heap[k]? = some o ∧ P o = true) : Ko P B w w' :=
  ⟨h.os, h.tape, h.output, h.size, fun k o h1 h2 => by
    have hlt := (Array.getElem?_eq_some_iff.1 h1).1
    refine (h.block k hlt fun hm => ?_).trans h1
    obtain ⟨h3, o', h4, h5⟩ := hF k hm hlt
    rw [h1] at h4
    injection h4 with h4
    subst h4
    rcases h2 with h2 | h2
    · omega
    · rw [h5] at h2; cases h2⟩
theorem Ko.nil {P : Obj → Bool} {B : Nat} {w w' : World} (h : Kp [] w w') : Ko P B w w' := Ko.of h (fun k hk => by cases hk)
theorem Ko.mono {P Q : Obj → Bool} {B B' : Nat} {w w' : World} (h : Ko P B w w') (hB : B' ≤ B) (hQ : ∀ o, P o = true → Q o = true) : Ko Q B' w w' :=
  ⟨h.os, h.tape, h.output, h.size, fun k o h1 h2 => h.block k o h1 (h2.imp (fun h3 => by omega) fun h3 => by
    cases hp : P o with
    | false => rfl
    | true => rw [hQ o hp] at h3; cases h3)⟩
theorem Ko.below {P : Obj → Bool} {B : Nat} {w w' : World} (h : Ko P B w w') (hB : B ≤ w.heap.size) : Below B w w' := ⟨h.os, h.tape, h.output, h.size, fun k hk => by
  have hlt : k < w.heap.size := by omega
  rw [Array.getElem?_eq_getElem hlt]
  exact h.block k _ (Array.getElem?_eq_getElem hlt) (Or.inl hk)⟩
/-- The objects of senders, and of receivers. -/
def sdO : Obj → Bool
  | .cells _ t _ => t == 60 || t == 66
  | _ => false
def rcO : Obj → Bool
  | .cells _ t _ => t == 63
  | .map _ _ => true
  | _ => false
def lkO (o : Obj) : Bool := sdO o || rcO o
/-- A sender's box. -/
def sdC (s : Snd) (v : Value) : Array Value := #[.int .i64 s.ep, .int .i64 (s.wd : Int), .int .i64 s.pt, .int .i64 (s.first : Int), v, .int .i64 s.now]
/-- A sender lies there. -/
structure SdV (w : World) (b : Nat) (v : Value) (s : Snd) : Prop where
  box : CBox b (sdC s v) 60 w
  row : PuRow w v s.left
/-- A sender of the call's own lies there: nothing of it below B. -/
def SdAt (B : Nat) (w : World) (b : Nat) (s : Snd) : Prop := ∃ v, SdV w b v s ∧ B ≤ b ∧ ∀ k, v.ownBlock = some k → B ≤ k
theorem SdV.ne {w : World} {b : Nat} {v : Value} {s : Snd} (h : SdV w b v s) {k : Nat} (hk : v.ownBlock = some k) : k ≠ b := by
  obtain ⟨cur, hc⟩ := h.row.block hk
  rintro rfl
  have := h.box
  unfold CBox at this
  rw [hc] at this
  injection this with e; injection e with _ e; exact absurd e (by decide)
theorem SdAt.ko {P : Obj → Bool} {B B' : Nat} {w w' : World} {b : Nat} {s : Snd} (h : SdAt B w b s) (hk : Ko P B' w w') (hP : B' = w.heap.size ∨ ∀ o, sdO o = true → P o = false) : SdAt B w' b s := by
  obtain ⟨v, h1, h2, h3⟩ := h
  have keep : ∀ (k : Nat) (cur : Array Value) (t : TypeId), (t = 60 ∨ t = 66) → w.heap[k]? = some (Obj.cells cur t (0, 0)) → w'.heap[k]? = some (Obj.cells cur t (0, 0)) := fun k cur t ht hc => by
    refine hk.block k _ hc ?_
    rcases hP with rfl | hP
    · exact Or.inl (Array.getElem?_eq_some_iff.1 hc).1
    · exact Or.inr (hP _ (by rcases ht with rfl | rfl <;> rfl))
  refine ⟨v, ⟨keep _ _ _ (Or.inl rfl) h1.box, ?_⟩, h2, h3⟩
  obtain ⟨g1, g2 | ⟨g, cp, cur, e, hb, hh, r⟩⟩ := h1.row
  · exact ⟨g1, Or.inl g2⟩
  · exact ⟨g1, Or.inr ⟨g, cp, cur, e, hb, keep _ _ _ (Or.inr rfl) hh, r⟩⟩
theorem SdAt.kp {B : Nat} {w w' : World} {b : Nat} {s : Snd} (h : SdAt B w b s) (hk : Kp [] w w') : SdAt B w' b s :=
  h.ko (P := fun _ => false) (B' := w.heap.size) (Ko.nil hk) (Or.inl rfl)
/-- A receiver's box. -/
def rcC (r : Rcv) (q : Nat) : Array Value := #[.int .i64 r.ep, .int .i64 (r.wd : Int), .int .i64 (r.next : Int), .map (some q)]
structure RcV (w : World) (b q : Nat) (r : Rcv) : Prop where
  box : CBox b (rcC r q) 63 w
  map : MpIs w q (erl r.early)
def RcAt (B : Nat) (w : World) (b : Nat) (r : Rcv) : Prop := ∃ q, RcV w b q r ∧ B ≤ b ∧ B ≤ q
theorem RcV.ne {w : World} {b q : Nat} {r : Rcv} (h : RcV w b q r) : q ≠ b := by
  rintro rfl
  obtain ⟨es, c, hc⟩ := h.map.is
  have := h.box
  unfold CBox at this
  rw [hc] at this
  injection this with e; cases e
theorem RcAt.ko {P : Obj → Bool} {B B' : Nat} {w w' : World} {b : Nat} {r : Rcv} (h : RcAt B w b r) (hk : Ko P B' w w') (hP : B' = w.heap.size ∨ ∀ o, rcO o = true → P o = false) : RcAt B w' b r := by
  obtain ⟨q, h1, h2, h3⟩ := h
  have keep : ∀ k o, rcO o = true → w.heap[k]? = some o → w'.heap[k]? = some o := fun k o ho hc => by
    refine hk.block k _ hc ?_
    rcases hP with rfl | hP
    · exact Or.inl (Array.getElem?_eq_some_iff.1 hc).1
    · exact Or.inr (hP _ ho)
  obtain ⟨l, c, g1, g2⟩ := h1.map
  exact ⟨q, ⟨keep _ _ rfl h1.box, l, c, keep _ _ rfl g1, g2⟩, h2, h3⟩
theorem RcAt.kp {B : Nat} {w w' : World} {b : Nat} {r : Rcv} (h : RcAt B w b r) (hk : Kp [] w w') : RcAt B w' b r :=
  h.ko (P := fun _ => false) (B' := w.heap.size) (Ko.nil hk) (Or.inl rfl)
theorem lEpoch_any (n : Int) (w : World) : Calls Try.prog 21 #[.int .i64 n] w fun e w' => e = .returned (.bool (lepB n)) ∧ w' = w := by
  have HB : Hid (lepB n = true ↔ 0 ≤ n ∧ n ≤ 1073741824) := hide (by unfold lepB; exact decide_eq_true_iff)
  generalize lepB n = B at *
  go_enter Try.func21, Try.ntmps21
  by_cases h1 : 0 ≤ n
  · by_cases h2 : n ≤ 1073741824
    · go_wp2
      go_ret
      exact ⟨ret_bool (Bool.eq_iff_iff.2 (by rw [unhide HB]; simp; omega)), rfl⟩
    · go_wp2
      go_ret
      exact ⟨ret_bool (Bool.eq_iff_iff.2 (by rw [unhide HB]; simp; omega)), rfl⟩
  · go_wp2
    go_ret
    exact ⟨ret_bool (Bool.eq_iff_iff.2 (by rw [unhide HB]; simp; omega)), rfl⟩
theorem lStretch_any (n : Int) (w : World) : Calls Try.prog 22 #[.int .i64 n] w fun e w' => e = .returned (.bool (lstB n)) ∧ w' = w := by
  have HB : Hid (lstB n = true ↔ 1 ≤ n ∧ n ≤ 256) := hide (by unfold lstB; exact decide_eq_true_iff)
  generalize lstB n = B at *
  go_enter Try.func22, Try.ntmps22
  by_cases h1 : 1 ≤ n
  · by_cases h2 : n ≤ 256
    · go_wp2
      go_ret
      exact ⟨ret_bool (Bool.eq_iff_iff.2 (by rw [unhide HB]; simp; omega)), rfl⟩
    · go_wp2
      go_ret
      exact ⟨ret_bool (Bool.eq_iff_iff.2 (by rw [unhide HB]; simp; omega)), rfl⟩
  · go_wp2
    go_ret
    exact ⟨ret_bool (Bool.eq_iff_iff.2 (by rw [unhide HB]; simp; omega)), rfl⟩
/-- A sender that was just begun. -/
def sd0 (ep wd pt : Int) : Snd := ⟨ep, wd.toNat, pt, 0, [], 0⟩
def rc0 (ep wd : Int) : Rcv := ⟨ep, wd.toNat, 0, []⟩
theorem sd0_ok {ep wd pt : Int} (h : (lepB ep && (lstB wd && lstB pt)) = true) : SOk (sd0 ep wd pt) := by
  unfold lepB lstB at h
  simp only [Bool.and_eq_true, decide_eq_true_iff] at h
  obtain ⟨⟨a1, a2⟩, ⟨b1, b2⟩, c1, c2⟩ := h
  exact { e0 := a1, e1 := a2, w0 := by unfold sd0; dsimp only; omega, w1 := by unfold sd0; dsimp only; omega, p0 := c1, p1 := c2, len := by simp [sd0], top := by simp [sd0], sz := fun x hx => (by cases hx), n0 := by simp [sd0], n1 := by simp [sd0] }
theorem rc0_ok {ep wd : Int} (h : (lepB ep && lstB wd) = true) : ROk (rc0 ep wd) := by
  unfold lepB lstB at h
  simp only [Bool.and_eq_true, decide_eq_true_iff] at h
  obtain ⟨⟨a1, a2⟩, b1, b2⟩ := h
  exact { e0 := a1, e1 := a2, w0 := by unfold rc0; dsimp only; omega, w1 := by unfold rc0; dsimp only; omega, n1 := by simp [rc0], nd := by simp [rc0], lo := fun x hx => (by cases hx) }
set_option maxHeartbeats 1000000 in
theorem newSender_ok (ep wd pt : Int) (w : World) (h : (lepB ep && (lstB wd && lstB pt)) = true) :
    Calls Try.prog 4 #[.int .i64 ep, .int .i64 wd, .int .i64 pt] w fun e w' => ∃ b, e = .returned (.tuple #[.pointer (some ⟨b, 0, none⟩), .int .i64 0]) ∧ SdAt w.heap.size w' b (sd0 ep wd pt) ∧ Kp [] w w' := by
  simp only [Bool.and_eq_true] at h
  obtain ⟨h1, h2, h3⟩ := h
  have hw : 1 ≤ wd := by unfold lstB at h2; simp at h2; omega
  have A1 := hide (lEpoch_any ep)
  have A2 := hide (lStretch_any wd)
  have A3 := hide (lStretch_any pt)
  rw [h1] at A1
  rw [h2] at A2
  rw [h3] at A3
  clear h1 h2 h3
  have HF : Hid (SdAt w.heap.size (w.alloc (.cells #[.int .i64 ep, .int .i64 wd, .int .i64 pt, .int .i64 0, .slice none 0 0, .int .i64 0] 60)) w.heap.size (sd0 ep wd pt)) := hide ⟨.slice none 0 0, ⟨by
    have := CBox.new w #[.int .i64 ep, .int .i64 wd, .int .i64 pt, .int .i64 0, .slice none 0 0, .int .i64 0] 60
    unfold sdC sd0
    dsimp only
    rw [show ((wd.toNat : Nat) : Int) = wd by omega]
    exact this, PuRow.nil _⟩, Nat.le_refl _, fun k hk => by cases hk⟩
  clear hw
  go_enter Try.func4, Try.ntmps4
  go_wp2_with fail
  refine (unhide A1 _).mono ?_
  rintro r w1 ⟨rfl, rfl⟩
  go_wp2_with fail
  refine (unhide A2 _).mono ?_
  rintro r w1 ⟨rfl, rfl⟩
  go_wp2_with fail
  refine (unhide A3 _).mono ?_
  rintro r w1 ⟨rfl, rfl⟩
  clear A1 A2 A3
  go_wp2
  go_ret2
  exact ⟨_, rfl, unhide HF, Kp.alloc _ _⟩
set_option maxHeartbeats 1000000 in
theorem newSender_not (ep wd pt : Int) (w : World) (h : (lepB ep && (lstB wd && lstB pt)) = false) :
    Calls Try.prog 4 #[.int .i64 ep, .int .i64 wd, .int .i64 pt] w fun e w' => e = .returned (.tuple #[.pointer none, .int .i64 1]) ∧ w' = w := by
  have A1 := hide (lEpoch_any ep)
  have A2 := hide (lStretch_any wd)
  have A3 := hide (lStretch_any pt)
  cases h1 : lepB ep with
  | false =>
    rw [h1] at A1
    clear h
    go_enter Try.func4, Try.ntmps4
    go_wp2_with fail
    refine (unhide A1 _).mono ?_
    rintro r w1 ⟨rfl, rfl⟩
    go_wp2
    go_ret2
    exact ⟨rfl, rfl⟩
  | true =>
    rw [h1] at A1 h
    cases h2 : lstB wd with
    | false =>
      rw [h2] at A2
      clear h
      go_enter Try.func4, Try.ntmps4
      go_wp2_with fail
      refine (unhide A1 _).mono ?_
      rintro r w1 ⟨rfl, rfl⟩
      go_wp2_with fail
      refine (unhide A2 _).mono ?_
      rintro r w1 ⟨rfl, rfl⟩
      go_wp2
      go_ret2
      exact ⟨rfl, rfl⟩
    | true =>
      rw [h2] at A2 h
      have h3 : lstB pt = false := by simpa using h
      rw [h3] at A3
      clear h
      go_enter Try.func4, Try.ntmps4
      go_wp2_with fail
      refine (unhide A1 _).mono ?_
      rintro r w1 ⟨rfl, rfl⟩
      go_wp2_with fail
      refine (unhide A2 _).mono ?_
      rintro r w1 ⟨rfl, rfl⟩
      go_wp2_with fail
      refine (unhide A3 _).mono ?_
      rintro r w1 ⟨rfl, rfl⟩
      go_wp2
      go_ret2
      exact ⟨rfl, rfl⟩
set_option maxHeartbeats 1000000 in
theorem newReceiver_ok (ep wd : Int) (w : World) (h : (lepB ep && lstB wd) = true) :
    Calls Try.prog 6 #[.int .i64 ep, .int .i64 wd] w fun e w' => ∃ b, e = .returned (.tuple #[.pointer (some ⟨b, 0, none⟩), .int .i64 0]) ∧ RcAt w.heap.size w' b (rc0 ep wd) ∧ Kp [] w w' := by
  simp only [Bool.and_eq_true] at h
  obtain ⟨h1, h2⟩ := h
  have hw : 1 ≤ wd := by unfold lstB at h2; simp at h2; omega
  have A1 := hide (lEpoch_any ep)
  have A2 := hide (lStretch_any wd)
  rw [h1] at A1
  rw [h2] at A2
  clear h1 h2
  have HF : Hid (RcAt w.heap.size ((w.alloc (.map #[] 0)).alloc (.cells #[.int .i64 ep, .int .i64 wd, .int .i64 0, .map (some w.heap.size)] 63)) (w.heap.size + 1) (rc0 ep wd) ∧ Kp [] w ((w.alloc (.map #[] 0)).alloc (.cells #[.int .i64 ep, .int .i64 wd, .int .i64 0, .map (some w.heap.size)] 63))) := hide ⟨⟨w.heap.size, ⟨by
    have := CBox.new (w.alloc (.map #[] 0)) #[.int .i64 ep, .int .i64 wd, .int .i64 0, .map (some w.heap.size)] 63
    rw [World.size_alloc] at this
    unfold rcC rc0
    dsimp only
    rw [show ((wd.toNat : Nat) : Int) = wd by omega]
    exact this, ((MpIs.new w).kp (Kp.alloc _ _) (by simp)).congr (fun n => rfl)⟩, by omega, Nat.le_refl _⟩, (Kp.alloc _ _).trans (Kp.alloc _ _) (by simp)⟩
  clear hw
  have hmm := @run_makeMap Try.prog
  go_enter Try.func6, Try.ntmps6
  go_wp2_with fail
  refine (unhide A1 _).mono ?_
  rintro r w1 ⟨rfl, rfl⟩
  go_wp2_with fail
  refine (unhide A2 _).mono ?_
  rintro r w1 ⟨rfl, rfl⟩
  clear A1 A2
  go_wp2
  go_ret2
  exact ⟨_, rfl, (unhide HF).1, (unhide HF).2⟩
set_option maxHeartbeats 1000000 in
theorem newReceiver_not (ep wd : Int) (w : World) (h : (lepB ep && lstB wd) = false) :
    Calls Try.prog 6 #[.int .i64 ep, .int .i64 wd] w fun e w' => e = .returned (.tuple #[.pointer none, .int .i64 1]) ∧ w' = w := by
  have A1 := hide (lEpoch_any ep)
  have A2 := hide (lStretch_any wd)
  cases h1 : lepB ep with
  | false =>
    rw [h1] at A1
    clear h
    go_enter Try.func6, Try.ntmps6
    go_wp2_with fail
    refine (unhide A1 _).mono ?_
    rintro r w1 ⟨rfl, rfl⟩
    go_wp2
    go_ret2
    exact ⟨rfl, rfl⟩
  | true =>
    rw [h1] at A1 h
    have h2 : lstB wd = false := by simpa using h
    rw [h2] at A2
    clear h
    go_enter Try.func6, Try.ntmps6
    go_wp2_with fail
    refine (unhide A1 _).mono ?_
    rintro r w1 ⟨rfl, rfl⟩
    go_wp2_with fail
    refine (unhide A2 _).mono ?_
    rintro r w1 ⟨rfl, rfl⟩
    go_wp2
    go_ret2
    exact ⟨rfl, rfl⟩
theorem lLeft_any (b : Nat) (v : Value) (s : Snd) (w : World) (h : SdV w b v s) :
    Calls Try.prog 19 #[.pointer (some ⟨b, 0, none⟩)] w fun e w' => e = .returned (.int .i64 (s.left.length : Int)) ∧ w' = w := by
  obtain ⟨ad, cap, rfl⟩ := h.row.slice
  have c4 : w.cell? ⟨b, 4, none⟩ = some (.slice ad s.left.length cap) := h.box.cell (i := 4) rfl
  clear h
  go_enter Try.func19, Try.ntmps19
  go_wp2
  go_ret
  exact ⟨rfl, rfl⟩
theorem lNextR_any (b q : Nat) (r : Rcv) (w : World) (h : RcV w b q r) :
    Calls Try.prog 20 #[.pointer (some ⟨b, 0, none⟩)] w fun e w' => e = .returned (.int .i64 (r.next : Int)) ∧ w' = w := by
  have c2 : w.cell? ⟨b, 2, none⟩ = some (.int .i64 (r.next : Int)) := h.box.cell (i := 2) rfl
  clear h
  go_enter Try.func20, Try.ntmps20
  go_wp2
  go_ret
  exact ⟨rfl, rfl⟩
theorem lNextQ_any (b : Nat) (v : Value) (s : Snd) (w : World) (h : SdV w b v s) (hs : s.first + s.left.length ≤ 4611686018427387904) :
    Calls Try.prog 23 #[.pointer (some ⟨b, 0, none⟩)] w fun e w' => e = .returned (.int .i64 ((s.first + s.left.length : Nat) : Int)) ∧ ∃ n, w' = w.drewN n := by
  obtain ⟨ad, cap, rfl⟩ := h.row.slice
  have c3 : w.cell? ⟨b, 3, none⟩ = some (.int .i64 (s.first : Int)) := h.box.cell (i := 3) rfl
  have c4 : w.cell? ⟨b, 4, none⟩ = some (.slice ad s.left.length cap) := h.box.cell (i := 4) rfl
  clear h
  generalize s.left.length = n at *
  generalize s.first = m at *
  go_enter Try.func23, Try.ntmps23
  go_wp2
  go_quiet (fail)
  go_wp2
  go_ret
  exact ⟨by go_num, _, rfl⟩
theorem lNext_any (b : Nat) (v : Value) (s : Snd) (w : World) (h : SdV w b v s) (hs : s.first + s.left.length ≤ 4611686018427387904) :
    Calls Try.prog 23 #[.pointer (some ⟨b, 0, none⟩)] w fun e w' => e = .returned (.int .i64 ((s.first + s.left.length : Nat) : Int)) ∧ Kp [] w w' :=
  (lNextQ_any b v s w h hs).mono fun _ _ ⟨h1, n, h2⟩ => ⟨h1, by rw [h2]; exact Kp.drewQ _ _⟩
end Go.Proofs.Ytiomngpfolkgpaa
namespace Go.Proofs.Ytiomngpfolkgpaa
open Go.RowKit

theorem itemC_get (l : List It) (i : Nat) (h : i < l.length) : (itemC l)[i * 3]? = some (.bool l[i].t) ∧ (itemC l)[i * 3 + 1]? = some (.int .i64 l[i].n) ∧ (itemC l)[i * 3 + 2]? = some (.string l[i].s) := by
  induction l generalizing i with
  | nil => simp at h
  | cons x r ih =>
    have e : itemC (x :: r) = [.bool x.t, .int .i64 x.n, .string x.s] ++ itemC r := by unfold itemC; rw [List.flatMap_cons]
    cases i with
    | zero => rw [e]; simp
    | succ i =>
      have hi : i < r.length := by simpa using h
      obtain ⟨a, b, c⟩ := ih i hi
      rw [e]
      simp only [List.getElem_cons_succ]
      refine ⟨?_, ?_, ?_⟩
      · rw [List.getElem?_append_right (by simp; omega)]; rw [← a]; congr 1; simp; omega
      · rw [List.getElem?_append_right (by simp; omega)]; rw [← b]; congr 1; simp; omega
      · rw [List.getElem?_append_right (by simp; omega)]; rw [← c]; congr 1; simp; omega
theorem OwnsI.items {B : Nat} {w : World} {v : Value} {l : List It} (h : OwnsI B w v l) : ∃ ad cp, v = .slice ad l.length cp ∧ ItemsAt w ad l := by
  obtain ⟨_, ⟨rfl, h0⟩ | ⟨g, cp, cur, rfl, r⟩⟩ := id h
  · refine ⟨none, 0, by rw [h0], fun hne => ?_⟩
    exact absurd (List.eq_nil_of_length_eq_zero h0) hne
  · have hl := World.ownsRow.lt h g rfl
    refine ⟨_, _, rfl, fun _ => ⟨g, 0, rfl, hl.2, fun i hi => ?_⟩⟩
    obtain ⟨a, b, c⟩ := itemC_get l i hi
    simp only [Nat.zero_add]
    refine ⟨?_, ?_, ?_⟩
    · rw [World.ownsRow.cellAt h (i * 3) (by omega)]; exact a
    · rw [World.ownsRow.cellAt h (i * 3 + 1) (by omega)]; exact b
    · rw [World.ownsRow.cellAt h (i * 3 + 2) (by omega)]; exact c
end Go.Proofs.Ytiomngpfolkgpaa
namespace Go.Proofs.Ytiomngpfolkgpaa
open Go.RowKit

/-- Two faults held against one another. -/
theorem eqF (d : Nat) (a c a' c' : Int) (w : World) : (Op.equalIn (d + 2) 92 (.agg #[.int .i64 a, .int .i64 c]) (.agg #[.int .i64 a', .int .i64 c'])).run Try.prog w = .ok (a == a' && c == c') w := by
  have hi := fun (a b : Int) (w : World) => run_equalIn_int (P := Try.prog) w d 3 .i64 .i64 a b Try.underlying3
  have he := fun (a b : Int) (w : World) => run_equalIn_int (P := Try.prog) w d 26 .i64 .i64 a b Try.underlying26
  unfold Op.equalIn
  simp only [Sem.run_bind, run_underlying Try.underlying92, Result.andThen_ok]
  simp [part, Try.sizeOf3, Try.sizeOf26, go_sem, hi, he]
  by_cases h0 : a = a' <;> by_cases h1 : c = c' <;> simp [h0, h1]
end Go.Proofs.Ytiomngpfolkgpaa
namespace Go.Proofs.Ytiomngpfolkgpaa
open Go.RowKit

theorem results_row_tmp {P : Program} {fn : Func} {p u : Tmp} {ty : TypeId} (h : fn.results = #[.cell p ty, .tmp u]) (tmps : Array Value) (w : World) (g : Nat) (t : TypeId) (cs : Array Value) (fr : Nat × Nat) (d : TypeDesc)
    (hp : tmps.getD p undef = .pointer (some ⟨g, 0, none⟩)) (hg : w.heap[g]? = some (.cells cs t fr))
    (hu : P.underlying ty = some d) (hd : (match d with | .struct _ | .array _ _ => true | _ => false) = true) (hi : (P.info? ty).map (·.size) = some cs.size) :
    (results fn tmps).run P w = .ok (.tuple #[.agg cs, tmps.getD u undef]) w := by
  rw [results_cell_tmp h, hp]
  simp [asAddr, run_loadVar_row w g t ty cs fr d hg hu hd hi]
end Go.Proofs.Ytiomngpfolkgpaa
