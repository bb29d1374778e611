/-
  A ring: the first text taken off.
  The library's contracts at this program, laid by the guide's own tools: how many bits a number has, and a copy of a string.
  Rows of bytes of the call's own; such a row as a string; strings.Clone returns the same bytes.
  A store: Give, Put, Take, Len.
-/
import Derived.Test.YtcgmoadahdkbbaaGa02
import Derived.Deep.DeepCutAuto
import Derived.Shelf.LaysM
import Derived.Shelf.Strconv.Clone
import Derived.Test.YtcgmoadahdkbbaaProg
import Derived.Test.YtcgmoadahdkbbaaChecked
import Derived.Test.YtcgmoadahdkbbaaGa01
import Derived.WalkLawsBesides
import Derived.Laws.DeepNot64
import Derived.SliceStrings
import Derived.Lib.MinMax
namespace Go.Proofs.Ytcgmoadahdkbbaa
open Go.RowKit Cr

set_option maxHeartbeats 1000000 in
theorem cShift_cells (b cap f n g : Nat) (x : ByteArray) (w : World) (hc : w.cell? ⟨b, 256, none⟩ = some (.int .i64 (cap : Int))) (hf : w.cell? ⟨b, 257, none⟩ = some (.int .i64 (f : Int))) (hx : w.cell? ⟨b, f, none⟩ = some (.string x))
    (hz : ∀ i, w.frozen? ⟨b, i, none⟩ = false) (hg : ((f : Int) + 1).tmod (cap : Int) = (g : Int)) (h1 : cap ≤ 256) (hfc : f < cap) (hn0 : 0 < n) (hnc : n ≤ cap)
    (hC : (w.setCell ⟨b, f, none⟩ (.string ⟨#[]⟩)).cell? ⟨b, 256, none⟩ = some (.int .i64 (cap : Int)) ∧ (w.setCell ⟨b, f, none⟩ (.string ⟨#[]⟩)).cell? ⟨b, 257, none⟩ = some (.int .i64 (f : Int)) ∧ (w.setCell ⟨b, f, none⟩ (.string ⟨#[]⟩)).cell? ⟨b, 258, none⟩ = some (.int .i64 (n : Int)))
    (hCz : ∀ i, (w.setCell ⟨b, f, none⟩ (.string ⟨#[]⟩)).frozen? ⟨b, i, none⟩ = false) :
    Calls Try.prog 46 #[.pointer (some ⟨b, 0, none⟩)] w fun e w' => e = .returned (.string x) ∧ ∃ k, w' = ((((w.drewN k).setCell ⟨b, f, none⟩ (.string ⟨#[]⟩)).setCell ⟨b, 257, none⟩ (.int .i64 (g : Int))).setCell ⟨b, 258, none⟩ (.int .i64 ((n : Int) - 1))).drew := by
  have RW := hide (fun n => cRows_any b cap (w.drewN n) hc h1)
  have hw : (IntKind.i64.wrap ((f : Int) + 1)).tmod (cap : Int) = (g : Int) := by rw [wrap_add (by omega) (by omega) (by omega) (by omega)]; exact hg
  have hw2 : ((f : Int) + 1).tmod (cap : Int) = (g : Int) := hg
  have hne1 : ¬ (cap : Int) = 0 := by omega
  have hne2 : ¬ cap = 0 := by omega
  have hf0 := hz f
  have HC := hide hC
  have HZ := hide hCz
  clear hg hz hC hCz
  go_enter Try.func46, Try.ntmps46
  go_wp2_with fail
  go_quiet (first | (go_at_call 48; exact Calls.quiet_of (unhide RW _)))
  go_upto_region 4 with fail
  generalize hV : World.setCell _ ⟨b, f, none⟩ (.string ⟨#[]⟩) = V
  have dc : V.cell? ⟨b, 256, none⟩ = some (.int .i64 (cap : Int)) := by rw [← hV]; exact (unhide HC).1
  have df : V.cell? ⟨b, 257, none⟩ = some (.int .i64 (f : Int)) := by rw [← hV]; exact (unhide HC).2.1
  have dn : V.cell? ⟨b, 258, none⟩ = some (.int .i64 (n : Int)) := by rw [← hV]; exact (unhide HC).2.2
  have zf : V.frozen? ⟨b, 257, none⟩ = false := by rw [← hV]; exact unhide HZ 257
  have zn : V.frozen? ⟨b, 258, none⟩ = false := by rw [← hV]; exact unhide HZ 258
  have HV := hide hV
  clear hV hc hf hx hf0 HC HZ RW
  refine wp_region_late (fun W => W.cell? ⟨b, 256, none⟩ = some (.int .i64 (cap : Int)) ∧ W.cell? ⟨b, 257, none⟩ = some (.int .i64 (f : Int))) 13 (by kernel_rfl) ?_
  show wpAnyL _ _ _ _ _ _ 14 (Array.replicate 14 false) _ _
  refine wpAnyL_take3 (i := 0) (oi := { dst := some 17, op := Op.move (Operand.tmp 0), type := 105, pos := "ring.go:31", after := #[], guard := none }) (v := ?_) rfl (by kernel_rfl) (by kernel_rfl) (by kernel_rfl) (by kernel_rfl) (fun _ _ _ h => h) (Or.inl ⟨by rfl, ?_⟩) ⟨dc, df⟩ ?_
  rotate_left 1
  · intro w0 hSw
    (try dsimp only at hSw)
    go_simp
    (try with_reducible rfl)
  try simp only [Act.put, List.setIfInBounds_toArray, List.set_cons_zero, List.set_cons_succ]
  refine wpAnyL_take3 (i := 1) (oi := { dst := some 18, op := Op.move (Operand.tmp 0), type := 105, pos := "ring.go:31", after := #[], guard := none }) (v := ?_) rfl (by kernel_rfl) (by kernel_rfl) (by kernel_rfl) (by kernel_rfl) (fun _ _ _ h => h) (Or.inl ⟨by rfl, ?_⟩) ⟨dc, df⟩ ?_
  rotate_left 1
  · intro w0 hSw
    (try dsimp only at hSw)
    go_simp
    (try with_reducible rfl)
  try simp only [Act.put, List.setIfInBounds_toArray, List.set_cons_zero, List.set_cons_succ]
  refine wpAnyL_take3 (i := 2) (oi := { dst := some 19, op := Op.nilCheck (Operand.tmp 18), type := 0, pos := "ring.go:31", after := #[{ on := 1, ground := Ground.data }], guard := none }) (v := ?_) rfl (by kernel_rfl) (by kernel_rfl) (by kernel_rfl) (by kernel_rfl) (fun _ _ _ h => h) (Or.inl ⟨by rfl, ?_⟩) ⟨dc, df⟩ ?_
  rotate_left 1
  · intro w0 hSw
    (try dsimp only at hSw)
    go_simp
    (try with_reducible rfl)
  try simp only [Act.put, List.setIfInBounds_toArray, List.set_cons_zero, List.set_cons_succ]
  refine wpAnyL_take3 (i := 3) (oi := { dst := some 20, op := Op.fieldAddr 100 (Operand.tmp 19) 2, type := 0, pos := "ring.go:31", after := #[{ on := 2, ground := Ground.data }], guard := none }) (v := ?_) rfl (by kernel_rfl) (by kernel_rfl) (by kernel_rfl) (by kernel_rfl) (fun _ _ _ h => h) (Or.inl ⟨by rfl, ?_⟩) ⟨dc, df⟩ ?_
  rotate_left 1
  · intro w0 hSw
    (try dsimp only at hSw)
    go_simp
    (try with_reducible rfl)
  try simp only [Act.put, List.setIfInBounds_toArray, List.set_cons_zero, List.set_cons_succ]
  refine wpAnyL_take3 (i := 4) (oi := { dst := some 21, op := Op.load 3 (Operand.tmp 20), type := 3, pos := "ring.go:31", after := #[{ on := 3, ground := Ground.data }], guard := none }) (v := ?_) rfl (by kernel_rfl) (by kernel_rfl) (by kernel_rfl) (by kernel_rfl) (fun _ _ _ h => h) (Or.inl ⟨by rfl, ?_⟩) ⟨dc, df⟩ ?_
  rotate_left 1
  · intro w0 hSw
    (try dsimp only at hSw)
    go_simp
    (try with_reducible rfl)
  try simp only [Act.put, List.setIfInBounds_toArray, List.set_cons_zero, List.set_cons_succ]
  refine wpAnyL_take3 (i := 5) (oi := { dst := some 22, op := Op.binOp BinOp.add 3 (Operand.tmp 21) (Operand.const (Value.int IntKind.i64 1)) 3, type := 3, pos := "ring.go:31", after := #[{ on := 4, ground := Ground.data }], guard := none }) (v := ?_) rfl (by kernel_rfl) (by kernel_rfl) (by kernel_rfl) (by kernel_rfl) (fun _ _ _ h => h) (Or.inl ⟨by rfl, ?_⟩) ⟨dc, df⟩ ?_
  rotate_left 1
  · intro w0 hSw
    (try dsimp only at hSw)
    go_simp
    (try with_reducible rfl)
  try simp only [Act.put, List.setIfInBounds_toArray, List.set_cons_zero, List.set_cons_succ]
  refine wpAnyL_take3 (i := 6) (oi := { dst := some 23, op := Op.move (Operand.tmp 0), type := 105, pos := "ring.go:31", after := #[], guard := none }) (v := ?_) rfl (by kernel_rfl) (by kernel_rfl) (by kernel_rfl) (by kernel_rfl) (fun _ _ _ h => h) (Or.inl ⟨by rfl, ?_⟩) ⟨dc, df⟩ ?_
  rotate_left 1
  · intro w0 hSw
    (try dsimp only at hSw)
    go_simp
    (try with_reducible rfl)
  try simp only [Act.put, List.setIfInBounds_toArray, List.set_cons_zero, List.set_cons_succ]
  refine wpAnyL_take3 (i := 7) (oi := { dst := some 24, op := Op.nilCheck (Operand.tmp 23), type := 0, pos := "ring.go:31", after := #[{ on := 6, ground := Ground.data }], guard := none }) (v := ?_) rfl (by kernel_rfl) (by kernel_rfl) (by kernel_rfl) (by kernel_rfl) (fun _ _ _ h => h) (Or.inl ⟨by rfl, ?_⟩) ⟨dc, df⟩ ?_
  rotate_left 1
  · intro w0 hSw
    (try dsimp only at hSw)
    go_simp
    (try with_reducible rfl)
  try simp only [Act.put, List.setIfInBounds_toArray, List.set_cons_zero, List.set_cons_succ]
  refine wpAnyL_take3 (i := 8) (oi := { dst := some 25, op := Op.fieldAddr 100 (Operand.tmp 24) 1, type := 0, pos := "ring.go:31", after := #[{ on := 7, ground := Ground.data }], guard := none }) (v := ?_) rfl (by kernel_rfl) (by kernel_rfl) (by kernel_rfl) (by kernel_rfl) (fun _ _ _ h => h) (Or.inl ⟨by rfl, ?_⟩) ⟨dc, df⟩ ?_
  rotate_left 1
  · intro w0 hSw
    (try dsimp only at hSw)
    go_simp
    (try with_reducible rfl)
  try simp only [Act.put, List.setIfInBounds_toArray, List.set_cons_zero, List.set_cons_succ]
  refine wpAnyL_take3 (i := 9) (oi := { dst := some 26, op := Op.load 3 (Operand.tmp 25), type := 3, pos := "ring.go:31", after := #[{ on := 8, ground := Ground.data }], guard := none }) (v := ?_) rfl (by kernel_rfl) (by kernel_rfl) (by kernel_rfl) (by kernel_rfl) (fun _ _ _ h => h) (Or.inl ⟨by rfl, ?_⟩) ⟨dc, df⟩ ?_
  rotate_left 1
  · intro w0 hSw
    (try dsimp only at hSw)
    go_simp
    (try with_reducible rfl)
  try simp only [Act.put, List.setIfInBounds_toArray, List.set_cons_zero, List.set_cons_succ]
  refine wpAnyL_take3 (i := 10) (oi := { dst := some 27, op := Op.binOp BinOp.rem 3 (Operand.tmp 22) (Operand.tmp 26) 3, type := 3, pos := "ring.go:31", after := #[{ on := 5, ground := Ground.data }, { on := 9, ground := Ground.data }], guard := none }) (v := ?_) rfl (by kernel_rfl) (by kernel_rfl) (by kernel_rfl) (by kernel_rfl) (fun _ _ _ h => h) (Or.inl ⟨by rfl, ?_⟩) ⟨dc, df⟩ ?_
  rotate_left 1
  · intro w0 hSw
    (try dsimp only at hSw)
    go_simp
    (try with_reducible rfl)
  try simp only [Act.put, List.setIfInBounds_toArray, List.set_cons_zero, List.set_cons_succ]
  refine wpAnyL_take3 (i := 11) (oi := { dst := some 28, op := Op.nilCheck (Operand.tmp 17), type := 0, pos := "ring.go:31", after := #[{ on := 0, ground := Ground.data }, { on := 0, ground := Ground.phase }, { on := 1, ground := Ground.phase }, { on := 2, ground := Ground.phase }, { on := 3, ground := Ground.phase }, { on := 4, ground := Ground.phase }, { on := 5, ground := Ground.phase }, { on := 6, ground := Ground.phase }, { on := 7, ground := Ground.phase }, { on := 8, ground := Ground.phase }, { on := 9, ground := Ground.phase }, { on := 10, ground := Ground.phase }], guard := none }) (v := ?_) rfl (by kernel_rfl) (by kernel_rfl) (by kernel_rfl) (by kernel_rfl) (fun _ _ _ h => h) (Or.inl ⟨by rfl, ?_⟩) ⟨dc, df⟩ ?_
  rotate_left 1
  · intro w0 hSw
    (try dsimp only at hSw)
    go_simp
    (try with_reducible rfl)
  try simp only [Act.put, List.setIfInBounds_toArray, List.set_cons_zero, List.set_cons_succ]
  refine wpAnyL_take3 (i := 12) (oi := { dst := some 29, op := Op.fieldAddr 100 (Operand.tmp 28) 2, type := 0, pos := "ring.go:31", after := #[{ on := 11, ground := Ground.data }, { on := 0, ground := Ground.phase }, { on := 1, ground := Ground.phase }, { on := 2, ground := Ground.phase }, { on := 3, ground := Ground.phase }, { on := 4, ground := Ground.phase }, { on := 5, ground := Ground.phase }, { on := 6, ground := Ground.phase }, { on := 7, ground := Ground.phase }, { on := 8, ground := Ground.phase }, { on := 9, ground := Ground.phase }, { on := 10, ground := Ground.phase }], guard := none }) (v := ?_) rfl (by kernel_rfl) (by kernel_rfl) (by kernel_rfl) (by kernel_rfl) (fun _ _ _ h => h) (Or.inl ⟨by rfl, ?_⟩) ⟨dc, df⟩ ?_
  rotate_left 1
  · intro w0 hSw
    (try dsimp only at hSw)
    go_simp
    (try with_reducible rfl)
  try simp only [Act.put, List.setIfInBounds_toArray, List.set_cons_zero, List.set_cons_succ]
  refine wpAnyL_one (i := 13) (o := { dst := none, op := Op.store 3 (Operand.tmp 29) (Operand.tmp 27), type := 0, pos := "ring.go:31", after := #[{ on := 12, ground := Ground.data }, { on := 10, ground := Ground.data }, { on := 0, ground := Ground.phase }, { on := 1, ground := Ground.phase }, { on := 2, ground := Ground.phase }, { on := 3, ground := Ground.phase }, { on := 4, ground := Ground.phase }, { on := 5, ground := Ground.phase }, { on := 6, ground := Ground.phase }, { on := 7, ground := Ground.phase }, { on := 8, ground := Ground.phase }, { on := 9, ground := Ground.phase }, { on := 10, ground := Ground.phase }], guard := none }) rfl (by kernel_rfl) (fun K hK => ?_)
  go_simp
  refine hK _ _ (Or.inl rfl) ?_
  clear hK K
  try simp only [Act.put, List.setIfInBounds_toArray, List.set_cons_zero, List.set_cons_succ]
  refine wpAnyL_done (by kernel_rfl) ?_ _
  go_wp2
  go_ret
  exact ⟨rfl, nq, by rw [← unhide HV]⟩
theorem froz_set {w : World} {b : Nat} {cs : Array Value} {t : TypeId} (h : CBox b cs t w) (i : Nat) (v : Value) (j : Nat) : (w.setCell ⟨b, i, none⟩ v).frozen? ⟨b, j, none⟩ = false := (h.set i v).froz j
theorem head_get : ∀ (l : List ByteArray) (h : 0 < l.length), l[0] = l.headD ⟨#[]⟩
  | [], h => by cases h
  | _ :: _, _ => rfl
theorem tail_get : ∀ (l : List ByteArray) (i : Nat) (h : i < l.tail.length), l.tail[i] = l[i + 1]'(by rw [List.length_tail] at h; omega)
  | [], _, h => by cases h
  | _ :: _, _, _ => rfl
/-- The first text taken off. -/
theorem cShift_any (b : Nat) (s : Sto) (w : World) (h : CrAt w b s) (hq : s.q.length ≠ 0) :
    Calls Try.prog 46 #[.pointer (some ⟨b, 0, none⟩)] w fun e w' => e = .returned (.string (tkT s)) ∧ CrAt w' b (tkS s) ∧ Kp [b] w w' := by
  obtain ⟨cs, f, h⟩ := h
  have hi := h.ok.hi
  have lo := h.ok.lo
  have fi := h.fi
  have hro := h.ok.room
  obtain ⟨g, hg⟩ : ∃ g, g = (f + 1) % s.cap := ⟨_, rfl⟩
  have hgc : g < s.cap := by rw [hg]; exact Nat.mod_lt _ lo
  have hfs : f < cs.size := by rw [h.sz]; omega
  have hx := h.tx 0 (by omega)
  rw [Nat.add_zero, Nat.mod_eq_of_lt fi] at hx
  have e0 : s.q[0]'(by omega) = tkT s := head_get s.q (by omega)
  rw [e0] at hx
  have e1 : ∀ j, f ≠ j → (cs.setIfInBounds f (.string ⟨#[]⟩))[j]? = cs[j]? := fun j hj => Array.getElem?_setIfInBounds_ne hj
  have b1 := h.box.set f (.string ⟨#[]⟩)
  refine (cShift_cells b s.cap f s.q.length g (tkT s) w (h.box.cell h.c0) (h.box.cell h.c1) (h.box.cell hx) (fun i => h.box.froz i) (by rw [show (f : Int) + 1 = ((f + 1 : Nat) : Int) by omega, tmod_nat, hg]) hi fi (by omega) (by omega)
    ⟨b1.cell (by rw [e1 _ (by omega)]; exact h.c0), b1.cell (by rw [e1 _ (by omega)]; exact h.c1), b1.cell (by rw [e1 _ (by omega)]; exact h.c2)⟩ (fun i => froz_set h.box _ _ i)).mono ?_
  rintro e w' ⟨he, k, rfl⟩
  have k1 := Kp.drewQ w k
  have b2 := ((((h.box.kp k1 (by simp)).set f (.string ⟨#[]⟩)).set 257 (.int .i64 (g : Int))).set 258 (.int .i64 ((s.q.length : Int) - 1))).kp (Kp.drew _) (by simp)
  refine ⟨he, ⟨_, g, b2, by simp [h.sz], ?_, ?_, ?_, ?_, hgc, ?_, h.ok.tk⟩, ((((k1.mono (by simp)).trans (Kp.set _ b _ _) (by simp)).trans (Kp.set _ b _ _) (by simp)).trans (Kp.set _ b _ _) (by simp)).trans (Kp.drew _) (by simp)⟩
  · rw [Array.getElem?_setIfInBounds_ne (by omega), Array.getElem?_setIfInBounds_ne (by omega), e1 _ (by omega)]; exact h.c0
  · rw [Array.getElem?_setIfInBounds_ne (by omega), Array.getElem?_setIfInBounds_self_of_lt (by simp [h.sz])]
  · rw [Array.getElem?_setIfInBounds_self_of_lt (by simp [h.sz])]
    simp only [tkS, List.length_tail]
    congr 2
    omega
  · rw [Array.getElem?_setIfInBounds_ne (by omega), Array.getElem?_setIfInBounds_ne (by omega), e1 _ (by omega)]; exact h.c3
  · intro i hi2
    have hi2 : i < s.q.tail.length := hi2
    rw [List.length_tail] at hi2
    have hm : (g + i) % s.cap < s.cap := Nat.mod_lt _ lo
    have hgi : (g + i) % s.cap = (f + (i + 1)) % s.cap := by
      rw [hg, Nat.mod_add_mod]
      congr 1
      omega
    show (((cs.setIfInBounds f (.string ⟨#[]⟩)).setIfInBounds 257 _).setIfInBounds 258 _)[(g + i) % s.cap]? = some (.string s.q.tail[i])
    rw [Array.getElem?_setIfInBounds_ne (by omega), Array.getElem?_setIfInBounds_ne (by omega), hgi, e1 _ (fun e => by
      have e4 : (f + 0) % s.cap = (f + (i + 1)) % s.cap := by rw [Nat.add_zero, Nat.mod_eq_of_lt fi]; exact e
      have := mod_ne fi (by omega) (by omega) e4
      omega), h.tx (i + 1) (by omega)]
    exact congrArg (fun z => some (Value.string z)) (tail_get s.q i (by rw [List.length_tail]; omega)).symm
end Go.Proofs.Ytcgmoadahdkbbaa
namespace Go.Proofs
open Go.Shelf
def Try.laysM316_ren : Go.Shelf.Ren := ⟨fun | 316 => 45 | n => n, fun | 9 => 9 | 3 => 3 | 4 => 4 | 37 => 46 | 0 => 0 | 127 => 107 | 5 => 5 | n => n, fun | n => n⟩
theorem Try.laysM316 : Go.Proofs.LaysM.n316 Try.prog Try.laysM316_ren := {
  mixed := by kernel_rfl
  f316 := Try.func45.trans (congrArg some (by kernel_rfl))
  t0 := Try.underlying0
  a0 := Try.isAgg0
  z0 := Try.sizeOf0
  v0 := Try.zeroValue0
  t3 := Try.underlying3
  a3 := Try.isAgg3
  z3 := Try.sizeOf3
  v3 := Try.zeroValue3
  t4 := Try.underlying4
  a4 := Try.isAgg4
  z4 := Try.sizeOf4
  v4 := Try.zeroValue4
  t9 := Try.underlying9
  a9 := Try.isAgg9
  z9 := Try.sizeOf9
  v9 := Try.zeroValue9
  t37 := Try.underlying46
  a37 := Try.isAgg46
  z37 := Try.sizeOf46
  v37 := Try.zeroValue46
  t127 := Try.underlying107
  a127 := Try.isAgg107
  z127 := Try.sizeOf107
  v127 := Try.zeroValue107
  t5 := Try.underlying5
  a5 := Try.isAgg5
  z5 := Try.sizeOf5
  v5 := Try.zeroValue5
  i0 := by kernel_rfl
  i3 := by kernel_rfl
  i4 := by kernel_rfl
  i5 := by kernel_rfl
  i9 := by kernel_rfl
  i37 := by kernel_rfl
  i127 := by kernel_rfl }
open Go.RowKit in
theorem Try.stringslite_Clone (s : ByteArray) (w : World) (hlim : s.size ≤ 281474976710656) :
    Calls Try.prog 45 #[.string s] w fun e w' => e = .returned (.string s) ∧ Below w.heap.size w w' := Any.stringslite_Clone Try.laysM316 s w hlim
end Go.Proofs
namespace Go.Proofs.Ytcgmoadahdkbbaa
open Go.RowKit

theorem info_u8 : (Try.prog.info? 5).map (fun i => (i.zero, i.size, i.bytes)) = some (some (.int .u8 0), 1, 1) := by kernel_rfl
/-- A row of bytes of the call's own. -/
def Owns (B : Nat) (w : World) (v : Value) (l : List UInt8) : Prop := w.ownsRow B 5 1 v l.length (byteC l)
theorem Owns.nil (B : Nat) (w : World) : Owns B w (.slice none 0 0) [] := World.ownsRow_nil _ _ _ _
theorem Owns.alloc {B : Nat} {w : World} {v : Value} {l : List UInt8} (h : Owns B w v l) (o : Obj) : Owns B (w.alloc o) v l := World.ownsRow.alloc h o
theorem Owns.drew {B : Nat} {w : World} {v : Value} {l : List UInt8} (h : Owns B w v l) : Owns B w.drew v l := h
theorem Owns.form {B : Nat} {w : World} {v : Value} {l : List UInt8} (h : Owns B w v l) : ∃ ad cp, v = .slice ad l.length cp := by
  obtain ⟨_, ⟨rfl, h0⟩ | ⟨g, cp, cur, rfl, _⟩⟩ := h
  · exact ⟨_, _, by rw [h0]⟩
  · exact ⟨_, _, rfl⟩
theorem strOf_bytes (l : List UInt8) : strOfNums (l.map fun b => (b.toNat : Int)) = ⟨l.toArray⟩ := by
  unfold strOfNums; congr 1; simp [List.map_map, Function.comp_def]
/-- The row's bytes as a string. -/
theorem Owns.string {B : Nat} {w : World} {v : Value} {l : List UInt8} (h : Owns B w v l) : (convert 46 9 v).run Try.prog w = .ok (.string ⟨l.toArray⟩) w := by
  obtain ⟨hl, ⟨rfl, h0⟩ | ⟨g, cp, cur, rfl, hb, hh, r⟩⟩ := id h
  · obtain rfl : l = [] := List.eq_nil_of_length_eq_zero h0
    exact run_convert_bytes_nil w 46 5 Try.underlying46 Try.underlying5 0 0 9 Try.underlying9
  · have := run_convert_bytes_arg (P := Try.prog) w 46 5 Try.underlying46 Try.underlying5 g 0 l.length cp (l.map fun b => (b.toNat : Int)) (by simp) (fun i hi => by
      rw [Nat.zero_add]
      have c := World.ownsRow.cellAt h i (by omega)
      rw [c]
      unfold byteC
      simp [List.getElem?_eq_getElem hi, List.getD]) 9 Try.underlying9
    rw [strOf_bytes] at this
    exact this
theorem drop_get (b : ByteArray) (i : Nat) (h : i < b.size) : b.data.toList.drop i = b[i] :: b.data.toList.drop (i + 1) := by
  rw [List.drop_eq_getElem_cons (by simpa using h)]; rfl
theorem take_snoc (s : ByteArray) (k : Nat) (h : k < s.size) : s.data.toList.take (k + 1) = s.data.toList.take k ++ [s[k]] := by
  rw [List.take_succ_eq_append_getElem (by simpa using h)]; rfl
set_option maxHeartbeats 400000 in
theorem clone_any (b : ByteArray) (w : World) (hb : b.size ≤ 281474976710656) :
    Calls Try.prog 33 #[.string b] w fun e w' => e = .returned (.string b) ∧ Below w.heap.size w w' := by
  go_enter Try.func33, Try.ntmps33
  go_wp2_with fail
  refine (Try.stringslite_Clone b _ hb).mono ?_
  rintro e w' ⟨rfl, h⟩
  go_wp2
  go_ret
  exact ⟨rfl, h⟩
end Go.Proofs.Ytcgmoadahdkbbaa
namespace Go.Proofs.Ytcgmoadahdkbbaa
open Go.RowKit Cr

theorem cLen_any (b : Nat) (s : Sto) (w : World) (h : CrAt w b s) :
    Calls Try.prog 35 #[.pointer (some ⟨b, 0, none⟩)] w fun e w' => e = .returned (.int .i64 (s.q.length : Int)) ∧ w' = w := by
  obtain ⟨cs, f, h⟩ := h
  have c2 := h.box.cell h.c2
  clear h
  generalize s.q.length = n at *
  go_enter Try.func35, Try.ntmps35
  go_wp2
  go_ret
  exact ⟨rfl, rfl⟩
set_option maxHeartbeats 1000000 in
theorem cTake_any (b : Nat) (s : Sto) (w : World) (h : CrAt w b s) :
    Calls Try.prog 41 #[.pointer (some ⟨b, 0, none⟩)] w fun e w' => e = .returned (.tuple #[.string (tkT s), .int .i64 (tkE s)]) ∧ CrAt w' b (tkS s) ∧ Kp [b] w w' := by
  have c2 : w.cell? ⟨b, 258, none⟩ = some (.int .i64 (s.q.length : Int)) := by obtain ⟨cs, f, h⟩ := h; exact h.box.cell h.c2
  have SH := hide (cShift_any b s w h)
  by_cases hq : s.q.length = 0
  · have e0 : s.q = [] := List.eq_nil_of_length_eq_zero hq
    have eS : tkS s = s := by unfold tkS; cases s; subst e0; rfl
    have eT : tkT s = ⟨#[]⟩ := by unfold tkT; rw [e0]; rfl
    have eE : tkE s = 5 := by unfold tkE; rw [if_pos hq]
    rw [eS, eT, eE]
    have H := hide h
    clear SH h
    rw [hq] at c2
    go_enter Try.func41, Try.ntmps41
    go_wp2
    go_ret2
    exact ⟨rfl, unhide H, Kp.refl _ _⟩
  · have eE : tkE s = 0 := by unfold tkE; rw [if_neg hq]
    rw [eE]
    have SH2 := hide (unhide SH hq)
    clear SH
    have hqi : ¬ (s.q.length : Int) = 0 := by omega
    clear h
    generalize s.q.length = n at *
    go_enter Try.func41, Try.ntmps41
    go_wp2_with fail
    refine (unhide SH2).mono ?_
    rintro r w1 ⟨rfl, h1, h2⟩
    have H1 := hide h1
    have H2 := hide h2
    clear h1 h2
    go_wp2
    go_ret2
    exact ⟨rfl, unhide H1, unhide H2⟩
set_option maxHeartbeats 1000000 in
theorem cPut_any (b : Nat) (s : Sto) (t : ByteArray) (w : World) (h : CrAt w b s) (hz : t.size ≤ 281474976710656) :
    Calls Try.prog 44 #[.pointer (some ⟨b, 0, none⟩), .string t] w fun e w' => e = .returned (.int .i64 (ptE s)) ∧ CrAt w' b (ptS s t) ∧ Kp [b] w w' := by
  obtain ⟨cs, f, h⟩ := h
  have c3 := h.box.cell h.c3
  by_cases hq : s.owed = 0
  · have eS : ptS s t = s := by unfold ptS; rw [if_pos hq]
    have eE : ptE s = 200 := by unfold ptE; rw [if_pos hq]
    rw [eS, eE]
    have H := hide h
    clear h
    rw [hq] at c3
    go_enter Try.func44, Try.ntmps44
    go_wp2
    go_ret
    exact ⟨rfl, ⟨_, _, unhide H⟩, Kp.refl _ _⟩
  · have eS : ptS s t = ⟨s.cap, s.owed - 1, s.q ++ [t]⟩ := by unfold ptS; rw [if_neg hq]
    have eE : ptE s = 0 := by unfold ptE; rw [if_neg hq]
    rw [eS, eE]
    have hz3 := h.box.froz 259
    have ho := h.ok.room
    have hh := h.ok.hi
    have PU := hide (fun W (hk : Kp [] (w.setCell ⟨b, 259, none⟩ (.int .i64 ((s.owed : Int) - 1))) W) => cPush_any b ⟨s.cap, s.owed - 1, s.q⟩ t W ⟨_, f, CrV.kp (⟨h.box.set 259 (.int .i64 ((s.owed : Int) - 1)), by simp [h.sz], by rw [Array.getElem?_setIfInBounds_ne (by omega)]; exact h.c0, by rw [Array.getElem?_setIfInBounds_ne (by omega)]; exact h.c1, by rw [Array.getElem?_setIfInBounds_ne (by omega)]; exact h.c2, by
      rw [Array.getElem?_setIfInBounds_self_of_lt (by simp [h.sz])]
      congr 2
      show (s.owed : Int) - 1 = ((s.owed - 1 : Nat) : Int)
      omega, h.fi, fun i hi => by
        have := Nat.mod_lt (f + i) h.ok.lo
        rw [Array.getElem?_setIfInBounds_ne (by show 259 ≠ (f + i) % s.cap; omega)]
        exact h.tx i hi, ⟨h.ok.lo, h.ok.hi, by show s.q.length + (s.owed - 1) ≤ s.cap; omega⟩⟩) hk (by simp)⟩ (by show s.q.length + (s.owed - 1) < s.cap; omega))
    have CL := hide (fun W => clone_any t W hz)
    have KS := hide (Kp.set w b 259 (.int .i64 ((s.owed : Int) - 1)))
    have hqi : ¬ (s.owed : Int) = 0 := by omega
    have hoi : (s.owed : Int) ≤ 256 := by omega
    clear h
    generalize s.owed = n at *
    go_enter Try.func44, Try.ntmps44
    go_wp2_with fail
    go_region_held3 (fun _ => True) (trivial)
      (first
        | (go_at_call 47; refine (unhide PU _ (unhide KC)).mono ?_; rintro r w3 ⟨⟨v3, rfl⟩, a1, a2⟩; have A1 := hide a1; have A2 := hide a2; clear a1 a2)
        | (go_at_call 33; refine (unhide CL _).mono ?_; rintro r w2 ⟨rfl, hb2⟩; have KC := hide ((Kp.drew _).trans (Kp.ofBelow hb2) (by simp)); clear hb2))
    go_wp2
    go_ret
    exact ⟨rfl, unhide A1, ((unhide KS).trans (unhide KC) (by simp)).trans (unhide A2) (by simp)⟩
set_option maxHeartbeats 1000000 in
theorem cGive_any (b : Nat) (s : Sto) (most : Int) (w : World) (h : CrAt w b s) :
    Calls Try.prog 31 #[.pointer (some ⟨b, 0, none⟩), .int .i64 most] w fun e w' => e = .returned (.tuple #[.int .i64 (gvN s most : Int), .int .i64 (gvE most)]) ∧ CrAt w' b (gvS s most) ∧ Kp [b] w w' := by
  obtain ⟨cs, f, h⟩ := h
  have c3 := h.box.cell h.c3
  by_cases hm : most < 0
  · have eE : gvE most = 1 := by unfold gvE; rw [if_pos hm]
    rw [gvS_neg s hm, gvN_neg s hm, eE]
    have H := hide h
    clear h
    go_enter Try.func31, Try.ntmps31
    go_wp2
    go_ret2
    exact ⟨rfl, ⟨_, _, unhide H⟩, Kp.refl _ _⟩
  · have eE : gvE most = 0 := by unfold gvE; rw [if_neg hm]
    rw [eE]
    have hz3 := h.box.froz 259
    have ho := h.ok.room
    have hh := h.ok.hi
    have FR := hide (fun k => cFree_any b s.cap s.q.length (w.drewN k) (h.box.cell h.c0) (h.box.cell h.c2) (by omega) hh)
    obtain ⟨m, hmn⟩ : ∃ m, m = gvN s most := ⟨_, rfl⟩
    have hmi : min most ((s.cap : Int) - (s.q.length : Int) - (s.owed : Int)) = (m : Int) := by rw [hmn]; unfold gvN; omega
    have hmw : min most (IntKind.i64.wrap ((s.cap : Int) - (s.q.length : Int) - (s.owed : Int))) = (m : Int) := by
      rw [← hmi]
      congr 1
      simp [IntKind.wrap, IntKind.signed, go_sem]
      omega
    have hml : s.owed + m ≤ 256 := by have := gvN_le s h.ok most; omega
    have FIN := hide (fun k => (show CrAt (((w.drewN k).setCell ⟨b, 259, none⟩ (.int .i64 ((s.owed : Int) + (m : Int))))) b (gvS s most) from ⟨_, f, (h.box.kp (Kp.drewQ w k) (by simp)).set 259 (.int .i64 ((s.owed : Int) + (m : Int))), by simp [h.sz], by rw [Array.getElem?_setIfInBounds_ne (by omega)]; exact h.c0, by rw [Array.getElem?_setIfInBounds_ne (by omega)]; exact h.c1, by rw [Array.getElem?_setIfInBounds_ne (by omega)]; exact h.c2, by
      rw [Array.getElem?_setIfInBounds_self_of_lt (by simp [h.sz])]
      congr 2
      show (s.owed : Int) + (m : Int) = ((s.owed + gvN s most : Nat) : Int)
      omega, h.fi, fun i hi => by
        have := Nat.mod_lt (f + i) h.ok.lo
        rw [Array.getElem?_setIfInBounds_ne (by show 259 ≠ (f + i) % s.cap; omega)]
        exact h.tx i hi, h.ok.gv most⟩))
    have KS := hide (fun k => ((Kp.drewQ w k).mono (G := [b]) (by simp)).trans (Kp.set _ b 259 (.int .i64 ((s.owed : Int) + (m : Int)))) (by simp))
    have h0 : 0 ≤ most := by omega
    have hcq : s.q.length ≤ s.cap := by omega
    rw [← hmn]
    clear h hmn hm hmi
    generalize s.owed = n at *
    generalize s.q.length = l at *
    generalize s.cap = c at *
    go_enter Try.func31, Try.ntmps31
    go_wp2_with fail
    go_region_held3 (fun W => W.cell? ⟨b, 259, none⟩ = some (.int .i64 (n : Int))) (first | exact c3)
      (first | (go_at_call 43; refine (unhide FR 1).mono ?_; rintro r w1 ⟨rfl, n1, rfl⟩))
    go_wp2
    go_ret2
    exact ⟨rfl, unhide FIN _, unhide KS _⟩
end Go.Proofs.Ytcgmoadahdkbbaa
