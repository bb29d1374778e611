/-
  How an expression is written: a side, a leaf, an operation (made by wip/mkwr.py).
-/
import Derived.Test.YtogklmljllocbabGreatDoorF12
import Derived.Test.YtogklmljllocbabGreatDoorF14
import Derived.Test.YtogklmljllocbabGreatDoorF15
import Derived.Laws.Concat
namespace Go.Proofs.YtogklmljllocbabGreatDoor
open Go.RowKit

theorem txt_app (a b : List UInt8) : txt a ++ txt b = txt (a ++ b) := by
  apply ByteArray.ext
  apply Array.ext'
  simp [txt]
theorem str_add (a b : List UInt8) (h : a.length + b.length ≤ 1000000) (w : World) : (Op.stringOp .add (txt a) (txt b)).run Tryz.prog w = .ok (.string (txt (a ++ b))) w := by
  rw [run_string_add_sum w _ _ (by rw [txt_size, txt_size]; omega), txt_app]
theorem side_any (a : List UInt8 × Bool) (w : World) (h : a.1.length ≤ 900000) : Calls Tryz.prog 152 #[.agg #[.string (txt a.1), .bool a.2]] w fun e w' => e = .returned (.string (txt (sdB a))) ∧ Below w.heap.size w w' := by
  obtain ⟨l, o⟩ := a
  dsimp only at h ⊢
  unfold sdB
  dsimp only
  cases o with
  | false =>
    rw [if_neg (by simp)]
    generalize txt l = L
    go_enter Tryz.func152, Tryz.ntmps152
    go_wp2
    exact bodyPost_ret (results_tmp rfl _ _ _) rfl ⟨rfl, (Below.refl _ _).alloc (Nat.le_refl _) _⟩
  | true =>
    have D1 : ∀ W, (Op.stringOp .add { data := #[40, 32] } (txt l)).run Tryz.prog W = .ok (.string (txt ([40, 32] ++ l))) W := fun W => str_add [40, 32] l (by simp; omega) W
    have D2 : ∀ W, (Op.stringOp .add (txt ([40, 32] ++ l)) { data := #[32, 41] }).run Tryz.prog W = .ok (.string (txt ([40, 32] ++ (l ++ [32, 41])))) W := fun W => by
      have := str_add ([40, 32] ++ l) [32, 41] (by simp; omega) W
      rw [List.append_assoc] at this
      exact this
    rw [if_pos rfl]
    generalize txt ([40, 32] ++ (l ++ [32, 41])) = Z at *
    generalize txt ([40, 32] ++ l) = Y at *
    generalize txt l = L at *
    go_enter Tryz.func152, Tryz.ntmps152
    go_wp2
    exact bodyPost_ret (results_tmp rfl _ _ _) rfl ⟨rfl, (Below.refl _ _).alloc (Nat.le_refl _) _⟩
theorem info_written : (Tryz.prog.info? 137).map (·.size) = some 2 := by kernel_rfl
section
variable {w W : World} {kd n fl N O I : Int} {s st S0 A B : ByteArray} {a b : Bool} {F : Value}
theorem wr_box : CBox (w.heap.size + 1 + 1 + 1) #[.string { data := #[] }, .bool false] 137 ((((w.alloc (.cells #[.int .i64 kd, .int .i64 n, .string s, .string st, .int .i64 fl] 89)).alloc (.cells #[.string S0, .int .i64 N, .int .u64 O, .int .i64 I, F] 150)).alloc (.cells #[.string A, .bool a, .string B, .bool b] 229)).alloc (.cells #[.string { data := #[] }, .bool false] 137)) := by
  have := CBox.new (((w.alloc (.cells #[.int .i64 kd, .int .i64 n, .string s, .string st, .int .i64 fl] 89)).alloc (.cells #[.string S0, .int .i64 N, .int .u64 O, .int .i64 I, F] 150)).alloc (.cells #[.string A, .bool a, .string B, .bool b] 229)) #[.string { data := #[] }, .bool false] 137
  simp only [World.size_alloc] at this
  exact this
theorem wr_all : Below w.heap.size w ((((w.alloc (.cells #[.int .i64 kd, .int .i64 n, .string s, .string st, .int .i64 fl] 89)).alloc (.cells #[.string S0, .int .i64 N, .int .u64 O, .int .i64 I, F] 150)).alloc (.cells #[.string A, .bool a, .string B, .bool b] 229)).alloc (.cells #[.string { data := #[] }, .bool false] 137)) :=
  ((((Below.refl _ _).alloc (Nat.le_refl _) _).alloc (by simp) _).alloc (by simp; omega) _).alloc (by simp; omega) _
theorem wr_left {W' : World} (hk : Kp [] ((((w.alloc (.cells #[.int .i64 kd, .int .i64 n, .string s, .string st, .int .i64 fl] 89)).alloc (.cells #[.string S0, .int .i64 N, .int .u64 O, .int .i64 I, F] 150)).alloc (.cells #[.string A, .bool a, .string B, .bool b] 229)).alloc (.cells #[.string { data := #[] }, .bool false] 137)) W') :
    W'.cell? ⟨w.heap.size + 1, 0, none⟩ = some (.string S0) ∧ W'.cell? ⟨w.heap.size + 1 + 1, 0, none⟩ = some (.string A) ∧ W'.cell? ⟨w.heap.size + 1 + 1, 1, none⟩ = some (.bool a) ∧ W'.cell? ⟨w.heap.size + 1 + 1, 2, none⟩ = some (.string B) ∧ W'.cell? ⟨w.heap.size + 1 + 1, 3, none⟩ = some (.bool b) := by
  have h1 := (((CBox.new (w.alloc (.cells #[.int .i64 kd, .int .i64 n, .string s, .string st, .int .i64 fl] 89)) #[.string S0, .int .i64 N, .int .u64 O, .int .i64 I, F] 150).kp (Kp.alloc _ (.cells #[.string A, .bool a, .string B, .bool b] 229)) (by simp)).kp (Kp.alloc _ (.cells #[.string { data := #[] }, .bool false] 137)) (by simp)).kp hk (by simp)
  have h2 := ((CBox.new ((w.alloc (.cells #[.int .i64 kd, .int .i64 n, .string s, .string st, .int .i64 fl] 89)).alloc (.cells #[.string S0, .int .i64 N, .int .u64 O, .int .i64 I, F] 150)) #[.string A, .bool a, .string B, .bool b] 229).kp (Kp.alloc _ (.cells #[.string { data := #[] }, .bool false] 137)) (by simp)).kp hk (by simp)
  simp only [World.size_alloc] at h1 h2
  exact ⟨h1.cell rfl, h2.cell rfl, h2.cell rfl, h2.cell rfl, h2.cell rfl⟩
theorem wr_below {W1 : World} (h : Below w.heap.size w W) (hk : Kp [] W W1) (x y : Value) : Below w.heap.size w ((W1.setCell ⟨w.heap.size + 1 + 1 + 1, 0, none⟩ x).setCell ⟨w.heap.size + 1 + 1 + 1, 1, none⟩ y) :=
  ((h.trans (hk.below h.size (by simp))).setCell (p := ⟨w.heap.size + 1 + 1 + 1, 0, none⟩) (by show w.heap.size ≤ w.heap.size + 1 + 1 + 1; omega) _).setCell (p := ⟨w.heap.size + 1 + 1 + 1, 1, none⟩) (by show w.heap.size ≤ w.heap.size + 1 + 1 + 1; omega) _
end
set_option maxHeartbeats 2000000 in
set_option maxRecDepth 100000 in
theorem writtenOf_one {kd n fl O I : Int} {s st S0 A B A' B' X1 X2 : ByteArray} {a b : Bool} {F : Value} (hone : F.oneCell' = true) (w : World)
    (C1 : ∀ W, Calls Tryz.prog 152 #[.agg #[.string A, .bool a]] W fun e w' => e = .returned (.string A') ∧ Below W.heap.size W w')
    (C2 : ∀ W, Calls Tryz.prog 152 #[.agg #[.string B, .bool b]] W fun e w' => e = .returned (.string B') ∧ Below W.heap.size W w')
    (D1 : ∀ W, (Op.stringOp .add S0 { data := #[32] }).run Tryz.prog W = .ok (.string X1) W) (D2 : ∀ W, (Op.stringOp .add X1 A').run Tryz.prog W = .ok (.string X2) W) :
    Calls Tryz.prog 83 #[.agg #[.int .i64 kd, .int .i64 n, .string s, .string st, .int .i64 fl], .agg #[.string S0, .int .i64 1, .int .u64 O, .int .i64 I, F], .agg #[.string A, .bool a, .string B, .bool b]] w fun e w' => e = .returned (.agg #[.string X2, .bool true]) ∧ Below w.heap.size w w' := by
  have sF : ∀ W a m, (store a F m).run Tryz.prog W = stored Tryz.prog W a F m := fun W a m => run_store Tryz.prog W a F m hone
  have HS := hide (fun W' (hk : Kp [] ((((w.alloc (.cells #[.int .i64 kd, .int .i64 n, .string s, .string st, .int .i64 fl] 89)).alloc (.cells #[.string S0, .int .i64 1, .int .u64 O, .int .i64 I, F] 150)).alloc (.cells #[.string A, .bool a, .string B, .bool b] 229)).alloc (.cells #[.string { data := #[] }, .bool false] 137)) W') => wr_left hk)
  have HC1 := hide C1
  have HC2 := hide C2
  have HX := hide (wr_box (w := w) (kd := kd) (n := n) (fl := fl) (s := s) (st := st) (S0 := S0) (N := 1) (O := O) (I := I) (F := F) (A := A) (a := a) (B := B) (b := b))
  have HW := hide (wr_all (w := w) (kd := kd) (n := n) (fl := fl) (s := s) (st := st) (S0 := S0) (N := 1) (O := O) (I := I) (F := F) (A := A) (a := a) (B := B) (b := b))
  clear C1 C2
  go_enter Tryz.func83, Tryz.ntmps83
  go_wp2
  generalize (((w.alloc (.cells #[.int .i64 kd, .int .i64 n, .string s, .string st, .int .i64 fl] 89)).alloc (.cells #[.string S0, .int .i64 1, .int .u64 O, .int .i64 I, F] 150)).alloc (.cells #[.string A, .bool a, .string B, .bool b] 229)).alloc (.cells #[.string { data := #[] }, .bool false] 137) = W4 at *
  have kW4 : Kp [] W4 W4.drew := Kp.drew _
  have hS := unhide HS _ kW4
  refine wp_region_late (fun W' => W'.cell? ⟨w.heap.size + 1, 0, none⟩ = some (.string S0) ∧ W'.cell? ⟨w.heap.size + 1 + 1, 0, none⟩ = some (.string A) ∧ W'.cell? ⟨w.heap.size + 1 + 1, 1, none⟩ = some (.bool a) ∧ W'.cell? ⟨w.heap.size + 1 + 1, 2, none⟩ = some (.string B) ∧ W'.cell? ⟨w.heap.size + 1 + 1, 3, none⟩ = some (.bool b)) 8 (by kernel_rfl) ?_
  show wpAnyL _ _ _ _ _ _ 9 (Array.replicate 9 false) _ _
  refine wpAnyL_take (i := 0) (oi := { dst := some 16, op := Op.fieldAddr 150 (Operand.tmp 4) 0, type := 0, pos := "write.go:27", after := #[], guard := none }) (v := ?_) rfl (by kernel_rfl) (by kernel_rfl) (by kernel_rfl) (by kernel_rfl) (fun _ _ _ h => h) (Or.inl ⟨by rfl, ?_⟩) hS ?_
  rotate_left 1
  · intro w0 hSw
    (try dsimp only at hSw)
    go_simp
    (try with_reducible rfl)
  try simp only [Act.put, List.setIfInBounds_toArray, List.set_cons_zero, List.set_cons_succ]
  refine wpAnyL_take (i := 1) (oi := { dst := some 17, op := Op.load 9 (Operand.tmp 16), type := 9, pos := "write.go:27", after := #[{ on := 0, ground := Ground.data }], guard := none }) (v := ?_) rfl (by kernel_rfl) (by kernel_rfl) (by kernel_rfl) (by kernel_rfl) (fun _ _ _ h => h) (Or.inl ⟨by rfl, ?_⟩) hS ?_
  rotate_left 1
  · intro w0 hSw
    (try dsimp only at hSw)
    go_simp
    (try with_reducible rfl)
  try simp only [Act.put, List.setIfInBounds_toArray, List.set_cons_zero, List.set_cons_succ]
  refine wpAnyL_take (i := 2) (oi := { dst := some 18, op := Op.binOp BinOp.add 9 (Operand.tmp 17) (Operand.const (Value.string { data := #[32] })) 9, type := 9, pos := "write.go:27", after := #[{ on := 1, ground := Ground.data }], guard := none }) (v := ?_) rfl (by kernel_rfl) (by kernel_rfl) (by kernel_rfl) (by kernel_rfl) (fun _ _ _ h => h) (Or.inl ⟨by rfl, ?_⟩) hS ?_
  rotate_left 1
  · intro w0 hSw
    (try dsimp only at hSw)
    go_simp
    (try with_reducible rfl)
  try simp only [Act.put, List.setIfInBounds_toArray, List.set_cons_zero, List.set_cons_succ]
  refine wpAnyL_take (i := 3) (oi := { dst := some 19, op := Op.indexAddr 229 (Operand.tmp 5) (Operand.const (Value.int IntKind.i64 0)), type := 0, pos := "write.go:27", after := #[], guard := none }) (v := ?_) rfl (by kernel_rfl) (by kernel_rfl) (by kernel_rfl) (by kernel_rfl) (fun _ _ _ h => h) (Or.inl ⟨by rfl, ?_⟩) hS ?_
  rotate_left 1
  · intro w0 hSw
    (try dsimp only at hSw)
    go_simp
    (try with_reducible rfl)
  try simp only [Act.put, List.setIfInBounds_toArray, List.set_cons_zero, List.set_cons_succ]
  refine wpAnyL_take (i := 4) (oi := { dst := some 20, op := Op.load 137 (Operand.tmp 19), type := 137, pos := "write.go:27", after := #[{ on := 3, ground := Ground.data }], guard := none }) (v := ?_) rfl (by kernel_rfl) (by kernel_rfl) (by kernel_rfl) (by kernel_rfl) (fun _ _ _ h => h) (Or.inl ⟨by rfl, ?_⟩) hS ?_
  rotate_left 1
  · intro w0 hSw
    (try dsimp only at hSw)
    go_simp
    (try with_reducible rfl)
  try simp only [Act.put, List.setIfInBounds_toArray, List.set_cons_zero, List.set_cons_succ]
  refine wpAnyL_one (i := 5) (o := { dst := some 21, op := Op.call { callee := Callee.value (Operand.func 152), args := #[Operand.tmp 20], argTypes := #[137] }, type := 9, pos := "write.go:27", after := #[{ on := 4, ground := Ground.data }], guard := none }) rfl (by kernel_rfl) (fun K hK => ?_)
  go_simp
  refine (unhide HC1 _).mono ?_
  rintro e w1 ⟨rfl, hbw1⟩
  dsimp only
  have kw1 : Kp [] W4 w1 := kW4.trans (Kp.ofBelow hbw1) (by simp)
  clear hS
  have hS := unhide HS w1 kw1
  refine hK _ _ (Or.inr hS) ?_
  try simp only [Act.put, List.setIfInBounds_toArray, List.set_cons_zero, List.set_cons_succ]
  refine wpAnyL_take (i := 6) (oi := { dst := some 22, op := Op.binOp BinOp.add 9 (Operand.tmp 18) (Operand.tmp 21) 9, type := 9, pos := "write.go:27", after := #[{ on := 2, ground := Ground.data }, { on := 5, ground := Ground.data }], guard := none }) (v := ?_) rfl (by kernel_rfl) (by kernel_rfl) (by kernel_rfl) (by kernel_rfl) (fun _ _ _ h => h) (Or.inl ⟨by rfl, ?_⟩) hS ?_
  rotate_left 1
  · intro w0 hSw
    (try dsimp only at hSw)
    go_simp
    (try with_reducible rfl)
  try simp only [Act.put, List.setIfInBounds_toArray, List.set_cons_zero, List.set_cons_succ]
  refine wpAnyL_take (i := 7) (oi := { dst := some 23, op := Op.build 137 #[(0, Operand.tmp 22), (1, Operand.const (Value.bool true))], type := 137, pos := "write.go:27", after := #[{ on := 6, ground := Ground.data }], guard := none }) (v := ?_) rfl (by kernel_rfl) (by kernel_rfl) (by kernel_rfl) (by kernel_rfl) (fun _ _ _ h => h) (Or.inl ⟨by rfl, ?_⟩) hS ?_
  rotate_left 1
  · intro w0 hSw
    (try dsimp only at hSw)
    go_simp
    (try with_reducible rfl)
  try simp only [Act.put, List.setIfInBounds_toArray, List.set_cons_zero, List.set_cons_succ]
  have hbx := (unhide HX).kp kw1 (by simp)
  have x0 := hbx.cell (i := 0) (v := .string { data := #[] }) rfl
  have x1 := hbx.cell (i := 1) (v := .bool false) rfl
  have xf := hbx.froz
  refine wpAnyL_one (i := 8) (o := { dst := none, op := Op.store 137 (Operand.tmp 6) (Operand.tmp 23), type := 0, pos := "write.go:27", after := #[{ on := 7, ground := Ground.data }, { on := 5, ground := Ground.chain }, { on := 0, ground := Ground.phase }, { on := 1, ground := Ground.phase }, { on := 2, ground := Ground.phase }, { on := 3, ground := Ground.phase }, { on := 4, ground := Ground.phase }, { on := 5, ground := Ground.phase }, { on := 6, ground := Ground.phase }, { on := 7, ground := Ground.phase }], guard := none }) rfl (by kernel_rfl) (fun K hK => ?_)
  go_simp
  refine hK _ _ (Or.inl rfl) ?_
  refine wpAnyL_done (by kernel_rfl) ?_ _
  have hfin := (hbx.set 0 (.string X2)).set 1 (.bool true)
  have hbl : Below w.heap.size w ((w1.setCell ⟨w.heap.size + 1 + 1 + 1, 0, none⟩ (.string X2)).setCell ⟨w.heap.size + 1 + 1 + 1, 1, none⟩ (.bool true)) := wr_below (unhide HW) kw1 _ _
  clear hS HS HX HW
  go_wp2
  exact bodyPost_ret (results_cell_row Tryz.results83 _ _ (w.heap.size + 1 + 1 + 1) 137 _ (0, 0) _ rfl hfin Tryz.underlying137 rfl info_written) rfl ⟨rfl, hbl⟩
set_option maxHeartbeats 2000000 in
set_option maxRecDepth 100000 in
theorem writtenOf_two {kd n fl O I : Int} {s st S0 A B A' B' X1 X2 X3 X4 : ByteArray} {a b : Bool} {F : Value} (hone : F.oneCell' = true) (w : World)
    (C1 : ∀ W, Calls Tryz.prog 152 #[.agg #[.string A, .bool a]] W fun e w' => e = .returned (.string A') ∧ Below W.heap.size W w')
    (C2 : ∀ W, Calls Tryz.prog 152 #[.agg #[.string B, .bool b]] W fun e w' => e = .returned (.string B') ∧ Below W.heap.size W w')
    (D1 : ∀ W, (Op.stringOp .add A' { data := #[32] }).run Tryz.prog W = .ok (.string X1) W) (D2 : ∀ W, (Op.stringOp .add X1 S0).run Tryz.prog W = .ok (.string X2) W) (D3 : ∀ W, (Op.stringOp .add X2 { data := #[32] }).run Tryz.prog W = .ok (.string X3) W) (D4 : ∀ W, (Op.stringOp .add X3 B').run Tryz.prog W = .ok (.string X4) W) :
    Calls Tryz.prog 83 #[.agg #[.int .i64 kd, .int .i64 n, .string s, .string st, .int .i64 fl], .agg #[.string S0, .int .i64 2, .int .u64 O, .int .i64 I, F], .agg #[.string A, .bool a, .string B, .bool b]] w fun e w' => e = .returned (.agg #[.string X4, .bool true]) ∧ Below w.heap.size w w' := by
  have sF : ∀ W a m, (store a F m).run Tryz.prog W = stored Tryz.prog W a F m := fun W a m => run_store Tryz.prog W a F m hone
  have HS := hide (fun W' (hk : Kp [] ((((w.alloc (.cells #[.int .i64 kd, .int .i64 n, .string s, .string st, .int .i64 fl] 89)).alloc (.cells #[.string S0, .int .i64 2, .int .u64 O, .int .i64 I, F] 150)).alloc (.cells #[.string A, .bool a, .string B, .bool b] 229)).alloc (.cells #[.string { data := #[] }, .bool false] 137)) W') => wr_left hk)
  have HC1 := hide C1
  have HC2 := hide C2
  have HX := hide (wr_box (w := w) (kd := kd) (n := n) (fl := fl) (s := s) (st := st) (S0 := S0) (N := 2) (O := O) (I := I) (F := F) (A := A) (a := a) (B := B) (b := b))
  have HW := hide (wr_all (w := w) (kd := kd) (n := n) (fl := fl) (s := s) (st := st) (S0 := S0) (N := 2) (O := O) (I := I) (F := F) (A := A) (a := a) (B := B) (b := b))
  clear C1 C2
  go_enter Tryz.func83, Tryz.ntmps83
  go_wp2
  generalize (((w.alloc (.cells #[.int .i64 kd, .int .i64 n, .string s, .string st, .int .i64 fl] 89)).alloc (.cells #[.string S0, .int .i64 2, .int .u64 O, .int .i64 I, F] 150)).alloc (.cells #[.string A, .bool a, .string B, .bool b] 229)).alloc (.cells #[.string { data := #[] }, .bool false] 137) = W4 at *
  have kW4 : Kp [] W4 W4.drew := Kp.drew _
  have hS := unhide HS _ kW4
  refine wp_region_late (fun W' => W'.cell? ⟨w.heap.size + 1, 0, none⟩ = some (.string S0) ∧ W'.cell? ⟨w.heap.size + 1 + 1, 0, none⟩ = some (.string A) ∧ W'.cell? ⟨w.heap.size + 1 + 1, 1, none⟩ = some (.bool a) ∧ W'.cell? ⟨w.heap.size + 1 + 1, 2, none⟩ = some (.string B) ∧ W'.cell? ⟨w.heap.size + 1 + 1, 3, none⟩ = some (.bool b)) 13 (by kernel_rfl) ?_
  show wpAnyL _ _ _ _ _ _ 14 (Array.replicate 14 false) _ _
  refine wpAnyL_take (i := 0) (oi := { dst := some 24, op := Op.indexAddr 229 (Operand.tmp 5) (Operand.const (Value.int IntKind.i64 0)), type := 0, pos := "write.go:29", after := #[], guard := none }) (v := ?_) rfl (by kernel_rfl) (by kernel_rfl) (by kernel_rfl) (by kernel_rfl) (fun _ _ _ h => h) (Or.inl ⟨by rfl, ?_⟩) hS ?_
  rotate_left 1
  · intro w0 hSw
    (try dsimp only at hSw)
    go_simp
    (try with_reducible rfl)
  try simp only [Act.put, List.setIfInBounds_toArray, List.set_cons_zero, List.set_cons_succ]
  refine wpAnyL_take (i := 1) (oi := { dst := some 25, op := Op.load 137 (Operand.tmp 24), type := 137, pos := "write.go:29", after := #[{ on := 0, ground := Ground.data }], guard := none }) (v := ?_) rfl (by kernel_rfl) (by kernel_rfl) (by kernel_rfl) (by kernel_rfl) (fun _ _ _ h => h) (Or.inl ⟨by rfl, ?_⟩) hS ?_
  rotate_left 1
  · intro w0 hSw
    (try dsimp only at hSw)
    go_simp
    (try with_reducible rfl)
  try simp only [Act.put, List.setIfInBounds_toArray, List.set_cons_zero, List.set_cons_succ]
  refine wpAnyL_take (i := 4) (oi := { dst := some 28, op := Op.fieldAddr 150 (Operand.tmp 4) 0, type := 0, pos := "write.go:29", after := #[], guard := none }) (v := ?_) rfl (by kernel_rfl) (by kernel_rfl) (by kernel_rfl) (by kernel_rfl) (fun _ _ _ h => h) (Or.inl ⟨by rfl, ?_⟩) hS ?_
  rotate_left 1
  · intro w0 hSw
    (try dsimp only at hSw)
    go_simp
    (try with_reducible rfl)
  try simp only [Act.put, List.setIfInBounds_toArray, List.set_cons_zero, List.set_cons_succ]
  refine wpAnyL_take (i := 5) (oi := { dst := some 29, op := Op.load 9 (Operand.tmp 28), type := 9, pos := "write.go:29", after := #[{ on := 4, ground := Ground.data }], guard := none }) (v := ?_) rfl (by kernel_rfl) (by kernel_rfl) (by kernel_rfl) (by kernel_rfl) (fun _ _ _ h => h) (Or.inl ⟨by rfl, ?_⟩) hS ?_
  rotate_left 1
  · intro w0 hSw
    (try dsimp only at hSw)
    go_simp
    (try with_reducible rfl)
  try simp only [Act.put, List.setIfInBounds_toArray, List.set_cons_zero, List.set_cons_succ]
  refine wpAnyL_take (i := 8) (oi := { dst := some 32, op := Op.indexAddr 229 (Operand.tmp 5) (Operand.const (Value.int IntKind.i64 1)), type := 0, pos := "write.go:29", after := #[], guard := none }) (v := ?_) rfl (by kernel_rfl) (by kernel_rfl) (by kernel_rfl) (by kernel_rfl) (fun _ _ _ h => h) (Or.inl ⟨by rfl, ?_⟩) hS ?_
  rotate_left 1
  · intro w0 hSw
    (try dsimp only at hSw)
    go_simp
    (try with_reducible rfl)
  try simp only [Act.put, List.setIfInBounds_toArray, List.set_cons_zero, List.set_cons_succ]
  refine wpAnyL_take (i := 9) (oi := { dst := some 33, op := Op.load 137 (Operand.tmp 32), type := 137, pos := "write.go:29", after := #[{ on := 8, ground := Ground.data }], guard := none }) (v := ?_) rfl (by kernel_rfl) (by kernel_rfl) (by kernel_rfl) (by kernel_rfl) (fun _ _ _ h => h) (Or.inl ⟨by rfl, ?_⟩) hS ?_
  rotate_left 1
  · intro w0 hSw
    (try dsimp only at hSw)
    go_simp
    (try with_reducible rfl)
  try simp only [Act.put, List.setIfInBounds_toArray, List.set_cons_zero, List.set_cons_succ]
  refine wpAnyL_one (i := 2) (o := { dst := some 26, op := Op.call { callee := Callee.value (Operand.func 152), args := #[Operand.tmp 25], argTypes := #[137] }, type := 9, pos := "write.go:29", after := #[{ on := 1, ground := Ground.data }], guard := none }) rfl (by kernel_rfl) (fun K hK => ?_)
  go_simp
  refine (unhide HC1 _).mono ?_
  rintro e w1 ⟨rfl, hbw1⟩
  dsimp only
  have kw1 : Kp [] W4 w1 := kW4.trans (Kp.ofBelow hbw1) (by simp)
  clear hS
  have hS := unhide HS w1 kw1
  refine hK _ _ (Or.inr hS) ?_
  try simp only [Act.put, List.setIfInBounds_toArray, List.set_cons_zero, List.set_cons_succ]
  refine wpAnyL_take (i := 3) (oi := { dst := some 27, op := Op.binOp BinOp.add 9 (Operand.tmp 26) (Operand.const (Value.string { data := #[32] })) 9, type := 9, pos := "write.go:29", after := #[{ on := 2, ground := Ground.data }], guard := none }) (v := ?_) rfl (by kernel_rfl) (by kernel_rfl) (by kernel_rfl) (by kernel_rfl) (fun _ _ _ h => h) (Or.inl ⟨by rfl, ?_⟩) hS ?_
  rotate_left 1
  · intro w0 hSw
    (try dsimp only at hSw)
    go_simp
    (try with_reducible rfl)
  try simp only [Act.put, List.setIfInBounds_toArray, List.set_cons_zero, List.set_cons_succ]
  refine wpAnyL_take (i := 6) (oi := { dst := some 30, op := Op.binOp BinOp.add 9 (Operand.tmp 27) (Operand.tmp 29) 9, type := 9, pos := "write.go:29", after := #[{ on := 3, ground := Ground.data }, { on := 5, ground := Ground.data }], guard := none }) (v := ?_) rfl (by kernel_rfl) (by kernel_rfl) (by kernel_rfl) (by kernel_rfl) (fun _ _ _ h => h) (Or.inl ⟨by rfl, ?_⟩) hS ?_
  rotate_left 1
  · intro w0 hSw
    (try dsimp only at hSw)
    go_simp
    (try with_reducible rfl)
  try simp only [Act.put, List.setIfInBounds_toArray, List.set_cons_zero, List.set_cons_succ]
  refine wpAnyL_take (i := 7) (oi := { dst := some 31, op := Op.binOp BinOp.add 9 (Operand.tmp 30) (Operand.const (Value.string { data := #[32] })) 9, type := 9, pos := "write.go:29", after := #[{ on := 6, ground := Ground.data }], guard := none }) (v := ?_) rfl (by kernel_rfl) (by kernel_rfl) (by kernel_rfl) (by kernel_rfl) (fun _ _ _ h => h) (Or.inl ⟨by rfl, ?_⟩) hS ?_
  rotate_left 1
  · intro w0 hSw
    (try dsimp only at hSw)
    go_simp
    (try with_reducible rfl)
  try simp only [Act.put, List.setIfInBounds_toArray, List.set_cons_zero, List.set_cons_succ]
  refine wpAnyL_one (i := 10) (o := { dst := some 34, op := Op.call { callee := Callee.value (Operand.func 152), args := #[Operand.tmp 33], argTypes := #[137] }, type := 9, pos := "write.go:29", after := #[{ on := 9, ground := Ground.data }, { on := 2, ground := Ground.chain }], guard := none }) rfl (by kernel_rfl) (fun K hK => ?_)
  go_simp
  refine (unhide HC2 _).mono ?_
  rintro e w2 ⟨rfl, hbw2⟩
  dsimp only
  have kw2 : Kp [] W4 w2 := kw1.trans (Kp.ofBelow hbw2) (by simp)
  clear hS
  have hS := unhide HS w2 kw2
  refine hK _ _ (Or.inr hS) ?_
  try simp only [Act.put, List.setIfInBounds_toArray, List.set_cons_zero, List.set_cons_succ]
  refine wpAnyL_take (i := 11) (oi := { dst := some 35, op := Op.binOp BinOp.add 9 (Operand.tmp 31) (Operand.tmp 34) 9, type := 9, pos := "write.go:29", after := #[{ on := 7, ground := Ground.data }, { on := 10, ground := Ground.data }], guard := none }) (v := ?_) rfl (by kernel_rfl) (by kernel_rfl) (by kernel_rfl) (by kernel_rfl) (fun _ _ _ h => h) (Or.inl ⟨by rfl, ?_⟩) hS ?_
  rotate_left 1
  · intro w0 hSw
    (try dsimp only at hSw)
    go_simp
    (try with_reducible rfl)
  try simp only [Act.put, List.setIfInBounds_toArray, List.set_cons_zero, List.set_cons_succ]
  refine wpAnyL_take (i := 12) (oi := { dst := some 36, op := Op.build 137 #[(0, Operand.tmp 35), (1, Operand.const (Value.bool true))], type := 137, pos := "write.go:29", after := #[{ on := 11, ground := Ground.data }], guard := none }) (v := ?_) rfl (by kernel_rfl) (by kernel_rfl) (by kernel_rfl) (by kernel_rfl) (fun _ _ _ h => h) (Or.inl ⟨by rfl, ?_⟩) hS ?_
  rotate_left 1
  · intro w0 hSw
    (try dsimp only at hSw)
    go_simp
    (try with_reducible rfl)
  try simp only [Act.put, List.setIfInBounds_toArray, List.set_cons_zero, List.set_cons_succ]
  have hbx := (unhide HX).kp kw2 (by simp)
  have x0 := hbx.cell (i := 0) (v := .string { data := #[] }) rfl
  have x1 := hbx.cell (i := 1) (v := .bool false) rfl
  have xf := hbx.froz
  refine wpAnyL_one (i := 13) (o := { dst := none, op := Op.store 137 (Operand.tmp 6) (Operand.tmp 36), type := 0, pos := "write.go:29", after := #[{ on := 12, ground := Ground.data }, { on := 10, ground := Ground.chain }, { on := 0, ground := Ground.phase }, { on := 1, ground := Ground.phase }, { on := 2, ground := Ground.phase }, { on := 3, ground := Ground.phase }, { on := 4, ground := Ground.phase }, { on := 5, ground := Ground.phase }, { on := 6, ground := Ground.phase }, { on := 7, ground := Ground.phase }, { on := 8, ground := Ground.phase }, { on := 9, ground := Ground.phase }, { on := 10, ground := Ground.phase }, { on := 11, ground := Ground.phase }, { on := 12, ground := Ground.phase }], guard := none }) rfl (by kernel_rfl) (fun K hK => ?_)
  go_simp
  refine hK _ _ (Or.inl rfl) ?_
  refine wpAnyL_done (by kernel_rfl) ?_ _
  have hfin := (hbx.set 0 (.string X4)).set 1 (.bool true)
  have hbl : Below w.heap.size w ((w2.setCell ⟨w.heap.size + 1 + 1 + 1, 0, none⟩ (.string X4)).setCell ⟨w.heap.size + 1 + 1 + 1, 1, none⟩ (.bool true)) := wr_below (unhide HW) kw2 _ _
  clear hS HS HX HW
  go_wp2
  exact bodyPost_ret (results_cell_row Tryz.results83 _ _ (w.heap.size + 1 + 1 + 1) 137 _ (0, 0) _ rfl hfin Tryz.underlying137 rfl info_written) rfl ⟨rfl, hbl⟩
end Go.Proofs.YtogklmljllocbabGreatDoor
