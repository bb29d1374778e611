/-
  The reader takes a part (made by wip/mkrd.py).
  The reader takes an operation of a level.
  The reader: what is left is an end of what there was; a field.
-/
import Derived.Test.YtogklmljllocbabGreatDoorF27
namespace Go.Proofs.YtogklmljllocbabGreatDoor
open Go.RowKit Go.Shelf
attribute [local irreducible] opsV

/-- The reader with other parts. -/
theorem Rd.parts {gr : Nat} {lv tk : Value} {l : List Tk} {k d : Nat} {ps ps' : List Pt} {W W' : World} {pv pv' : Value} (h : Rd gr lv tk l k d ps W) (hb : CBox gr (rdC lv tk k d pv) 226 W') (hbl : Below gr W W') (ho : W'.ownsRow (gr + 1) 89 5 pv' ps'.length (ps'.flatMap ptE)) : Rd gr lv tk l k d ps' (W'.setCell ⟨gr, 74, none⟩ pv') := by
  have c := hb.set 74 pv'
  rw [rdC_p] at c
  have hlt := (Array.getElem?_eq_some_iff.1 hb).1
  exact ⟨(h.env.below hbl).below ((Kp.set W' gr 74 _).below (by omega) (by simp)), pv', c, row_kp ho (Kp.set _ _ _ _) (fun g hg => by have := (ho.lt g hg).1; simp; omega)⟩
set_option maxHeartbeats 2000000 in
set_option maxRecDepth 100000 in
theorem take_any {gr : Nat} {lv tk : Value} {l : List Tk} {k d : Nat} {ps : List Pt} {W : World} (h : Rd gr lv tk l k d ps W) (p : Pt) (hk : k ≤ 100000) (hps : ps.length ≤ 1000000) :
    Calls Tryz.prog 221 #[.pointer (some ⟨gr, 0, none⟩), p.v] W fun e w' => e = .returned (.bool true) ∧ Rd gr lv tk l (k + 1) d (ps ++ [p]) w' ∧ Below gr W w' := by
  obtain ⟨pv, hb, ho⟩ := h.box
  have hgl := (Array.getElem?_eq_some_iff.1 hb).1
  have HR := hide h
  obtain ⟨kd, n, s, st, fl⟩ := p
  unfold Pt.v
  dsimp only
  obtain ⟨W1, hW1⟩ : ∃ W1, W1 = W.alloc (.cells #[.int .i64 kd, .int .i64 n, .string s, .string st, .int .i64 fl] 89) := ⟨_, rfl⟩
  have k1 : Kp [] W W1 := by rw [hW1]; exact Kp.alloc _ _
  have hbx : CBox W.heap.size #[.int .i64 kd, .int .i64 n, .string s, .string st, .int .i64 fl] 89 W1 := by rw [hW1]; exact CBox.new _ _ _
  have hsW1 : W1.heap.size = W.heap.size + 1 := by rw [hW1]; simp
  have hdis : gr ∉ pv.ownBlock.toList ∧ W.heap.size ∉ pv.ownBlock.toList := ⟨fun hx => by have := (ho.lt gr (by simpa using hx)).1; omega, fun hx => by have := (ho.lt _ (by simpa using hx)).2; omega⟩
  have HS : Hid (∀ W', Kp pv.ownBlock.toList W1 W' → W'.cell? ⟨gr, 74, none⟩ = some pv ∧ W'.cell? ⟨W.heap.size, 0, none⟩ = some (.int .i64 kd) ∧ W'.cell? ⟨W.heap.size, 1, none⟩ = some (.int .i64 n) ∧ W'.cell? ⟨W.heap.size, 2, none⟩ = some (.string s) ∧ W'.cell? ⟨W.heap.size, 3, none⟩ = some (.string st) ∧ W'.cell? ⟨W.heap.size, 4, none⟩ = some (.int .i64 fl)) := hide (fun W' hk' => by
    have c1 := (hb.kp k1 (by simp)).kp hk' hdis.1
    have c2 := hbx.kp hk' hdis.2
    exact ⟨c1.cell (rdC_74 lv tk k d pv), c2.cell rfl, c2.cell rfl, c2.cell rfl, c2.cell rfl, c2.cell rfl⟩)
  have HO := hide (row_kp ho k1 (by simp))
  have HB := hide (hb.kp k1 (by simp))
  have HK1 := hide k1
  obtain ⟨i0, hi0, hz0, hzs, hzb⟩ := zero_part
  have hne : ∀ g, pv.ownBlock = some g → gr + 1 ≤ g := fun g hg => (ho.lt g hg).1
  have HNE := hide hne
  clear h hb ho k1 hbx hne hdis
  go_enter Tryz.func221, Tryz.ntmps221
  go_wp2
  rw [← hW1]
  clear hW1
  have hS := unhide HS W1.drew ((Kp.drew _).mono (by simp))
  refine wp_region_late (fun W' => W'.cell? ⟨gr, 74, none⟩ = some pv ∧ W'.cell? ⟨W.heap.size, 0, none⟩ = some (.int .i64 kd) ∧ W'.cell? ⟨W.heap.size, 1, none⟩ = some (.int .i64 n) ∧ W'.cell? ⟨W.heap.size, 2, none⟩ = some (.string s) ∧ W'.cell? ⟨W.heap.size, 3, none⟩ = some (.string st) ∧ W'.cell? ⟨W.heap.size, 4, none⟩ = some (.int .i64 fl)) 10 (by kernel_rfl) ?_
  show wpAnyL _ _ _ _ _ _ 11 (Array.replicate 11 false) _ _
  refine wpAnyL_take (i := 0) (oi := { dst := some 5, op := Op.move (Operand.tmp 0), type := 271, pos := "read.go:154", after := #[], guard := none }) (v := ?_) rfl (by kernel_rfl) (by kernel_rfl) (by kernel_rfl) (by kernel_rfl) (fun _ _ _ h => h) (Or.inl ⟨by rfl, ?_⟩) hS ?_
  rotate_left 1
  · intro w0 hSw
    (try dsimp only at hSw)
    go_simp
    (try with_reducible rfl)
  try simp only [Act.put, List.setIfInBounds_toArray, List.set_cons_zero, List.set_cons_succ]
  refine wpAnyL_take (i := 1) (oi := { dst := some 6, op := Op.move (Operand.tmp 0), type := 271, pos := "read.go:154", after := #[], guard := none }) (v := ?_) rfl (by kernel_rfl) (by kernel_rfl) (by kernel_rfl) (by kernel_rfl) (fun _ _ _ h => h) (Or.inl ⟨by rfl, ?_⟩) hS ?_
  rotate_left 1
  · intro w0 hSw
    (try dsimp only at hSw)
    go_simp
    (try with_reducible rfl)
  try simp only [Act.put, List.setIfInBounds_toArray, List.set_cons_zero, List.set_cons_succ]
  refine wpAnyL_take (i := 2) (oi := { dst := some 7, op := Op.nilCheck (Operand.tmp 6), type := 0, pos := "read.go:154", after := #[{ on := 1, ground := Ground.data }], guard := none }) (v := ?_) rfl (by kernel_rfl) (by kernel_rfl) (by kernel_rfl) (by kernel_rfl) (fun _ _ _ h => h) (Or.inl ⟨by rfl, ?_⟩) hS ?_
  rotate_left 1
  · intro w0 hSw
    (try dsimp only at hSw)
    go_simp
    (try with_reducible rfl)
  try simp only [Act.put, List.setIfInBounds_toArray, List.set_cons_zero, List.set_cons_succ]
  refine wpAnyL_take (i := 3) (oi := { dst := some 8, op := Op.fieldAddr 226 (Operand.tmp 7) 5, type := 0, pos := "read.go:154", after := #[{ on := 2, ground := Ground.data }], guard := none }) (v := ?_) rfl (by kernel_rfl) (by kernel_rfl) (by kernel_rfl) (by kernel_rfl) (fun _ _ _ h => h) (Or.inl ⟨by rfl, ?_⟩) hS ?_
  rotate_left 1
  · intro w0 hSw
    (try dsimp only at hSw)
    go_simp
    (try with_reducible rfl)
  try simp only [Act.put, List.setIfInBounds_toArray, List.set_cons_zero, List.set_cons_succ]
  refine wpAnyL_take (i := 4) (oi := { dst := some 9, op := Op.load 31 (Operand.tmp 8), type := 31, pos := "read.go:154", after := #[{ on := 3, ground := Ground.data }], guard := none }) (v := ?_) rfl (by kernel_rfl) (by kernel_rfl) (by kernel_rfl) (by kernel_rfl) (fun _ _ _ h => h) (Or.inl ⟨by rfl, ?_⟩) hS ?_
  rotate_left 1
  · intro w0 hSw
    (try dsimp only at hSw)
    go_simp
    (try with_reducible rfl)
  try simp only [Act.put, List.setIfInBounds_toArray, List.set_cons_zero, List.set_cons_succ]
  refine wpAnyL_take (i := 5) (oi := { dst := some 10, op := Op.load 89 (Operand.tmp 3), type := 89, pos := "read.go:154", after := #[], guard := none }) (v := ?_) rfl (by kernel_rfl) (by kernel_rfl) (by kernel_rfl) (by kernel_rfl) (fun _ _ _ h => h) (Or.inl ⟨by rfl, ?_⟩) hS ?_
  rotate_left 1
  · intro w0 hSw
    (try dsimp only at hSw)
    go_simp
    (try with_reducible rfl)
  try simp only [Act.put, List.setIfInBounds_toArray, List.set_cons_zero, List.set_cons_succ]
  refine wpAnyL_one (i := 6) (o := { dst := some 11, op := Op.buildSlice 31 1 #[(0, Operand.tmp 10)], type := 31, pos := "read.go:154", after := #[{ on := 5, ground := Ground.data }], guard := none }) rfl (by kernel_rfl) (fun K hK => ?_)
  go_simp
  have k2 : Kp [] W1 (W1.alloc (.cells #[.int .i64 kd, .int .i64 n, .string s, .string st, .int .i64 fl] 89)).drew := (Kp.alloc _ _).trans (Kp.drew _) (by simp)
  have hn2 : CBox W1.heap.size #[.int .i64 kd, .int .i64 n, .string s, .string st, .int .i64 fl] 89 (W1.alloc (.cells #[.int .i64 kd, .int .i64 n, .string s, .string st, .int .i64 fl] 89)).drew := CBox.new W1 _ _
  rw [hsW1] at hn2
  have hown := row_kp (unhide HO) k2 (by simp)
  have hsz2 : gr + 1 ≤ (W1.alloc (.cells #[.int .i64 kd, .int .i64 n, .string s, .string st, .int .i64 fl] 89)).drew.heap.size := by have := k2.size; omega
  clear hS
  have hS := unhide HS _ (k2.mono (by simp))
  refine hK _ _ (Or.inr hS) ?_
  try simp only [Act.put, List.setIfInBounds_toArray, List.set_cons_zero, List.set_cons_succ]
  generalize (W1.alloc (.cells #[.int .i64 kd, .int .i64 n, .string s, .string st, .int .i64 fl] 89)).drew = W2 at *
  refine wpAnyL_one (i := 7) (o := { dst := some 12, op := Op.call { callee := Callee.builtin Builtin.append, args := #[Operand.tmp 9, Operand.tmp 11], argTypes := #[31, 31] }, type := 31, pos := "read.go:154", after := #[{ on := 4, ground := Ground.data }, { on := 6, ground := Ground.data }], guard := none }) rfl (by kernel_rfl) (fun K hK => ?_)
  refine step_append_lies rfl (.tmp 9) (.tmp 11) 31 rfl (gr + 1) 89 i0 _ 5 56 Tryz.underlying31 hi0 hz0 hzs hzb rfl (by decide) pv ps.length _ rfl hown ⟨W.heap.size + 1, 0, none⟩ 1 1 [.int .i64 kd, .int .i64 n, .string s, .string st, .int .i64 fl] rfl rfl (fun j u hj => by
    rw [Addr.add_lit]
    exact hn2.cell (i := 0 + j) (by rw [Nat.zero_add]; simpa using hj)) (by simp [Value.oneCell']) (by decide) (by unfold maxLen; omega) (by omega) hsz2 ?_
  rintro g5 cap5 w5 hw5 hgr hg5
  have hne := unhide HNE
  have k5 : Kp pv.ownBlock.toList W1 w5 := (k2.mono (by simp)).trans (Kp.of hgr) (fun x hx => Or.inl hx)
  have hlow : ∀ x ∈ pv.ownBlock.toList, gr + 1 ≤ x := fun x hx => hne x (by simpa using hx)
  have hb5 := (unhide HB).kp k5 (fun hx => by have := hlow _ hx; omega)
  have hbl5 : Below gr W w5 := ((unhide HK1).below (by omega) (by simp)).trans (k5.below (by omega) (fun x hx => by have := hlow x hx; omega))
  have HR6 := hide (Rd.parts (pv' := .slice (some ⟨g5, 0, none⟩) (ps.length + 1) cap5) (ps' := ps ++ [⟨kd, n, s, st, fl⟩]) (unhide HR) hb5 hbl5 (by rw [List.length_append, List.flatMap_append]; exact hw5))
  have HB6 := hide (hbl5.setCell (p := ⟨gr, 74, none⟩) (Nat.le_refl _) (.slice (some ⟨g5, 0, none⟩) (ps.length + 1) cap5))
  have c74 := hb5.cell (rdC_74 lv tk k d pv)
  have f74 := hb5.froz
  clear hS
  have hS := unhide HS _ k5
  refine hK _ _ (Or.inr hS) ?_
  try simp only [Act.put, List.setIfInBounds_toArray, List.set_cons_zero, List.set_cons_succ]
  refine wpAnyL_one (i := 8) (o := { dst := some 13, op := Op.nilCheck (Operand.tmp 5), type := 0, pos := "read.go:154", after := #[{ on := 0, ground := Ground.data }, { on := 0, ground := Ground.phase }, { on := 1, ground := Ground.phase }, { on := 2, ground := Ground.phase }, { on := 3, ground := Ground.phase }, { on := 4, ground := Ground.phase }, { on := 5, ground := Ground.phase }, { on := 6, ground := Ground.phase }, { on := 7, ground := Ground.phase }], guard := none }) rfl (by kernel_rfl) (fun K hK => ?_)
  go_simp
  refine hK _ _ (Or.inr hS) ?_
  try simp only [Act.put, List.setIfInBounds_toArray, List.set_cons_zero, List.set_cons_succ]
  refine wpAnyL_one (i := 9) (o := { dst := some 14, op := Op.fieldAddr 226 (Operand.tmp 13) 5, type := 0, pos := "read.go:154", after := #[{ on := 8, ground := Ground.data }, { on := 0, ground := Ground.phase }, { on := 1, ground := Ground.phase }, { on := 2, ground := Ground.phase }, { on := 3, ground := Ground.phase }, { on := 4, ground := Ground.phase }, { on := 5, ground := Ground.phase }, { on := 6, ground := Ground.phase }, { on := 7, ground := Ground.phase }], guard := none }) rfl (by kernel_rfl) (fun K hK => ?_)
  go_simp
  refine hK _ _ (Or.inr hS) ?_
  try simp only [Act.put, List.setIfInBounds_toArray, List.set_cons_zero, List.set_cons_succ]
  refine wpAnyL_one (i := 10) (o := { dst := none, op := Op.store 31 (Operand.tmp 14) (Operand.tmp 12), type := 0, pos := "read.go:154", after := #[{ on := 9, ground := Ground.data }, { on := 7, ground := Ground.data }, { on := 7, ground := Ground.chain }, { on := 0, ground := Ground.phase }, { on := 1, ground := Ground.phase }, { on := 2, ground := Ground.phase }, { on := 3, ground := Ground.phase }, { on := 4, ground := Ground.phase }, { on := 5, ground := Ground.phase }, { on := 6, ground := Ground.phase }, { on := 7, ground := Ground.phase }], guard := none }) rfl (by kernel_rfl) (fun K hK => ?_)
  go_simp
  refine hK _ _ (Or.inl rfl) ?_
  refine wpAnyL_done (by kernel_rfl) ?_ _
  obtain ⟨c72, _, f72, _⟩ := (unhide HR6).cells
  clear hS c74 f74 hb5 hbl5 hw5 hgr hg5 hown hn2 k5 k2 hlow hne
  generalize w5.setCell ⟨gr, 74, none⟩ (.slice (some ⟨g5, 0, none⟩) (ps.length + 1) cap5) = W6 at *
  go_wp2
  exact bodyPost_ret (results_tmp rfl _ _ _) rfl ⟨rfl, (unhide HR6).next, (unhide HB6).setCell (p := ⟨gr, 72, none⟩) (Nat.le_refl _) _⟩
end Go.Proofs.YtogklmljllocbabGreatDoor
namespace Go.Proofs.YtogklmljllocbabGreatDoor
open Go.RowKit Go.Shelf
attribute [local irreducible] opsV

theorem lvO_range {n : Nat} {k : Int} (h : k ∈ lvO n) : 4 ≤ k ∧ k ≤ 13 := by
  unfold lvO at h
  repeat' split at h
  all_goals simp at h
  all_goals omega
theorem lvO_len (n : Nat) : (lvO n).length ≤ 4 := by
  unfold lvO
  repeat' split
  all_goals simp
theorem rd_sign {lv tk pv : Value} {k d : Nat} {kd : Nat} (h : kd < 14) : (rdC lv tk k d pv)[1 + kd * 5]? = some (.string (txt (sgO (kd : Int)))) := by
  rw [rdC_op _ _ _ _ _ _ (by omega)]
  exact (opsV_row ⟨kd, h⟩).1
theorem opA_none {n j : Nat} {s : List UInt8} (hj : j = (lvO n).length) (h : ∀ x ∈ (lvO n).take j, s ≠ sgO x) : opA n s = none := by
  unfold opA
  rw [List.find?_eq_none]
  intro x hx
  rw [hj, List.take_length] at h
  simpa using h x hx
theorem opA_hit {n j : Nat} {s : List UInt8} (hj : j < (lvO n).length) (h : ∀ x ∈ (lvO n).take j, s ≠ sgO x) (he : s = sgO ((lvO n)[j])) : opA n s = some ((lvO n)[j]) := by
  unfold opA
  generalize lvO n = L at *
  induction L generalizing j with
  | nil => simp at hj
  | cons a r ih =>
    cases j with
    | zero => rw [List.find?_cons_of_pos (by simpa using he)]; rfl
    | succ j =>
      have ha := h a (by simp)
      rw [List.find?_cons_of_neg (by simpa using ha)]
      exact ih (by simpa using hj) (fun x hx => h x (by simp [hx])) (by simpa using he)
/-- What taking an operation leaves. -/
def TkO (gr : Nat) (lv tk : Value) (l : List Tk) (k d : Nat) (ps : List Pt) (fr : Nat) (W : World) (o : Option Int) (e : Ending) (w' : World) : Prop := match o with
  | some kk => e = .returned (.bool true) ∧ Rd gr lv tk l (k + 1) d (ps.take fr ++ opP kk :: ps.drop fr) w' ∧ Below gr W w'
  | none => e = .returned (.bool false) ∧ Rd gr lv tk l k d ps w' ∧ Below gr W w'
set_option maxHeartbeats 4000000 in
set_option maxRecDepth 100000 in
theorem takeOp_any {gr : Nat} {lv tk : Value} {l : List Tk} {k d : Nat} {ps : List Pt} {W : World} (h : Rd gr lv tk l k d ps W) {t : Tk} {r : List Tk} (ht : l.drop k = t :: r) (n : Nat) (hn : n < 6) (fr : Nat) (hf : fr ≤ ps.length) (hps : ps.length ≤ 1000000) :
    Calls Tryz.prog 219 #[.pointer (some ⟨gr, 0, none⟩), .int .i64 (n : Int), .int .i64 (fr : Int)] W (TkO gr lv tk l k d ps fr W (opA n (wdT t))) := by
  obtain ⟨pv, hb, _⟩ := h.box
  have c0 := hb.cell (rdC_0 lv tk k d pv)
  have HR := hide h
  have HT := hide ht
  have HLV := hide (fun W' (hb : Below gr W W') => h.env.lvs.below hb)
  obtain ⟨gl, hlv, hgl, hc⟩ := h.env.lvs
  obtain ⟨_, ov, c1, hov⟩ := hc n (by omega)
  obtain ⟨he, _⟩ | ⟨go, rfl, hgo, hco⟩ := hov
  · exfalso
    unfold lvO at he
    repeat' split at he
    all_goals simp at he
    omega
  have HCO := hide (fun W' (hb : Below gr W W') (i : Nat) (hi : i < (lvO n).length) => (hb.cell (p := ⟨go, i, none⟩) hgo).trans (hco i hi))
  have hlen := lvO_len n
  rw [hlv] at c0
  have HLT := hide hlv
  obtain ⟨L, hL⟩ : ∃ L, (lvO n).length = L := ⟨_, rfl⟩
  rw [hL] at c1 hlen
  have HL := hide hL
  clear h ht hb hc hco hlv hL HLV
  go_enter Tryz.func219, Tryz.ntmps219
  go_wp2
  go_loopw [18] (fun i wr => ∃ j : Nat, j ≤ L ∧ i = .int .i64 (j : Int) ∧ Hid (Rd gr lv tk l k d ps wr ∧ Below gr W wr ∧ ∀ x ∈ (lvO n).take j, wdT t ≠ sgO x)) (fun i _ => L - (intOf i).toNat)
  case atStart => exact ⟨0, Nat.zero_le _, rfl, hide ⟨unhide HR, Below.refl _ _, by simp⟩⟩
  case round =>
    obtain ⟨j, hj, rfl, HI⟩ := hrel
    by_cases hjL : j < L
    · have hjl : j < (lvO n).length := by rw [unhide HL]; exact hjL
      have cj := unhide HCO wr (unhide HI).2.1 j hjl
      have hrg := lvO_range (List.getElem_mem hjl)
      have HHIT := hide (opA_hit hjl (unhide HI).2.2)
      have HMISS : Hid (wdT t ≠ sgO ((lvO n)[j]) → ∀ x ∈ (lvO n).take (j + 1), wdT t ≠ sgO x) := hide (fun hne x hx => by
        rw [List.take_succ_eq_append_getElem hjl] at hx
        rcases List.mem_append.1 hx with hx | hx
        · exact (unhide HI).2.2 x hx
        · rw [List.mem_singleton.1 hx]; exact hne)
      generalize (lvO n)[j] = kk at *
      obtain ⟨q, rfl⟩ : ∃ q : Nat, kk = q := ⟨kk.toNat, by omega⟩
      have hq : q < 14 := by omega
      obtain ⟨pw, hbw, how⟩ := (unhide HI).1.box
      have cs := hbw.cell (rd_sign (lv := lv) (tk := tk) (k := k) (d := d) (pv := pw) hq)
      have SK := hide (skip_any (unhide HI).1 (unhide HT) (txt (sgO (q : Int))))
      rw [txt_list] at SK
      clear hbw how HCO
      generalize txt (sgO (q : Int)) = SG at *
      by_cases he : wdT t = sgO (q : Int)
      · rw [if_pos he, decide_eq_true he] at SK
        have HOP : Hid (opA n (wdT t) = some (q : Int)) := hide (unhide HHIT he)
        clear HHIT HMISS he
        go_wp2_with fail
        refine (unhide SK).mono ?_
        rintro e w1 ⟨rfl, hr1, hb1⟩
        obtain ⟨pv1, hx1, ho1⟩ := hr1.box
        have hlt1 := (Array.getElem?_eq_some_iff.1 hx1).1
        have c74 := hx1.cell (rdC_74 lv tk (k + 1) d pv1)
        have hal := Kp.alloc w1 (.cells #[.int .i64 (q : Int), .int .i64 0, .string { data := #[] }, .string { data := #[] }, .int .i64 0] 89)
        have IN := hide (insert_any (gr + 1) pv1 ps fr (opP (q : Int)) w1.heap.size 1 (w1.alloc (.cells #[.int .i64 (q : Int), .int .i64 0, .string { data := #[] }, .string { data := #[] }, .int .i64 0] 89)) (row_kp ho1 hal (by simp)) hf (by omega) (CBox.new w1 _ _) (fun e => by have := (ho1.lt _ e).2; omega) (by simp; omega))
        have HX := hide (And.intro (hx1.kp hal (by simp)) (And.intro (hal.below (B := gr) (by omega) (by simp)) (And.intro hr1 (fun g hg => (ho1.lt g hg).1))))
        have HW1 := hide ((unhide HI).2.1.trans hb1)
        clear hr1 hb1 hx1 ho1 hal SK cs cj
        go_wp2_with fail
        refine (unhide IN).mono ?_
        rintro e w2 ⟨v', rfl, ho2, k2⟩
        obtain ⟨hx2, hbl2, hr1, hlow⟩ := unhide HX
        have hlow2 : ∀ x ∈ pv1.ownBlock.toList, gr + 1 ≤ x := fun x hx => hlow x (by simpa using hx)
        have hx3 := hx2.kp k2 (fun hx => by have := hlow2 _ hx; omega)
        have hbl3 := hbl2.trans (k2.below (by simp; omega) (fun x hx => by have := hlow2 x hx; omega))
        obtain ⟨g2, cap2, rfl, _, _⟩ := ho2.form (by omega)
        have c74' := hx3.cell (rdC_74 lv tk (k + 1) d pv1)
        have f74 := hx3.froz
        have HF := hide (And.intro hr1 (And.intro hx3 (And.intro hbl3 ho2)))
        clear hx2 hbl2 hlow hlow2 hx3 hbl3 ho2 k2 hr1 HX IN
        go_wp2
        refine bodyPost_ret (results_tmp rfl _ _ _) rfl ?_
        obtain ⟨hr1, hx3, hbl3, ho2⟩ := unhide HF
        unfold TkO
        rw [unhide HOP]
        have hll : (ps.take fr ++ opP (q : Int) :: ps.drop fr).length = ps.length + 1 := by simp; omega
        exact ⟨rfl, Rd.parts hr1 hx3 hbl3 (by rw [hll]; exact ho2), ((unhide HW1).trans hbl3).setCell (p := ⟨gr, 74, none⟩) (Nat.le_refl _) _⟩
      · rw [if_neg he, decide_eq_false he] at SK
        have HM2 := hide (unhide HMISS he)
        clear HHIT HMISS he
        go_wp2_with fail
        refine (unhide SK).mono ?_
        rintro e w1 ⟨rfl, hr1, hb1⟩
        have HI2 := hide (And.intro hr1 (And.intro ((unhide HI).2.1.trans hb1) (unhide HM2)))
        clear hr1 hb1 SK HI cs cj
        go_wp2
        go_roundw
        case rel => exact ⟨j + 1, by omega, by go_num, HI2⟩
        case measure => simp [intOf]; omega
    · obtain rfl : j = L := by omega
      have HN : Hid (opA n (wdT t) = none) := hide (opA_none (unhide HL).symm (unhide HI).2.2)
      clear HCO
      go_wp2
      refine bodyPost_ret (results_tmp rfl _ _ _) rfl ?_
      unfold TkO
      rw [unhide HN]
      exact ⟨rfl, (unhide HI).1, (unhide HI).2.1⟩
end Go.Proofs.YtogklmljllocbabGreatDoor
namespace Go.Proofs.YtogklmljllocbabGreatDoor
open Go.RowKit Go.Shelf
attribute [local irreducible] opsV

def PR.rest : PR → List Tk
  | .bad r => r
  | .good _ r => r
theorem suf_cons {a r : List Tk} (t : Tk) (h : a <:+ r) : a <:+ t :: r := h.trans (List.suffix_cons t r)
theorem fdE_suf (st : ByteArray) (ts : List Tk) : (fdE st ts).rest <:+ ts := by
  cases ts with
  | nil => exact List.suffix_refl _
  | cons c r =>
    rw [fdE]
    split
    · exact List.suffix_cons c r
    · exact List.suffix_refl _
theorem fdR_suf (t : Tk) (r : List Tk) : (fdR t r).rest <:+ t :: r := by
  unfold fdR
  split
  · cases r with
    | nil => exact suf_cons t (List.suffix_refl _)
    | cons c q =>
      dsimp only
      split
      · exact suf_cons t (suf_cons c (fdE_suf _ _))
      · exact suf_cons t (List.suffix_refl _)
  · exact fdE_suf _ _
theorem shut_suf (x : List Pt) (q : List Tk) : (shut x q).rest <:+ q := by
  cases q with
  | nil => exact List.suffix_refl _
  | cons c q =>
    rw [shut]
    split
    · exact List.suffix_cons c q
    · exact List.suffix_refl _
theorem pRd_suf (f : Nat) : ∀ (m d : Nat) (acc : List Pt) (ts : List Tk), (pRd f m d acc ts).rest <:+ ts := by
  induction f with
  | zero => intro m d acc ts; rw [pRd]; exact List.suffix_refl _
  | succ f ih =>
    intro m d acc ts
    cases ts with
    | nil => rw [pRd]; exact List.suffix_refl _
    | cons t r =>
      rw [pRd]
      by_cases h6 : m = 6
      · rw [if_pos h6]
        split
        · exact List.suffix_cons t r
        · split
          · exact List.suffix_cons t r
          · split
            · exact fdR_suf t r
            · split
              · split
                · have h1 := ih 0 (d + 1) [] r
                  cases hE : pRd f 0 (d + 1) [] r with
                  | bad q => rw [hE] at h1; exact suf_cons t h1
                  | good x q => rw [hE] at h1; exact suf_cons t ((shut_suf x q).trans h1)
                · exact List.suffix_cons t r
              · exact List.suffix_refl _
      · rw [if_neg h6]
        split
        · split
          · split
            · have h1 := ih 2 (d + 1) [] r
              cases hE : pRd f 2 (d + 1) [] r with
              | bad q => rw [hE] at h1; exact suf_cons t h1
              | good x q => rw [hE] at h1; exact suf_cons t h1
            · exact List.suffix_cons t r
          · exact ih 3 d [] (t :: r)
        · split
          · have h1 := ih 4 d [] (t :: r)
            cases hE : pRd f 4 d [] (t :: r) with
            | bad q => rw [hE] at h1; exact h1
            | good x q =>
              rw [hE] at h1
              cases q with
              | nil => exact h1
              | cons c q' =>
                dsimp only
                split
                · exact h1
                · have h2 := ih 4 d [] q'
                  cases hE2 : pRd f 4 d [] q' with
                  | bad s => rw [hE2] at h2; exact h2.trans ((List.suffix_cons c q').trans h1)
                  | good y s => rw [hE2] at h2; exact h2.trans ((List.suffix_cons c q').trans h1)
          · split
            · have h1 := ih (m + 1) d [] (t :: r)
              cases hE : pRd f (m + 1) d [] (t :: r) with
              | bad q => rw [hE] at h1; exact h1
              | good x q => rw [hE] at h1; exact (ih (m + 10) d x q).trans h1
            · split
              · exact List.suffix_refl _
              · have h1 := ih (m - 10 + 1) d [] r
                cases hE : pRd f (m - 10 + 1) d [] r with
                | bad q => rw [hE] at h1; exact suf_cons t h1
                | good y q => rw [hE] at h1; exact (ih m d _ q).trans (suf_cons t h1)
/-- What reading leaves. -/
def RdR (gr : Nat) (lv tk : Value) (l : List Tk) (d : Nat) (ps : List Pt) (W : World) (o : PR) (e : Ending) (w' : World) : Prop := match o with
  | .good x q => e = .returned (.bool true) ∧ (∃ k, l.drop k = q ∧ k ≤ l.length ∧ Rd gr lv tk l k d (ps ++ x) w') ∧ Below gr W w'
  | .bad q => e = .returned (.bool false) ∧ (∃ k ps', l.drop k = q ∧ k ≤ l.length ∧ Rd gr lv tk l k d ps' w') ∧ Below gr W w'
end Go.Proofs.YtogklmljllocbabGreatDoor
