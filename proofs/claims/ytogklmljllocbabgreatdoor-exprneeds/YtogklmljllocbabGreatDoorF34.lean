/-
  ExprNeeds: a condition asks just for the stages that are told.
-/
import Derived.Test.YtogklmljllocbabGreatDoorF23
import Derived.Test.YtogklmljllocbabGreatDoorF26
import Derived.Test.YtogklmljllocbabGreatDoorF33
import Derived.Deep.RegionHeld
import Derived.Deep.DeepCutAuto
namespace Go.Proofs.YtogklmljllocbabGreatDoor
open Go.RowKit Go.Shelf

def ndO2 : Oper := { dst := some 63, op := Op.buildSlice 54 1 #[(0, Operand.const (Value.string { data := #[122, 122, 122] }))], type := 54, pos := "more.go:50", after := #[], guard := none }
def ndO4 : Oper := { dst := some 65, op := Op.call { callee := Callee.builtin Builtin.append, args := #[Operand.tmp 63, Operand.tmp 64], argTypes := #[54, 54] }, type := 54, pos := "more.go:50", after := #[{ on := 2, ground := Ground.data }, { on := 3, ground := Ground.data }], guard := none }
def ndO6 : Oper := { dst := some 67, op := Op.buildSlice 25 1 #[(0, Operand.tmp 66)], type := 25, pos := "more.go:50", after := #[{ on := 5, ground := Ground.data }], guard := none }
def ndO8 : Oper := { dst := some 69, op := Op.call { callee := Callee.builtin Builtin.append, args := #[Operand.tmp 67, Operand.tmp 68], argTypes := #[25, 25] }, type := 25, pos := "more.go:50", after := #[{ on := 6, ground := Ground.data }, { on := 7, ground := Ground.data }, { on := 4, ground := Ground.chain }], guard := none }
def ndO9 : Oper := { dst := some 70, op := Op.call { callee := Callee.value (Operand.func 20), args := #[Operand.tmp 61, Operand.tmp 62, Operand.tmp 65, Operand.tmp 69], argTypes := #[31, 29, 54, 25] }, type := 38, pos := "more.go:50", after := #[{ on := 0, ground := Ground.data }, { on := 1, ground := Ground.data }, { on := 4, ground := Ground.data }, { on := 8, ground := Ground.data }, { on := 8, ground := Ground.chain }], guard := none }
def ndP2 : Oper := { dst := some 107, op := Op.buildSlice 54 0 #[], type := 54, pos := "more.go:60", after := #[], guard := none }
def ndP6 : Oper := { dst := some 111, op := Op.call { callee := Callee.builtin Builtin.append, args := #[Operand.tmp 107, Operand.tmp 110], argTypes := #[54, 54] }, type := 54, pos := "more.go:60", after := #[{ on := 2, ground := Ground.data }, { on := 5, ground := Ground.data }], guard := none }
def ndP11 : Oper := { dst := some 116, op := Op.call { callee := Callee.builtin Builtin.append, args := #[Operand.tmp 111, Operand.tmp 115], argTypes := #[54, 54] }, type := 54, pos := "more.go:60", after := #[{ on := 6, ground := Ground.data }, { on := 10, ground := Ground.data }, { on := 6, ground := Ground.chain }], guard := none }
def ndP12 : Oper := { dst := some 117, op := Op.buildSlice 25 0 #[], type := 25, pos := "more.go:60", after := #[], guard := none }
def ndP16 : Oper := { dst := some 121, op := Op.call { callee := Callee.builtin Builtin.append, args := #[Operand.tmp 117, Operand.tmp 120], argTypes := #[25, 25] }, type := 25, pos := "more.go:60", after := #[{ on := 12, ground := Ground.data }, { on := 15, ground := Ground.data }, { on := 11, ground := Ground.chain }], guard := none }
def ndP21 : Oper := { dst := some 126, op := Op.call { callee := Callee.builtin Builtin.append, args := #[Operand.tmp 121, Operand.tmp 125], argTypes := #[25, 25] }, type := 25, pos := "more.go:60", after := #[{ on := 16, ground := Ground.data }, { on := 20, ground := Ground.data }, { on := 16, ground := Ground.chain }], guard := none }
def ndP22 : Oper := { dst := some 127, op := Op.call { callee := Callee.value (Operand.func 20), args := #[Operand.tmp 105, Operand.tmp 106, Operand.tmp 116, Operand.tmp 126], argTypes := #[31, 29, 54, 25] }, type := 38, pos := "more.go:60", after := #[{ on := 0, ground := Ground.data }, { on := 1, ground := Ground.data }, { on := 11, ground := Ground.data }, { on := 21, ground := Ground.data }, { on := 21, ground := Ground.chain }], guard := none }
theorem strNe2 {a b : ByteArray} (h : a ≠ b) : (a.toList == b.toList) = false := beq_eq_false_iff_ne.2 fun e => h (by
  rw [ByteArray.toList_eq, ByteArray.toList_eq] at e
  exact Go.WideShapes.bytes_inj e)
theorem exec_slice {P : Program} {r : Operand → Value} {o : Oper} {t : TypeId} {x lo : Operand} {w : World} {v val lv : Value} (hop : o.op = Op.slice t x (some lo) none none) (hx : r x = val) (hl : r lo = lv) (h : (Instr.sliceAt t val (some lv) none none).run P w = .ok v w) : (execOp r o).run P w = .ok (Next.value v) w := by
  simp [execOp, hop, hx, hl, h, Result.andThen]
theorem slice_fromN (g n c q : Nat) (h1 : q + 1 ≤ n) (h2 : n ≤ c) : ∃ aN cN, (∀ W, (Instr.sliceAt 54 (.slice (some ⟨g, 0, none⟩) n c) (some (.int .i64 ((q : Int) + 1))) none none).run Tryz.prog W = .ok (.slice (some aN) (n - (q + 1)) cN) W) ∧ (∀ a, some aN = some a → a.spot = none) ∧ (q + 1 < n → aN = ⟨g, q + 1, none⟩) := by
  have e1 : (0 ≤ (q : Int) + 1) := by omega
  have e2 : ((q : Int) + 1 ≤ (n : Int)) := by omega
  have e3 : ((q : Int) + 1).toNat = q + 1 := by omega
  by_cases hc : c = q + 1
  · refine ⟨⟨g, 0, none⟩, 0, fun W => ?_, fun a e => by cases e; rfl, fun h => by omega⟩
    subst hc
    go_simp
  · refine ⟨⟨g, q + 1, none⟩, c - (q + 1), fun W => ?_, fun a e => by cases e; rfl, fun h => rfl⟩
    have e4 : (c = q + 1) = False := eq_false hc
    go_simp
theorem slice_fromE (g n c q : Nat) (h1 : q + 1 ≤ n) (h2 : n ≤ c) : ∃ aN cN, (∀ W, (Instr.sliceAt 25 (.slice (some ⟨g, 0, none⟩) n c) (some (.int .i64 ((q : Int) + 1))) none none).run Tryz.prog W = .ok (.slice (some aN) (n - (q + 1)) cN) W) ∧ (∀ a, some aN = some a → a.spot = none) ∧ (q + 1 < n → aN = ⟨g, (q + 1) * 7, none⟩) := by
  have e1 : (0 ≤ (q : Int) + 1) := by omega
  have e2 : ((q : Int) + 1 ≤ (n : Int)) := by omega
  have e3 : ((q : Int) + 1).toNat = q + 1 := by omega
  by_cases hc : c = q + 1
  · refine ⟨⟨g, 0, none⟩, 0, fun W => ?_, fun a e => by cases e; rfl, fun h => by omega⟩
    subst hc
    go_simp
  · refine ⟨⟨g, (q + 1) * 7, none⟩, c - (q + 1), fun W => ?_, fun a e => by cases e; rfl, fun h => rfl⟩
    have e4 : (c = q + 1) = False := eq_false hc
    go_simp
theorem nms_take {W : World} {g : Nat} {l : List ByteArray} (h : NmsAt W (some ⟨g, 0, none⟩) l) (q : Nat) : NmsAt W (some ⟨g, 0, none⟩) (l.take q) := fun hne => by
  obtain ⟨b, off, e, hb, hc⟩ := h (fun e => hne (by rw [e]; simp))
  refine ⟨b, off, e, hb, fun i hi => ?_⟩
  rw [List.getElem_take]
  exact hc i (by rw [List.length_take] at hi; omega)
theorem nms_drop {W : World} {g q : Nat} {l : List ByteArray} {aN : Addr} (h : NmsAt W (some ⟨g, 0, none⟩) l) (ha : q + 1 < l.length → aN = ⟨g, q + 1, none⟩) : NmsAt W (some aN) (l.drop (q + 1)) := fun hne => by
  have hlt : q + 1 < l.length := by
    rcases Nat.lt_or_ge (q + 1) l.length with h1 | h1
    · exact h1
    · exact absurd (List.drop_eq_nil_of_le h1) hne
  obtain ⟨b, off, e, hb, hc⟩ := h (fun e => by rw [e] at hlt; simp at hlt)
  cases e
  rw [ha hlt]
  refine ⟨g, q + 1, rfl, hb, fun i hi => ?_⟩
  rw [List.getElem_drop]
  rw [List.length_drop] at hi
  have := hc (q + 1 + i) (by omega)
  rwa [Nat.zero_add] at this
theorem evs_take {W : World} {g : Nat} {l : List Ev} (h : EvsAt W (some ⟨g, 0, none⟩) l) (q : Nat) : EvsAt W (some ⟨g, 0, none⟩) (l.take q) := fun hne => by
  obtain ⟨b, off, e, hb, hc⟩ := h (fun e => hne (by rw [e]; simp))
  refine ⟨b, off, e, hb, fun i x hx j u hu => hc i x ?_ j u hu⟩
  rw [List.getElem?_take] at hx
  split at hx
  · exact hx
  · cases hx
theorem evs_drop {W : World} {g q : Nat} {l : List Ev} {aN : Addr} (h : EvsAt W (some ⟨g, 0, none⟩) l) (ha : q + 1 < l.length → aN = ⟨g, (q + 1) * 7, none⟩) : EvsAt W (some aN) (l.drop (q + 1)) := fun hne => by
  have hlt : q + 1 < l.length := by
    rcases Nat.lt_or_ge (q + 1) l.length with h1 | h1
    · exact h1
    · exact absurd (List.drop_eq_nil_of_le h1) hne
  obtain ⟨b, off, e, hb, hc⟩ := h (fun e => by rw [e] at hlt; simp at hlt)
  cases e
  rw [ha hlt]
  refine ⟨g, (q + 1) * 7, rfl, hb, fun i x hx j u hu => ?_⟩
  rw [List.getElem?_drop] at hx
  have := hc (q + 1 + i) x hx j u hu
  rw [show (q + 1) * 7 + i * 7 + j = 0 + (q + 1 + i) * 7 + j by omega]
  exact this
def evQ : Ev := ⟨⟨#[113]⟩, ⟨#[]⟩, 0, 0, 0, 0, ⟨#[]⟩⟩
theorem ev7 {b : Nat} {e : Ev} {w : World} (h : CBox b e.c 29 w) : w.cell? ⟨b, 0, none⟩ = some (.string e.k) ∧ w.cell? ⟨b, 1, none⟩ = some (.string e.t) ∧ w.cell? ⟨b, 2, none⟩ = some (.int .i64 e.n0) ∧ w.cell? ⟨b, 3, none⟩ = some (.int .i64 e.n1) ∧ w.cell? ⟨b, 4, none⟩ = some (.int .i64 e.n2) ∧ w.cell? ⟨b, 5, none⟩ = some (.int .i64 e.n3) ∧ w.cell? ⟨b, 6, none⟩ = some (.string e.x) :=
  ⟨h.cell rfl, h.cell rfl, h.cell rfl, h.cell rfl, h.cell rfl, h.cell rfl, h.cell rfl⟩
theorem row_shape {W : World} {B e sz n : Nat} {v : Value} {xs : List Value} (h : W.ownsRow B e sz v n xs) : ∃ a c, v = .slice a n c ∧ (a = none → n = 0 ∧ c = 0) ∧ (∀ q, a = some q → q.spot = none) ∧ n ≤ c ∧ (a ≠ none → ∃ g, a = some ⟨g, 0, none⟩) := by
  obtain ⟨h1, ⟨e1, e2⟩ | ⟨g', cap', cur, e1, _, _, h4, _⟩⟩ := h
  · subst e2
    exact ⟨none, 0, e1, fun _ => ⟨rfl, rfl⟩, fun q e => (by cases e), Nat.le_refl _, fun h => absurd rfl h⟩
  · exact ⟨some ⟨g', 0, none⟩, cap', e1, fun e => (by cases e), fun q e => (by cases e; rfl), h4, fun _ => ⟨g', rfl⟩⟩
set_option maxHeartbeats 8000000 in
set_option maxRecDepth 100000 in
theorem eneeds_walk (ad : Option Addr) (cap : Nat) (xs : List Pt) (ev : Ev) (al : Option Addr) (cl : Nat) (la : List Ev) (w : World) (_hl : xs.length ≤ 9223372036854775807) (hc : PtsAt w ad xs) (hok : ∀ p ∈ xs, p.ok) (hle : la.length ≤ 9223372036854775807) (hE : EvsAt w al la) (_ : ∀ e ∈ la, e.ok) (hT : TbE w) :
    Calls Tryz.prog 5 #[.slice ad xs.length cap, .agg ev.c, .slice al la.length cl] w fun e w' => e = .returned (.bool true) ∧ Kp [] w w' := by
  have hfit : ∀ p ∈ xs, p.fit := fun p hp => (hok p hp).2.2.2.1
  have k0 := Kp.alloc w (.cells ev.c 29)
  have hEv := CBox.new w ev.c 29
  have WK := hide (eworks_any _ (hT.kp k0 (by simp)))
  have HV : Hid (∀ W, Kp [] (w.alloc (.cells ev.c 29)) W → (W.cell? ⟨w.heap.size, 0, none⟩ = some (.string ev.k) ∧ W.cell? ⟨w.heap.size, 1, none⟩ = some (.string ev.t) ∧ W.cell? ⟨w.heap.size, 2, none⟩ = some (.int .i64 ev.n0) ∧ W.cell? ⟨w.heap.size, 3, none⟩ = some (.int .i64 ev.n1) ∧ W.cell? ⟨w.heap.size, 4, none⟩ = some (.int .i64 ev.n2) ∧ W.cell? ⟨w.heap.size, 5, none⟩ = some (.int .i64 ev.n3) ∧ W.cell? ⟨w.heap.size, 6, none⟩ = some (.string ev.x)) ∧ Hid (Kp [] w W) ∧ Hid (EvsAt W al la) ∧ w.heap.size < W.heap.size) := hide (fun W hk => ⟨ev7 (hEv.kp hk (by simp)), hide (k0.trans hk (by simp)), hide (hE.kp (k0.trans hk (by simp)) (by simp)), (Array.getElem?_eq_some_iff.1 (hEv.kp hk (by simp))).1⟩)
  have WH := hide (fun W (hk : Kp [] (w.alloc (.cells ev.c 29)) W) => whole_any ad cap xs W (hc.kp (k0.trans hk (by simp))) (hT.kp (k0.trans hk (by simp)) (by simp)) hfit)
  have SG := hide (fun W (hk : Kp [] (w.alloc (.cells ev.c 29)) W) => stages_any ad cap xs W (hc.kp (k0.trans hk (by simp))) (hT.kp (k0.trans hk (by simp)) (by simp)) hfit)
  have HD : Hid (∀ (an bl : Option Addr) (cn ce : Nat) (ns : List ByteArray) (es : List Ev) W, Kp [] (w.alloc (.cells ev.c 29)) W → NmsAt W an ns → ns.length ≤ 100000 → EvsAt W bl es → Calls Tryz.prog 20 #[.slice ad xs.length cap, .agg ev.c, .slice an ns.length cn, .slice bl es.length ce] W fun e w' => e = .returned (.tuple #[.bool (hdB xs ⟨ev, ns, es⟩), .int .i64 (hdE xs ⟨ev, ns, es⟩)]) ∧ Below W.heap.size W w') := hide (fun an bl cn ce ns es W hk hn hnl he => holds_any ad an bl cap cn ce xs ev ns es W (hc.kp (k0.trans hk (by simp))) hn (by omega) he (hT.kp (k0.trans hk (by simp)) (by simp)) hfit)
  have hec : ev.c = #[.string ev.k, .string ev.t, .int .i64 ev.n0, .int .i64 ev.n1, .int .i64 ev.n2, .int .i64 ev.n3, .string ev.x] := rfl
  have HEC := hide hec
  clear hc hok hE hT hfit k0 hEv hec
  generalize xs.length = XL at *
  obtain ⟨m, hm⟩ : ∃ m, la.length = m := ⟨_, rfl⟩
  have HM := hide hm
  rw [hm] at hle ⊢
  rw [unhide HEC] at WK WH SG HD HV ⊢
  clear hm
  obtain ⟨V0, hV0⟩ : ∃ V0, w.alloc (.cells #[.string ev.k, .string ev.t, .int .i64 ev.n0, .int .i64 ev.n1, .int .i64 ev.n2, .int .i64 ev.n3, .string ev.x] 29) = V0 := ⟨_, rfl⟩
  rw [hV0] at WK WH SG HD HV
  go_enter Tryz.func5, Tryz.ntmps5
  go_wp2_with fail
  refine (unhide WK).mono ?_
  rintro e w1 ⟨rfl, hb1⟩
  have HK1 := hide (Kp.ofBelow hb1)
  have WH1 := hide (unhide WH w1 (unhide HK1))
  clear hb1 WK WH hV0
  go_wp2_with fail
  refine (unhide WH1).mono ?_
  rintro e w2 ⟨rfl, hb2⟩
  have HK2 := hide ((unhide HK1).trans (Kp.ofBelow hb2) (by simp))
  have SG2 := hide (unhide SG w2 (unhide HK2))
  clear WH1 SG hb2 HK1
  by_cases h3 : ckK xs = 3
  · have hz0 : (if ckK xs = 0 then (110 : Int) else 0) = 0 := by rw [h3]; rfl
    have hb3 : (ckK xs == 3) = true := by rw [h3]; rfl
    rw [hz0] at SG2
    rw [hb3]
    have H3 := hide h3
    clear hz0 hb3 h3
    go_wp2_with fail
    refine (unhide SG2).mono ?_
    rintro e w3 ⟨v, rfl, ho3, hb3⟩
    obtain ⟨a1, c1, hv, hno1, hsp1, hnc1, hso1⟩ := row_shape ho3
    subst hv
    have hNS := stgS_len xs
    have HR0 : Hid (AsR w2.heap.size w2 w3 (.slice a1 (stgS xs).length c1) (.slice none 0 0) (stgS xs) []) := hide ⟨ho3, OwnsX.nil _ _, Kp.ofBelow hb3⟩
    have HNO1 := hide hno1
    have HSP1 := hide hsp1
    have HSO1 := hide hso1
    obtain ⟨NS, hNe⟩ : ∃ NS, (stgS xs).length = NS := ⟨_, rfl⟩
    have HNS := hide hNe
    rw [hNe] at hNS HR0 HNO1 hnc1 ⊢
    clear SG2 ho3 hb3 hno1 hsp1 hso1 hNe
    go_wp2_with fail
    go_loopw [9, 35] (fun u i wr => ∃ (k : Nat) (a2 : Option Addr) (c2 : Nat) (E : List Ev), k ≤ NS ∧ i = .int .i64 (k : Int) ∧ u = .slice a2 k c2 ∧ E.length = k ∧ Hid (AsR w2.heap.size w2 wr (.slice a1 NS c1) (.slice a2 k c2) (stgS xs) E)) (fun _ i _ => NS - (intOf i).toNat)
    case atStart => exact ⟨0, none, 0, [], Nat.zero_le _, rfl, rfl, rfl, HR0⟩
    case round =>
      obtain ⟨k, a2, c2, E, hk, rfl, rfl, hEl, HR⟩ := hrel
      clear HR0
      obtain ⟨⟨y0, y1, y2, y3, y4, y5, y6⟩, -, HEr, hltr⟩ := unhide HV _ ((unhide HK2).trans (unhide HR).kp (by simp))
      by_cases hlt : k < NS
      · have hli : (k : Int) < (NS : Int) := by omega
        by_cases hla : k < m
        · have hlm : (k : Int) < (m : Int) := by omega
          obtain ⟨b5, off5, rfl, v0, v1, v2, v3, v4, v5, v6⟩ := (unhide HEr).seven k (by rw [unhide HM]; exact hla)
          have hb5 : b5 < wr.heap.size := World.block_lt_of_cell? _ _ v0
          obtain ⟨g6, q6, w6, hrun6, hR6⟩ := ((unhide HR).go (Kp.alloc wr (.cells (la[k]'(by rw [unhide HM]; exact hla)).c 29))).event rfl (la[k]'(by rw [unhide HM]; exact hla)) (by rw [hEl]; omega)
          have hsz4 : (wr.alloc (.cells (la[k]'(by rw [unhide HM]; exact hla)).c 29)).heap.size = wr.heap.size + 1 := by simp
          rw [hsz4, hEl] at hrun6
          rw [hEl] at hR6
          have HEL : Hid ((E ++ [la[k]'(by rw [unhide HM]; exact hla)]).length = k + 1) := hide (by rw [List.length_append, hEl]; rfl)
          generalize la[k]'(by rw [unhide HM]; exact hla) = X at *
          have hX : X.c = #[.string X.k, .string X.t, .int .i64 X.n0, .int .i64 X.n1, .int .i64 X.n2, .int .i64 X.n3, .string X.x] := rfl
          rw [hX] at hrun6
          have HRUN6 := hide hrun6
          have HR6 := hide hR6
          clear hrun6 hR6 HR HEr hX hsz4
          go_wp2_with (at_builtin; refine wpList_app_run rfl _ _ _ rfl rfl rfl (unhide HRUN6) ?_)
          go_roundw
          case rel => exact ⟨k + 1, _, q6, _, by omega, by go_num, rfl, unhide HEL, HR6⟩
          case measure => simp [intOf]; omega
        · have hlm : ((k : Int) < (m : Int)) = False := by simp; omega
          obtain ⟨g6, q6, w6, hrun6, hR6⟩ := ((unhide HR).go (Kp.alloc wr (.cells ev.c 29))).event rfl ev (by rw [hEl]; omega)
          have hsz4 : (wr.alloc (.cells ev.c 29)).heap.size = wr.heap.size + 1 := by simp
          rw [hsz4, hEl] at hrun6
          rw [hEl] at hR6
          have HEL : Hid ((E ++ [ev]).length = k + 1) := hide (by rw [List.length_append, hEl]; rfl)
          rw [unhide HEC] at hrun6
          have HRUN6 := hide hrun6
          have HR6 := hide hR6
          clear hrun6 hR6 HR HEr hsz4
          go_wp2_with (at_builtin; refine wpList_app_run rfl _ _ _ rfl rfl rfl (unhide HRUN6) ?_)
          go_roundw
          case rel => exact ⟨k + 1, _, q6, _, by omega, by go_num, rfl, unhide HEL, HR6⟩
          case measure => simp [intOf]; omega
      · obtain rfl : k = NS := by omega
        obtain ⟨aa, cc, ee, hno2, hsp2, hnc2, hso2⟩ := row_shape (unhide HR).evs
        have hEk := hEl
        rw [hEl] at ee hno2 hnc2
        injection ee with ee1 ee2 ee3
        subst ee1 ee3
        clear ee2
        have HNO2 := hide hno2
        have HSP2 := hide hsp2
        have HSO2 := hide hso2
        have HES := hide hEk
        -- what Holds tells of these
        have hl2 : E.length = (stgS xs).length := by rw [unhide HNS]; exact hEk
        have HC1 : Hid (∀ W, Kp [] wr W → Calls Tryz.prog 20 #[.slice ad XL cap, .agg #[.string ev.k, .string ev.t, .int .i64 ev.n0, .int .i64 ev.n1, .int .i64 ev.n2, .int .i64 ev.n3, .string ev.x], .slice a1 k c1, .slice a2 k c2] W fun e w' => e = .returned (.tuple #[.bool (hdB xs ⟨ev, stgS xs, E⟩), .int .i64 0]) ∧ Below W.heap.size W w') := hide (fun W hk => by
          have hA := (unhide HR).go hk
          obtain ⟨b1, q1, e1, hnm, _⟩ := hA.nam.at
          obtain ⟨b2, q2, e2, hev⟩ := hA.evs.at
          injection e1 with f1 f2 f3
          injection e2 with f4 f5 f6
          subst f1 f3 f4 f6
          have := unhide HD a1 a2 c1 c2 (stgS xs) E W ((unhide HK2).trans hA.kp (by simp)) hnm (by rw [unhide HNS]; omega) hev
          rw [unhide HNS, hEk, needs_ok (unhide H3) hl2] at this
          exact this)
        have HNM : Hid (∀ W, Kp [] wr W → NmsAt W a1 (stgS xs)) := hide (fun W hk => by
          obtain ⟨b1, q1, e1, hnm, _⟩ := ((unhide HR).go hk).nam.at
          injection e1 with f1 f2 f3
          subst f1
          exact hnm)
        have HEV : Hid (∀ W, Kp [] wr W → EvsAt W a2 E) := hide (fun W hk => by
          obtain ⟨b2, q2, e2, hev⟩ := ((unhide HR).go hk).evs.at
          injection e2 with f1 f2 f3
          subst f1
          exact hev)
        have HSX : Hid (∀ W, Kp [] wr W → W.cell? ⟨w.heap.size, 0, none⟩ = some (.string ev.k) ∧ W.cell? ⟨w.heap.size, 1, none⟩ = some (.string ev.t) ∧ W.cell? ⟨w.heap.size, 2, none⟩ = some (.int .i64 ev.n0) ∧ W.cell? ⟨w.heap.size, 3, none⟩ = some (.int .i64 ev.n1) ∧ W.cell? ⟨w.heap.size, 4, none⟩ = some (.int .i64 ev.n2) ∧ W.cell? ⟨w.heap.size, 5, none⟩ = some (.int .i64 ev.n3) ∧ W.cell? ⟨w.heap.size, 6, none⟩ = some (.string ev.x)) := hide (fun W hk => (unhide HV W ((unhide HK2).trans ((unhide HR).kp.trans hk (by simp)) (by simp))).1)
        have HKW : Hid (∀ W, Kp [] wr W → Kp [] w W) := hide (fun W hk => unhide (unhide HV W ((unhide HK2).trans ((unhide HR).kp.trans hk (by simp)) (by simp))).2.1)
        have HMORE := hide (needs_more (e := ev) (e0 := evQ) (z := ⟨#[122, 122, 122]⟩) (unhide H3) hl2)
        have HSAME := hide (fun hz => needs_same (e := ev) (e0 := evQ) (z := ⟨#[122, 122, 122]⟩) (unhide H3) hl2 hz)
        clear hno2 hsp2 hso2 HEr hl2 hEl hEk
        have HBS : Hid (∀ (V W : World) (g1 N1 q1 g2 N2 q2 : Nat) (ns : List ByteArray) (es : List Ev) (R : Int), Kp [] wr V → ns.length ≤ 100000 → hdE xs ⟨ev, ns, es⟩ = R → AsR V.heap.size V W (.slice (some ⟨g1, 0, none⟩) N1 q1) (.slice (some ⟨g2, 0, none⟩) N2 q2) ns es → Calls Tryz.prog 20 #[.slice ad XL cap, .agg #[.string ev.k, .string ev.t, .int .i64 ev.n0, .int .i64 ev.n1, .int .i64 ev.n2, .int .i64 ev.n3, .string ev.x], .slice (some ⟨g1, 0, none⟩) N1 q1, .slice (some ⟨g2, 0, none⟩) N2 q2] W fun e w' => e = .returned (.tuple #[.bool (hdB xs ⟨ev, ns, es⟩), .int .i64 R]) ∧ Below W.heap.size W w') := hide (fun V W g1 N1 q1 g2 N2 q2 ns es R hkV hnl hR hA => by
          obtain ⟨b1, p1, e1, hnm, _⟩ := hA.nam.at
          obtain ⟨b2, p2, e2, hev⟩ := hA.evs.at
          injection e1 with f1 f2 f3
          injection e2 with f4 f5 f6
          subst f1 f2 f3 f4 f5 f6
          have := unhide HD _ _ q1 q2 ns es W ((unhide HK2).trans ((unhide HR).kp.trans (hkV.trans hA.kp (by simp)) (by simp)) (by simp)) hnm hnl hev
          rw [hR] at this
          exact this)
        have HNL2 : Hid (([(⟨#[122, 122, 122]⟩ : ByteArray)] ++ stgS xs).length ≤ 100000) := hide (by rw [List.length_append, unhide HNS]; show 1 + k ≤ _; omega)
        go_wp2_with fail
        refine (unhide HC1 wr (Kp.refl _ _)).mono ?_
        rintro e w4 ⟨rfl, hb4⟩
        have HK4 := hide (Kp.ofBelow hb4)
        clear hb4 HC1 y0 y1 y2 y3 y4 y5 y6
        obtain ⟨HB1, hHB1⟩ : ∃ b, hdB xs ⟨ev, stgS xs, E⟩ = b := ⟨_, rfl⟩
        obtain ⟨HB2, hHB2⟩ : ∃ b, hdB xs ⟨ev, [(⟨#[122, 122, 122]⟩ : ByteArray)] ++ stgS xs, [evQ] ++ E⟩ = b := ⟨_, rfl⟩
        have HSM : Hid ((⟨#[122, 122, 122]⟩ : ByteArray) ∉ stgS xs → HB2 = HB1) := hide (fun hz => by rw [← hHB1, ← hHB2]; exact unhide HSAME hz)
        have HH2 := hide hHB2
        rw [hHB1]
        clear hHB1 hHB2 HSAME
        go_upto_region 18 with fail
        go_cut [14, 15] (fun b h wc => b = .bool HB2 ∧ h = .int .i64 0 ∧ Hid (Kp [] w4 wc))
        case first =>
          refine wp_region_held_drew (S := fun W => W.cell? ⟨w.heap.size, 0, none⟩ = some (.string ev.k) ∧ W.cell? ⟨w.heap.size, 1, none⟩ = some (.string ev.t) ∧ W.cell? ⟨w.heap.size, 2, none⟩ = some (.int .i64 ev.n0) ∧ W.cell? ⟨w.heap.size, 3, none⟩ = some (.int .i64 ev.n1) ∧ W.cell? ⟨w.heap.size, 4, none⟩ = some (.int .i64 ev.n2) ∧ W.cell? ⟨w.heap.size, 5, none⟩ = some (.int .i64 ev.n3) ∧ W.cell? ⟨w.heap.size, 6, none⟩ = some (.string ev.x)) (by kernel_rfl) (unhide HSX _ ((unhide HK4).trans (Kp.drew w4) (by simp))) (fun _ => ?_)
          show wpAnyH _ _ _ _ _ 15 (Array.replicate 15 false) _ _
          have HKd := hide (Kp.drew w4)
          revert HKd
          generalize w4.drew = Vd
          intro HKd
          have HKv := hide ((unhide HK4).trans (unhide HKd) (by simp))
          have HC18 : Hid (∀ W (g1 N1 q1 g2 N2 q2 : Nat), AsR Vd.heap.size Vd W (.slice (some ⟨g1, 0, none⟩) N1 q1) (.slice (some ⟨g2, 0, none⟩) N2 q2) ([(⟨#[122, 122, 122]⟩ : ByteArray)] ++ stgS xs) ([evQ] ++ E) → Calls Tryz.prog 20 #[.slice ad XL cap, .agg #[.string ev.k, .string ev.t, .int .i64 ev.n0, .int .i64 ev.n1, .int .i64 ev.n2, .int .i64 ev.n3, .string ev.x], .slice (some ⟨g1, 0, none⟩) N1 q1, .slice (some ⟨g2, 0, none⟩) N2 q2] W fun e w' => e = .returned (.tuple #[.bool HB2, .int .i64 0]) ∧ Below W.heap.size W w') := hide (fun W g1 N1 q1 g2 N2 q2 hA => by
            have := unhide HBS Vd W g1 N1 q1 g2 N2 q2 ([(⟨#[122, 122, 122]⟩ : ByteArray)] ++ stgS xs) ([evQ] ++ E) 0 (unhide HKv) (unhide HNL2) (unhide HMORE) hA
            rw [unhide HH2] at this
            exact this)
          have HNMd : Hid (∀ W, Kp [] Vd W → NmsAt W a1 (stgS xs)) := hide (fun W hk => unhide HNM W ((unhide HKv).trans hk (by simp)))
          have HEVd : Hid (∀ W, Kp [] Vd W → EvsAt W a2 E) := hide (fun W hk => unhide HEV W ((unhide HKv).trans hk (by simp)))
          have HSXd : Hid (∀ W, Kp [] Vd W → W.cell? ⟨w.heap.size, 0, none⟩ = some (.string ev.k) ∧ W.cell? ⟨w.heap.size, 1, none⟩ = some (.string ev.t) ∧ W.cell? ⟨w.heap.size, 2, none⟩ = some (.int .i64 ev.n0) ∧ W.cell? ⟨w.heap.size, 3, none⟩ = some (.int .i64 ev.n1) ∧ W.cell? ⟨w.heap.size, 4, none⟩ = some (.int .i64 ev.n2) ∧ W.cell? ⟨w.heap.size, 5, none⟩ = some (.int .i64 ev.n3) ∧ W.cell? ⟨w.heap.size, 6, none⟩ = some (.string ev.x)) := hide (fun W hk => unhide HSX W ((unhide HKv).trans hk (by simp)))
          have HA00 : Hid (AsR Vd.heap.size Vd Vd (.slice none 0 0) (.slice none 0 0) [] []) := hide ⟨OwnsW.nil _ _, OwnsX.nil _ _, Kp.refl _ _⟩
          have hHeld := unhide HSXd Vd (Kp.refl _ _)
          clear HBS HH2 HSM HMORE HNL2 HD HV HR HK2 HNM HEV HSX HKW HKv HSO1 HSO2 H3 HK4
          refine wpAnyH_take (i := 0) (oi := { dst := some 61, op := Op.move (Operand.tmp 0), type := 31, pos := "more.go:50", after := #[], guard := none }) (v := ?_) rfl (by kernel_rfl) (by kernel_rfl) (by kernel_rfl) (fun _ _ _ h => h) (Or.inl ⟨by rfl, ?_⟩) (by assumption) ?_
          rotate_left 1
          · intro w0 hSw
            (try dsimp only at hSw)
            go_simp
            (try with_reducible rfl)
          try simp only [Act.put, List.setIfInBounds_toArray, List.set_cons_zero, List.set_cons_succ]
          refine wpAnyH_take (i := 1) (oi := { dst := some 62, op := Op.load 29 (Operand.tmp 4), type := 29, pos := "more.go:50", after := #[], guard := none }) (v := ?_) rfl (by kernel_rfl) (by kernel_rfl) (by kernel_rfl) (fun _ _ _ h => h) (Or.inl ⟨by rfl, ?_⟩) (by assumption) ?_
          rotate_left 1
          · intro w0 hSw
            (try dsimp only at hSw)
            go_simp
            (try with_reducible rfl)
          try simp only [Act.put, List.setIfInBounds_toArray, List.set_cons_zero, List.set_cons_succ]
          refine wpAnyH_take (i := 3) (oi := { dst := some 64, op := Op.move (Operand.tmp 7), type := 54, pos := "more.go:50", after := #[], guard := none }) (v := ?_) rfl (by kernel_rfl) (by kernel_rfl) (by kernel_rfl) (fun _ _ _ h => h) (Or.inl ⟨by rfl, ?_⟩) (by assumption) ?_
          rotate_left 1
          · intro w0 hSw
            (try dsimp only at hSw)
            go_simp
            (try with_reducible rfl)
          try simp only [Act.put, List.setIfInBounds_toArray, List.set_cons_zero, List.set_cons_succ]
          refine wpAnyH_take (i := 5) (oi := { dst := some 66, op := Op.build 29 #[(0, Operand.const (Value.string { data := #[113] }))], type := 29, pos := "more.go:50", after := #[], guard := none }) (v := ?_) rfl (by kernel_rfl) (by kernel_rfl) (by kernel_rfl) (fun _ _ _ h => h) (Or.inl ⟨by rfl, ?_⟩) (by assumption) ?_
          rotate_left 1
          · intro w0 hSw
            (try dsimp only at hSw)
            go_simp
            (try with_reducible rfl)
          try simp only [Act.put, List.setIfInBounds_toArray, List.set_cons_zero, List.set_cons_succ]
          refine wpAnyH_take (i := 7) (oi := { dst := some 68, op := Op.move (Operand.tmp 9), type := 25, pos := "more.go:50", after := #[], guard := none }) (v := ?_) rfl (by kernel_rfl) (by kernel_rfl) (by kernel_rfl) (fun _ _ _ h => h) (Or.inl ⟨by rfl, ?_⟩) (by assumption) ?_
          rotate_left 1
          · intro w0 hSw
            (try dsimp only at hSw)
            go_simp
            (try with_reducible rfl)
          try simp only [Act.put, List.setIfInBounds_toArray, List.set_cons_zero, List.set_cons_succ]
          refine wpAnyH_ready (rs := [2, 6]) (by kernel_rfl) (by simp) ?_
          refine AllReadyH.cons (o := ndO2) rfl (fun K hK => ?_) (AllReadyH.cons (o := ndO6) rfl (fun K hK => ?_) AllReadyH.nil)
          · unfold ndO2
            go_simp
            have HA10 := hide ((unhide HA00).lit rfl ⟨#[122, 122, 122]⟩)
            try rw [World.size_alloc] at HA10
            refine hK.out _ _ ?_ (fun hHeld => ?_)
            · exact unhide HSXd _ (unhide HA10).kp
            clear hK K HA00
            try simp only [Act.put, List.setIfInBounds_toArray, List.set_cons_zero, List.set_cons_succ]
            refine wpAnyH_ready (rs := [4, 6]) (by kernel_rfl) (by simp) ?_
            refine AllReadyH.cons (o := ndO4) rfl (fun K hK => ?_) (AllReadyH.cons (o := ndO6) rfl (fun K hK => ?_) AllReadyH.nil)
            · obtain ⟨gA10, cA10, wA10, hrun, hN⟩ := (unhide HA10).names rfl rfl (l := stgS xs) (unhide HNS).symm (unhide HNMd _ (unhide HA10).kp) (unhide HNO1) (unhide HSP1) (by omega) 54
              have HA20 := hide hN
              unfold ndO4
              refine step_app_run rfl _ _ _ rfl rfl rfl hrun ?_
              clear hrun hN
              refine hK.out _ _ ?_ (fun hHeld => ?_)
              · exact unhide HSXd _ (unhide HA20).kp
              clear hK K HA10
              try simp only [Act.put, List.setIfInBounds_toArray, List.set_cons_zero, List.set_cons_succ]
              refine wpAnyH_ready (rs := [6]) (by kernel_rfl) (by simp) ?_
              refine AllReadyH.cons (o := ndO6) rfl (fun K hK => ?_) AllReadyH.nil
              · unfold ndO6
                go_simp
                have HA21 := hide ((unhide HA20).litE rfl evQ)
                unfold evQ Ev.c at HA21
                try rw [World.size_alloc] at HA21
                refine hK.out _ _ ?_ (fun hHeld => ?_)
                · exact unhide HSXd _ (unhide HA21).kp
                clear hK K HA20
                try simp only [Act.put, List.setIfInBounds_toArray, List.set_cons_zero, List.set_cons_succ]
                refine wpAnyH_ready (rs := [8]) (by kernel_rfl) (by simp) ?_
                refine AllReadyH.cons (o := ndO8) rfl (fun K hK => ?_) AllReadyH.nil
                · obtain ⟨gB21, cB21, wB21, hrun, hN⟩ := (unhide HA21).events rfl rfl (l := E) (unhide HES).symm (unhide HEVd _ (unhide HA21).kp) (unhide HNO2) (unhide HSP2) (by omega) 25
                  have HA22 := hide hN
                  unfold ndO8
                  refine step_app_run rfl _ _ _ rfl rfl rfl hrun ?_
                  clear hrun hN
                  refine hK.out _ _ ?_ (fun hHeld => ?_)
                  · exact unhide HSXd _ (unhide HA22).kp
                  clear hK K HA21
                  try simp only [Act.put, List.setIfInBounds_toArray, List.set_cons_zero, List.set_cons_succ]
                  refine wpAnyH_ready (rs := [9]) (by kernel_rfl) (by simp) ?_
                  refine AllReadyH.cons (o := ndO9) rfl (fun K hK => ?_) AllReadyH.nil
                  unfold ndO9
                  go_simp
                  go_at_call 20
                  refine (unhide HC18 _ _ _ _ _ _ _ (unhide HA22)).mono ?_
                  rintro e w9 ⟨rfl, hb9⟩
                  have HK9 := hide ((unhide HA22).kp.trans (Kp.ofBelow hb9) (by simp))
                  clear hb9
                  refine hK.out _ _ ?_ (fun hHeld => ?_)
                  · exact unhide HSXd _ (unhide HK9)
                  clear hK K
                  try simp only [Act.put, List.setIfInBounds_toArray, List.set_cons_zero, List.set_cons_succ]
                  refine wpAnyH_take (i := 10) (oi := { dst := some 60, op := Op.move (Operand.tmp 70), type := 38, pos := "more.go:50", after := #[{ on := 9, ground := Ground.data }], guard := none }) (v := ?_) rfl (by kernel_rfl) (by kernel_rfl) (by kernel_rfl) (fun _ _ _ h => h) (Or.inl ⟨by rfl, ?_⟩) (by assumption) ?_
                  rotate_left 1
                  · intro w0 hSw
                    (try dsimp only at hSw)
                    go_simp
                    (try with_reducible rfl)
                  try simp only [Act.put, List.setIfInBounds_toArray, List.set_cons_zero, List.set_cons_succ]
                  refine wpAnyH_take (i := 11) (oi := { dst := some 71, op := Op.extract (Operand.tmp 60) 0, type := 4, pos := "more.go:50", after := #[{ on := 10, ground := Ground.data }], guard := none }) (v := ?_) rfl (by kernel_rfl) (by kernel_rfl) (by kernel_rfl) (fun _ _ _ h => h) (Or.inl ⟨by rfl, ?_⟩) (by assumption) ?_
                  rotate_left 1
                  · intro w0 hSw
                    (try dsimp only at hSw)
                    go_simp
                    (try with_reducible rfl)
                  try simp only [Act.put, List.setIfInBounds_toArray, List.set_cons_zero, List.set_cons_succ]
                  refine wpAnyH_take (i := 12) (oi := { dst := some 72, op := Op.extract (Operand.tmp 60) 1, type := 35, pos := "more.go:50", after := #[{ on := 10, ground := Ground.data }, { on := 13, ground := Ground.gcOnly Departure.lateStores }], guard := none }) (v := ?_) rfl (by kernel_rfl) (by kernel_rfl) (by kernel_rfl) (fun _ _ _ h => h) (Or.inl ⟨by rfl, ?_⟩) (by assumption) ?_
                  rotate_left 1
                  · intro w0 hSw
                    (try dsimp only at hSw)
                    go_simp
                    (try with_reducible rfl)
                  try simp only [Act.put, List.setIfInBounds_toArray, List.set_cons_zero, List.set_cons_succ]
                  refine wpAnyH_take (i := 13) (oi := { dst := some 14, op := Op.assign (Operand.tmp 71), type := 4, pos := "more.go:50", after := #[{ on := 11, ground := Ground.data }, { on := 9, ground := Ground.chain }, { on := 0, ground := Ground.phase }, { on := 1, ground := Ground.phase }, { on := 2, ground := Ground.phase }, { on := 3, ground := Ground.phase }, { on := 4, ground := Ground.phase }, { on := 5, ground := Ground.phase }, { on := 6, ground := Ground.phase }, { on := 7, ground := Ground.phase }, { on := 8, ground := Ground.phase }, { on := 9, ground := Ground.phase }, { on := 10, ground := Ground.phase }, { on := 11, ground := Ground.phase }, { on := 12, ground := Ground.textOnly Departure.lateStores }], guard := none }) (v := ?_) rfl (by kernel_rfl) (by kernel_rfl) (by kernel_rfl) (fun _ _ _ h => h) (Or.inl ⟨by rfl, ?_⟩) (by assumption) ?_
                  rotate_left 1
                  · intro w0 hSw
                    (try dsimp only at hSw)
                    go_simp
                    (try with_reducible rfl)
                  try simp only [Act.put, List.setIfInBounds_toArray, List.set_cons_zero, List.set_cons_succ]
                  refine wpAnyH_take (i := 14) (oi := { dst := some 15, op := Op.assign (Operand.tmp 72), type := 35, pos := "more.go:50", after := #[{ on := 12, ground := Ground.data }, { on := 13, ground := Ground.chain }, { on := 0, ground := Ground.phase }, { on := 1, ground := Ground.phase }, { on := 2, ground := Ground.phase }, { on := 3, ground := Ground.phase }, { on := 4, ground := Ground.phase }, { on := 5, ground := Ground.phase }, { on := 6, ground := Ground.phase }, { on := 7, ground := Ground.phase }, { on := 8, ground := Ground.phase }, { on := 9, ground := Ground.phase }, { on := 10, ground := Ground.phase }, { on := 11, ground := Ground.phase }, { on := 12, ground := Ground.phase }, { on := 13, ground := Ground.phase }], guard := none }) (v := ?_) rfl (by kernel_rfl) (by kernel_rfl) (by kernel_rfl) (fun _ _ _ h => h) (Or.inl ⟨by rfl, ?_⟩) (by assumption) ?_
                  rotate_left 1
                  · intro w0 hSw
                    (try dsimp only at hSw)
                    go_simp
                    (try with_reducible rfl)
                  try simp only [Act.put, List.setIfInBounds_toArray, List.set_cons_zero, List.set_cons_succ]
                  refine wpAnyH_done (by kernel_rfl) ?_ _
                  go_wp2
                  go_meet
                  exact ⟨rfl, rfl, hide ((unhide HKd).trans (unhide HK9) (by simp))⟩
            · unfold ndO6
              go_simp
              have HA11 := hide ((unhide HA10).litE rfl evQ)
              unfold evQ Ev.c at HA11
              try rw [World.size_alloc] at HA11
              refine hK.out _ _ ?_ (fun hHeld => ?_)
              · exact unhide HSXd _ (unhide HA11).kp
              clear hK K HA10
              try simp only [Act.put, List.setIfInBounds_toArray, List.set_cons_zero, List.set_cons_succ]
              refine wpAnyH_ready (rs := [4]) (by kernel_rfl) (by simp) ?_
              refine AllReadyH.cons (o := ndO4) rfl (fun K hK => ?_) AllReadyH.nil
              · obtain ⟨gA11, cA11, wA11, hrun, hN⟩ := (unhide HA11).names rfl rfl (l := stgS xs) (unhide HNS).symm (unhide HNMd _ (unhide HA11).kp) (unhide HNO1) (unhide HSP1) (by omega) 54
                have HA21 := hide hN
                unfold ndO4
                refine step_app_run rfl _ _ _ rfl rfl rfl hrun ?_
                clear hrun hN
                refine hK.out _ _ ?_ (fun hHeld => ?_)
                · exact unhide HSXd _ (unhide HA21).kp
                clear hK K HA11
                try simp only [Act.put, List.setIfInBounds_toArray, List.set_cons_zero, List.set_cons_succ]
                refine wpAnyH_ready (rs := [8]) (by kernel_rfl) (by simp) ?_
                refine AllReadyH.cons (o := ndO8) rfl (fun K hK => ?_) AllReadyH.nil
                · obtain ⟨gB21, cB21, wB21, hrun, hN⟩ := (unhide HA21).events rfl rfl (l := E) (unhide HES).symm (unhide HEVd _ (unhide HA21).kp) (unhide HNO2) (unhide HSP2) (by omega) 25
                  have HA22 := hide hN
                  unfold ndO8
                  refine step_app_run rfl _ _ _ rfl rfl rfl hrun ?_
                  clear hrun hN
                  refine hK.out _ _ ?_ (fun hHeld => ?_)
                  · exact unhide HSXd _ (unhide HA22).kp
                  clear hK K HA21
                  try simp only [Act.put, List.setIfInBounds_toArray, List.set_cons_zero, List.set_cons_succ]
                  refine wpAnyH_ready (rs := [9]) (by kernel_rfl) (by simp) ?_
                  refine AllReadyH.cons (o := ndO9) rfl (fun K hK => ?_) AllReadyH.nil
                  unfold ndO9
                  go_simp
                  go_at_call 20
                  refine (unhide HC18 _ _ _ _ _ _ _ (unhide HA22)).mono ?_
                  rintro e w9 ⟨rfl, hb9⟩
                  have HK9 := hide ((unhide HA22).kp.trans (Kp.ofBelow hb9) (by simp))
                  clear hb9
                  refine hK.out _ _ ?_ (fun hHeld => ?_)
                  · exact unhide HSXd _ (unhide HK9)
                  clear hK K
                  try simp only [Act.put, List.setIfInBounds_toArray, List.set_cons_zero, List.set_cons_succ]
                  refine wpAnyH_take (i := 10) (oi := { dst := some 60, op := Op.move (Operand.tmp 70), type := 38, pos := "more.go:50", after := #[{ on := 9, ground := Ground.data }], guard := none }) (v := ?_) rfl (by kernel_rfl) (by kernel_rfl) (by kernel_rfl) (fun _ _ _ h => h) (Or.inl ⟨by rfl, ?_⟩) (by assumption) ?_
                  rotate_left 1
                  · intro w0 hSw
                    (try dsimp only at hSw)
                    go_simp
                    (try with_reducible rfl)
                  try simp only [Act.put, List.setIfInBounds_toArray, List.set_cons_zero, List.set_cons_succ]
                  refine wpAnyH_take (i := 11) (oi := { dst := some 71, op := Op.extract (Operand.tmp 60) 0, type := 4, pos := "more.go:50", after := #[{ on := 10, ground := Ground.data }], guard := none }) (v := ?_) rfl (by kernel_rfl) (by kernel_rfl) (by kernel_rfl) (fun _ _ _ h => h) (Or.inl ⟨by rfl, ?_⟩) (by assumption) ?_
                  rotate_left 1
                  · intro w0 hSw
                    (try dsimp only at hSw)
                    go_simp
                    (try with_reducible rfl)
                  try simp only [Act.put, List.setIfInBounds_toArray, List.set_cons_zero, List.set_cons_succ]
                  refine wpAnyH_take (i := 12) (oi := { dst := some 72, op := Op.extract (Operand.tmp 60) 1, type := 35, pos := "more.go:50", after := #[{ on := 10, ground := Ground.data }, { on := 13, ground := Ground.gcOnly Departure.lateStores }], guard := none }) (v := ?_) rfl (by kernel_rfl) (by kernel_rfl) (by kernel_rfl) (fun _ _ _ h => h) (Or.inl ⟨by rfl, ?_⟩) (by assumption) ?_
                  rotate_left 1
                  · intro w0 hSw
                    (try dsimp only at hSw)
                    go_simp
                    (try with_reducible rfl)
                  try simp only [Act.put, List.setIfInBounds_toArray, List.set_cons_zero, List.set_cons_succ]
                  refine wpAnyH_take (i := 13) (oi := { dst := some 14, op := Op.assign (Operand.tmp 71), type := 4, pos := "more.go:50", after := #[{ on := 11, ground := Ground.data }, { on := 9, ground := Ground.chain }, { on := 0, ground := Ground.phase }, { on := 1, ground := Ground.phase }, { on := 2, ground := Ground.phase }, { on := 3, ground := Ground.phase }, { on := 4, ground := Ground.phase }, { on := 5, ground := Ground.phase }, { on := 6, ground := Ground.phase }, { on := 7, ground := Ground.phase }, { on := 8, ground := Ground.phase }, { on := 9, ground := Ground.phase }, { on := 10, ground := Ground.phase }, { on := 11, ground := Ground.phase }, { on := 12, ground := Ground.textOnly Departure.lateStores }], guard := none }) (v := ?_) rfl (by kernel_rfl) (by kernel_rfl) (by kernel_rfl) (fun _ _ _ h => h) (Or.inl ⟨by rfl, ?_⟩) (by assumption) ?_
                  rotate_left 1
                  · intro w0 hSw
                    (try dsimp only at hSw)
                    go_simp
                    (try with_reducible rfl)
                  try simp only [Act.put, List.setIfInBounds_toArray, List.set_cons_zero, List.set_cons_succ]
                  refine wpAnyH_take (i := 14) (oi := { dst := some 15, op := Op.assign (Operand.tmp 72), type := 35, pos := "more.go:50", after := #[{ on := 12, ground := Ground.data }, { on := 13, ground := Ground.chain }, { on := 0, ground := Ground.phase }, { on := 1, ground := Ground.phase }, { on := 2, ground := Ground.phase }, { on := 3, ground := Ground.phase }, { on := 4, ground := Ground.phase }, { on := 5, ground := Ground.phase }, { on := 6, ground := Ground.phase }, { on := 7, ground := Ground.phase }, { on := 8, ground := Ground.phase }, { on := 9, ground := Ground.phase }, { on := 10, ground := Ground.phase }, { on := 11, ground := Ground.phase }, { on := 12, ground := Ground.phase }, { on := 13, ground := Ground.phase }], guard := none }) (v := ?_) rfl (by kernel_rfl) (by kernel_rfl) (by kernel_rfl) (fun _ _ _ h => h) (Or.inl ⟨by rfl, ?_⟩) (by assumption) ?_
                  rotate_left 1
                  · intro w0 hSw
                    (try dsimp only at hSw)
                    go_simp
                    (try with_reducible rfl)
                  try simp only [Act.put, List.setIfInBounds_toArray, List.set_cons_zero, List.set_cons_succ]
                  refine wpAnyH_done (by kernel_rfl) ?_ _
                  go_wp2
                  go_meet
                  exact ⟨rfl, rfl, hide ((unhide HKd).trans (unhide HK9) (by simp))⟩
          · unfold ndO6
            go_simp
            have HA01 := hide ((unhide HA00).litE rfl evQ)
            unfold evQ Ev.c at HA01
            try rw [World.size_alloc] at HA01
            refine hK.out _ _ ?_ (fun hHeld => ?_)
            · exact unhide HSXd _ (unhide HA01).kp
            clear hK K HA00
            try simp only [Act.put, List.setIfInBounds_toArray, List.set_cons_zero, List.set_cons_succ]
            refine wpAnyH_ready (rs := [2]) (by kernel_rfl) (by simp) ?_
            refine AllReadyH.cons (o := ndO2) rfl (fun K hK => ?_) AllReadyH.nil
            · unfold ndO2
              go_simp
              have HA11 := hide ((unhide HA01).lit rfl ⟨#[122, 122, 122]⟩)
              try rw [World.size_alloc] at HA11
              refine hK.out _ _ ?_ (fun hHeld => ?_)
              · exact unhide HSXd _ (unhide HA11).kp
              clear hK K HA01
              try simp only [Act.put, List.setIfInBounds_toArray, List.set_cons_zero, List.set_cons_succ]
              refine wpAnyH_ready (rs := [4]) (by kernel_rfl) (by simp) ?_
              refine AllReadyH.cons (o := ndO4) rfl (fun K hK => ?_) AllReadyH.nil
              · obtain ⟨gA11, cA11, wA11, hrun, hN⟩ := (unhide HA11).names rfl rfl (l := stgS xs) (unhide HNS).symm (unhide HNMd _ (unhide HA11).kp) (unhide HNO1) (unhide HSP1) (by omega) 54
                have HA21 := hide hN
                unfold ndO4
                refine step_app_run rfl _ _ _ rfl rfl rfl hrun ?_
                clear hrun hN
                refine hK.out _ _ ?_ (fun hHeld => ?_)
                · exact unhide HSXd _ (unhide HA21).kp
                clear hK K HA11
                try simp only [Act.put, List.setIfInBounds_toArray, List.set_cons_zero, List.set_cons_succ]
                refine wpAnyH_ready (rs := [8]) (by kernel_rfl) (by simp) ?_
                refine AllReadyH.cons (o := ndO8) rfl (fun K hK => ?_) AllReadyH.nil
                · obtain ⟨gB21, cB21, wB21, hrun, hN⟩ := (unhide HA21).events rfl rfl (l := E) (unhide HES).symm (unhide HEVd _ (unhide HA21).kp) (unhide HNO2) (unhide HSP2) (by omega) 25
                  have HA22 := hide hN
                  unfold ndO8
                  refine step_app_run rfl _ _ _ rfl rfl rfl hrun ?_
                  clear hrun hN
                  refine hK.out _ _ ?_ (fun hHeld => ?_)
                  · exact unhide HSXd _ (unhide HA22).kp
                  clear hK K HA21
                  try simp only [Act.put, List.setIfInBounds_toArray, List.set_cons_zero, List.set_cons_succ]
                  refine wpAnyH_ready (rs := [9]) (by kernel_rfl) (by simp) ?_
                  refine AllReadyH.cons (o := ndO9) rfl (fun K hK => ?_) AllReadyH.nil
                  unfold ndO9
                  go_simp
                  go_at_call 20
                  refine (unhide HC18 _ _ _ _ _ _ _ (unhide HA22)).mono ?_
                  rintro e w9 ⟨rfl, hb9⟩
                  have HK9 := hide ((unhide HA22).kp.trans (Kp.ofBelow hb9) (by simp))
                  clear hb9
                  refine hK.out _ _ ?_ (fun hHeld => ?_)
                  · exact unhide HSXd _ (unhide HK9)
                  clear hK K
                  try simp only [Act.put, List.setIfInBounds_toArray, List.set_cons_zero, List.set_cons_succ]
                  refine wpAnyH_take (i := 10) (oi := { dst := some 60, op := Op.move (Operand.tmp 70), type := 38, pos := "more.go:50", after := #[{ on := 9, ground := Ground.data }], guard := none }) (v := ?_) rfl (by kernel_rfl) (by kernel_rfl) (by kernel_rfl) (fun _ _ _ h => h) (Or.inl ⟨by rfl, ?_⟩) (by assumption) ?_
                  rotate_left 1
                  · intro w0 hSw
                    (try dsimp only at hSw)
                    go_simp
                    (try with_reducible rfl)
                  try simp only [Act.put, List.setIfInBounds_toArray, List.set_cons_zero, List.set_cons_succ]
                  refine wpAnyH_take (i := 11) (oi := { dst := some 71, op := Op.extract (Operand.tmp 60) 0, type := 4, pos := "more.go:50", after := #[{ on := 10, ground := Ground.data }], guard := none }) (v := ?_) rfl (by kernel_rfl) (by kernel_rfl) (by kernel_rfl) (fun _ _ _ h => h) (Or.inl ⟨by rfl, ?_⟩) (by assumption) ?_
                  rotate_left 1
                  · intro w0 hSw
                    (try dsimp only at hSw)
                    go_simp
                    (try with_reducible rfl)
                  try simp only [Act.put, List.setIfInBounds_toArray, List.set_cons_zero, List.set_cons_succ]
                  refine wpAnyH_take (i := 12) (oi := { dst := some 72, op := Op.extract (Operand.tmp 60) 1, type := 35, pos := "more.go:50", after := #[{ on := 10, ground := Ground.data }, { on := 13, ground := Ground.gcOnly Departure.lateStores }], guard := none }) (v := ?_) rfl (by kernel_rfl) (by kernel_rfl) (by kernel_rfl) (fun _ _ _ h => h) (Or.inl ⟨by rfl, ?_⟩) (by assumption) ?_
                  rotate_left 1
                  · intro w0 hSw
                    (try dsimp only at hSw)
                    go_simp
                    (try with_reducible rfl)
                  try simp only [Act.put, List.setIfInBounds_toArray, List.set_cons_zero, List.set_cons_succ]
                  refine wpAnyH_take (i := 13) (oi := { dst := some 14, op := Op.assign (Operand.tmp 71), type := 4, pos := "more.go:50", after := #[{ on := 11, ground := Ground.data }, { on := 9, ground := Ground.chain }, { on := 0, ground := Ground.phase }, { on := 1, ground := Ground.phase }, { on := 2, ground := Ground.phase }, { on := 3, ground := Ground.phase }, { on := 4, ground := Ground.phase }, { on := 5, ground := Ground.phase }, { on := 6, ground := Ground.phase }, { on := 7, ground := Ground.phase }, { on := 8, ground := Ground.phase }, { on := 9, ground := Ground.phase }, { on := 10, ground := Ground.phase }, { on := 11, ground := Ground.phase }, { on := 12, ground := Ground.textOnly Departure.lateStores }], guard := none }) (v := ?_) rfl (by kernel_rfl) (by kernel_rfl) (by kernel_rfl) (fun _ _ _ h => h) (Or.inl ⟨by rfl, ?_⟩) (by assumption) ?_
                  rotate_left 1
                  · intro w0 hSw
                    (try dsimp only at hSw)
                    go_simp
                    (try with_reducible rfl)
                  try simp only [Act.put, List.setIfInBounds_toArray, List.set_cons_zero, List.set_cons_succ]
                  refine wpAnyH_take (i := 14) (oi := { dst := some 15, op := Op.assign (Operand.tmp 72), type := 35, pos := "more.go:50", after := #[{ on := 12, ground := Ground.data }, { on := 13, ground := Ground.chain }, { on := 0, ground := Ground.phase }, { on := 1, ground := Ground.phase }, { on := 2, ground := Ground.phase }, { on := 3, ground := Ground.phase }, { on := 4, ground := Ground.phase }, { on := 5, ground := Ground.phase }, { on := 6, ground := Ground.phase }, { on := 7, ground := Ground.phase }, { on := 8, ground := Ground.phase }, { on := 9, ground := Ground.phase }, { on := 10, ground := Ground.phase }, { on := 11, ground := Ground.phase }, { on := 12, ground := Ground.phase }, { on := 13, ground := Ground.phase }], guard := none }) (v := ?_) rfl (by kernel_rfl) (by kernel_rfl) (by kernel_rfl) (fun _ _ _ h => h) (Or.inl ⟨by rfl, ?_⟩) (by assumption) ?_
                  rotate_left 1
                  · intro w0 hSw
                    (try dsimp only at hSw)
                    go_simp
                    (try with_reducible rfl)
                  try simp only [Act.put, List.setIfInBounds_toArray, List.set_cons_zero, List.set_cons_succ]
                  refine wpAnyH_done (by kernel_rfl) ?_ _
                  go_wp2
                  go_meet
                  exact ⟨rfl, rfl, hide ((unhide HKd).trans (unhide HK9) (by simp))⟩
        case rest =>
        obtain ⟨rfl, rfl, HK5⟩ := hcut
        clear HMORE HH2 HNL2
        have HK6 := hide ((unhide HK4).trans (unhide HK5) (by simp))
        have HNMc : Hid (∀ W, Kp [] wc W → NmsAt W a1 (stgS xs)) := hide (fun W hk => unhide HNM W ((unhide HK6).trans hk (by simp)))
        have HEVc : Hid (∀ W, Kp [] wc W → EvsAt W a2 E) := hide (fun W hk => unhide HEV W ((unhide HK6).trans hk (by simp)))
        have HSXc : Hid (∀ W, Kp [] wc W → W.cell? ⟨w.heap.size, 0, none⟩ = some (.string ev.k) ∧ W.cell? ⟨w.heap.size, 1, none⟩ = some (.string ev.t) ∧ W.cell? ⟨w.heap.size, 2, none⟩ = some (.int .i64 ev.n0) ∧ W.cell? ⟨w.heap.size, 3, none⟩ = some (.int .i64 ev.n1) ∧ W.cell? ⟨w.heap.size, 4, none⟩ = some (.int .i64 ev.n2) ∧ W.cell? ⟨w.heap.size, 5, none⟩ = some (.int .i64 ev.n3) ∧ W.cell? ⟨w.heap.size, 6, none⟩ = some (.string ev.x)) := hide (fun W hk => unhide HSX W ((unhide HK6).trans hk (by simp)))
        have HKWc : Hid (∀ W, Kp [] wc W → Kp [] w W) := hide (fun W hk => unhide HKW W ((unhide HK6).trans hk (by simp)))
        have HBSc : Hid (∀ (V W : World) (g1 N1 q1 g2 N2 q2 : Nat) (ns : List ByteArray) (es : List Ev) (R : Int), Kp [] wc V → ns.length ≤ 100000 → hdE xs ⟨ev, ns, es⟩ = R → AsR V.heap.size V W (.slice (some ⟨g1, 0, none⟩) N1 q1) (.slice (some ⟨g2, 0, none⟩) N2 q2) ns es → Calls Tryz.prog 20 #[.slice ad XL cap, .agg #[.string ev.k, .string ev.t, .int .i64 ev.n0, .int .i64 ev.n1, .int .i64 ev.n2, .int .i64 ev.n3, .string ev.x], .slice (some ⟨g1, 0, none⟩) N1 q1, .slice (some ⟨g2, 0, none⟩) N2 q2] W fun e w' => e = .returned (.tuple #[.bool (hdB xs ⟨ev, ns, es⟩), .int .i64 R]) ∧ Below W.heap.size W w') := hide (fun V W g1 N1 q1 g2 N2 q2 ns es R hkV => unhide HBS V W g1 N1 q1 g2 N2 q2 ns es R ((unhide HK6).trans hkV (by simp)))
        clear HNM HEV HSX HKW HBS HK4 HK5 HK6 HR HK2 HD HV hltr
        go_wp2_with fail
        go_loopw [75] (fun i wr' => ∃ j : Nat, j ≤ k ∧ i = .int .i64 (j : Int) ∧ wr' = wc ∧ Hid (∀ q (h : q < (stgS xs).length), q < j → (stgS xs)[q] ≠ (⟨#[122, 122, 122]⟩ : ByteArray))) (fun i _ => k - (intOf i).toNat)
        case atStart => exact ⟨0, Nat.zero_le _, rfl, rfl, hide (fun q _ h => by omega)⟩
        case round =>
          obtain ⟨j, hj, rfl, rfl, HZ⟩ := hrel
          by_cases hlt : j < k
          · have hli : (j : Int) < (k : Int) := by omega
            have hjl : j < (stgS xs).length := by rw [unhide HNS]; exact hlt
            obtain ⟨b, off, rfl, hbl, hcs⟩ := unhide HNMc _ (Kp.refl _ _) (fun e => by rw [e] at hjl; simp at hjl)
            have cj := hcs j hjl
            have HZN : Hid ((stgS xs)[j] ≠ (⟨#[122, 122, 122]⟩ : ByteArray) → ∀ q (h : q < (stgS xs).length), q < j + 1 → (stgS xs)[q] ≠ (⟨#[122, 122, 122]⟩ : ByteArray)) := hide (fun hne q hq hqj => by
              rcases Nat.lt_or_ge q j with h1 | h1
              · exact unhide HZ q hq h1
              · obtain rfl : q = j := by omega
                exact hne)
            clear hcs HZ
            by_cases hz : (stgS xs)[j] = (⟨#[122, 122, 122]⟩ : ByteArray)
            · rw [hz] at cj
              have HF := hide (unhide HKWc _ (Kp.refl _ _))
              clear HZN hz HNMc HEVc HSXc HKWc HBSc HSM
              go_wp2
              go_ret
              exact ⟨rfl, unhide HF⟩
            · have HZ2 := hide (unhide HZN hz)
              have hb1 : ((stgS xs)[j].toList == (⟨#[122, 122, 122]⟩ : ByteArray).toList) = false := strNe2 hz
              generalize (stgS xs)[j] = nm at *
              have hb2 : (nm.toList == [122, 122, 122]) = false := by have h := hb1; rw [ByteArray.toList_eq (⟨#[122, 122, 122]⟩ : ByteArray)] at h; exact h
              clear HZN hz HNMc HEVc HSXc HKWc HBSc HSM
              go_wp2_with fail
              go_roundw
              case rel => exact ⟨j + 1, by omega, by go_num, by first | rfl | trivial, HZ2⟩
              case measure => simp [intOf]; omega
          · obtain rfl : j = k := by omega
            have hnz : (⟨#[122, 122, 122]⟩ : ByteArray) ∉ stgS xs := fun hm => by
              obtain ⟨q, hq, e⟩ := List.getElem_of_mem hm
              exact unhide HZ q hq (by rw [unhide HNS] at hq; exact hq) e
            obtain rfl := unhide HSM hnz
            clear hnz HZ HSM
            go_wp2_with fail
            go_loopw [101] (fun i wr' => ∃ q : Nat, q ≤ j ∧ i = .int .i64 (q : Int) ∧ Hid (Kp [] wr wr')) (fun i _ => j - (intOf i).toNat)
            case atStart => exact ⟨0, Nat.zero_le _, rfl, hide (Kp.refl _ _)⟩
            case round =>
              obtain ⟨q, hq, rfl, HK⟩ := hrel
              by_cases hlt : q < j
              · have hli : (q : Int) < (j : Int) := by omega
                have hql : q < (stgS xs).length := by rw [unhide HNS]; exact hlt
                obtain ⟨g1, rfl⟩ := unhide HSO1 (fun e => by have := (unhide HNO1 e).1; omega)
                obtain ⟨g2, rfl⟩ := unhide HSO2 (fun e => by have := (unhide HNO2 e).1; omega)
                obtain ⟨aN, cN, hsN, hpN, hdN⟩ := slice_fromN g1 j c1 q (by omega) hnc1
                obtain ⟨aE, cE, hsE, hpE, hdE'⟩ := slice_fromE g2 j c2 q (by omega) hnc2
                have hwq : IntKind.i64.wrap ((q : Int) + 1) = (q : Int) + 1 := by rw [IntKind.wrap_i64]; omega
                have qi1 : (0 ≤ (q : Int) ∧ (q : Int) ≤ (c1 : Int)) := by omega
                have qi2 : (0 ≤ (q : Int) ∧ (q : Int) ≤ (c2 : Int)) := by omega
                have HL1N : Hid ((0 : Nat) = ([] : List ByteArray).length) := hide rfl
                have HM1N : Hid (q = ((stgS xs).take q).length) := hide (by rw [List.length_take, unhide HNS]; omega)
                have HP1N : Hid (∀ a, some (⟨g1, 0, none⟩ : Addr) = some a → a.spot = none) := hide (fun a e => by cases e; rfl)
                have HL2N : Hid (q = ([] ++ (stgS xs).take q).length) := hide (by rw [List.nil_append, List.length_take, unhide HNS]; omega)
                have HM2N : Hid (j - (q + 1) = ((stgS xs).drop (q + 1)).length) := hide (by rw [List.length_drop, unhide HNS])
                have HP2N := hide hpN
                have HL1E : Hid ((0 : Nat) = ([] : List Ev).length) := hide rfl
                have HM1E : Hid (q = (E.take q).length) := hide (by rw [List.length_take, unhide HES]; omega)
                have HP1E : Hid (∀ a, some (⟨g2, 0, none⟩ : Addr) = some a → a.spot = none) := hide (fun a e => by cases e; rfl)
                have HL2E : Hid (q = ([] ++ E.take q).length) := hide (by rw [List.nil_append, List.length_take, unhide HES]; omega)
                have HM2E : Hid (j - (q + 1) = (E.drop (q + 1)).length) := hide (by rw [List.length_drop, unhide HES])
                have HP2E := hide hpE
                have HDN := hide hdN
                have HDE := hide hdE'
                have HLE := hide (needs_less (e := ev) (es := ([] ++ E.take q) ++ E.drop (q + 1)) (unhide H3) hql)
                have HNL3 : Hid ((([] ++ (stgS xs).take q) ++ (stgS xs).drop (q + 1)).length ≤ 100000) := hide (by rw [List.nil_append, List.length_append, List.length_take, List.length_drop, unhide HNS]; omega)
                obtain ⟨M, hM⟩ : ∃ M, q + (j - (q + 1)) = M := ⟨_, rfl⟩
                have HJM := hide hM
                clear hM
                clear hpN hpE hdN hdE' hql
                go_upto_region 30 with fail
                go_cut [19, 20] (fun b h wc => ∃ bb : Bool, b = .bool bb ∧ h = .int .i64 5 ∧ Hid (Kp [] wr wc))
                case first =>
                  refine wp_region_held_drew (S := fun W => W.cell? ⟨w.heap.size, 0, none⟩ = some (.string ev.k) ∧ W.cell? ⟨w.heap.size, 1, none⟩ = some (.string ev.t) ∧ W.cell? ⟨w.heap.size, 2, none⟩ = some (.int .i64 ev.n0) ∧ W.cell? ⟨w.heap.size, 3, none⟩ = some (.int .i64 ev.n1) ∧ W.cell? ⟨w.heap.size, 4, none⟩ = some (.int .i64 ev.n2) ∧ W.cell? ⟨w.heap.size, 5, none⟩ = some (.int .i64 ev.n3) ∧ W.cell? ⟨w.heap.size, 6, none⟩ = some (.string ev.x)) (by kernel_rfl) (unhide HSXc _ ((unhide HK).trans (Kp.drew wr) (by simp))) (fun _ => ?_)
                  show wpAnyH _ _ _ _ _ 28 (Array.replicate 28 false) _ _
                  have HKd := hide (Kp.drew wr)
                  revert HKd
                  generalize wr.drew = Vd
                  intro HKd
                  have HKv := hide ((unhide HK).trans (unhide HKd) (by simp))
                  have HC30 : Hid (∀ W (g1 N1 q1 g2 N2 q2 : Nat), AsR Vd.heap.size Vd W (.slice (some ⟨g1, 0, none⟩) N1 q1) (.slice (some ⟨g2, 0, none⟩) N2 q2) (([] ++ (stgS xs).take q) ++ (stgS xs).drop (q + 1)) (([] ++ E.take q) ++ E.drop (q + 1)) → Calls Tryz.prog 20 #[.slice ad XL cap, .agg #[.string ev.k, .string ev.t, .int .i64 ev.n0, .int .i64 ev.n1, .int .i64 ev.n2, .int .i64 ev.n3, .string ev.x], .slice (some ⟨g1, 0, none⟩) N1 q1, .slice (some ⟨g2, 0, none⟩) N2 q2] W fun e w' => e = .returned (.tuple #[.bool (hdB xs ⟨ev, ([] ++ (stgS xs).take q) ++ (stgS xs).drop (q + 1), ([] ++ E.take q) ++ E.drop (q + 1)⟩), .int .i64 5]) ∧ Below W.heap.size W w') := hide (fun W g1 N1 q1 g2 N2 q2 hA => unhide HBSc Vd W g1 N1 q1 g2 N2 q2 (([] ++ (stgS xs).take q) ++ (stgS xs).drop (q + 1)) (([] ++ E.take q) ++ E.drop (q + 1)) 5 (unhide HKv) (unhide HNL3) (unhide HLE) hA)
                  have HR1N : Hid (∀ W, Kp [] Vd W → NmsAt W (some ⟨g1, 0, none⟩) ((stgS xs).take q)) := hide (fun W hk => nms_take (unhide HNMc W ((unhide HKv).trans hk (by simp))) q)
                  have HR2N : Hid (∀ W, Kp [] Vd W → NmsAt W (some aN) ((stgS xs).drop (q + 1))) := hide (fun W hk => nms_drop (unhide HNMc W ((unhide HKv).trans hk (by simp))) (by rw [unhide HNS]; exact unhide HDN))
                  have HR1E : Hid (∀ W, Kp [] Vd W → EvsAt W (some ⟨g2, 0, none⟩) (E.take q)) := hide (fun W hk => evs_take (unhide HEVc W ((unhide HKv).trans hk (by simp))) q)
                  have HR2E : Hid (∀ W, Kp [] Vd W → EvsAt W (some aE) (E.drop (q + 1))) := hide (fun W hk => evs_drop (unhide HEVc W ((unhide HKv).trans hk (by simp))) (by rw [unhide HES]; exact unhide HDE))
                  have HSXd : Hid (∀ W, Kp [] Vd W → W.cell? ⟨w.heap.size, 0, none⟩ = some (.string ev.k) ∧ W.cell? ⟨w.heap.size, 1, none⟩ = some (.string ev.t) ∧ W.cell? ⟨w.heap.size, 2, none⟩ = some (.int .i64 ev.n0) ∧ W.cell? ⟨w.heap.size, 3, none⟩ = some (.int .i64 ev.n1) ∧ W.cell? ⟨w.heap.size, 4, none⟩ = some (.int .i64 ev.n2) ∧ W.cell? ⟨w.heap.size, 5, none⟩ = some (.int .i64 ev.n3) ∧ W.cell? ⟨w.heap.size, 6, none⟩ = some (.string ev.x)) := hide (fun W hk => unhide HSXc W ((unhide HKv).trans hk (by simp)))
                  have HA00 : Hid (AsR Vd.heap.size Vd Vd (.slice none 0 0) (.slice none 0 0) [] []) := hide ⟨OwnsW.nil _ _, OwnsX.nil _ _, Kp.refl _ _⟩
                  have hHeld := unhide HSXd Vd (Kp.refl _ _)
                  clear HBSc HNMc HEVc HSXc HKWc HKv HLE HNL3 HDN HDE H3 HK HSP1 HSP2 HNO1 HNO2 HSO1 HSO2 HNS HES
                  refine wpAnyH_take (i := 0) (oi := { dst := some 105, op := Op.move (Operand.tmp 0), type := 31, pos := "more.go:60", after := #[], guard := none }) (v := ?_) rfl (by kernel_rfl) (by kernel_rfl) (by kernel_rfl) (fun _ _ _ h => h) (Or.inl ⟨by rfl, ?_⟩) (by assumption) ?_
                  rotate_left 1
                  · intro w0 hSw
                    (try dsimp only at hSw)
                    go_simp
                    (try with_reducible rfl)
                  try simp only [Act.put, List.setIfInBounds_toArray, List.set_cons_zero, List.set_cons_succ]
                  refine wpAnyH_take (i := 1) (oi := { dst := some 106, op := Op.load 29 (Operand.tmp 4), type := 29, pos := "more.go:60", after := #[], guard := none }) (v := ?_) rfl (by kernel_rfl) (by kernel_rfl) (by kernel_rfl) (fun _ _ _ h => h) (Or.inl ⟨by rfl, ?_⟩) (by assumption) ?_
                  rotate_left 1
                  · intro w0 hSw
                    (try dsimp only at hSw)
                    go_simp
                    (try with_reducible rfl)
                  try simp only [Act.put, List.setIfInBounds_toArray, List.set_cons_zero, List.set_cons_succ]
                  refine wpAnyH_take (i := 3) (oi := { dst := some 108, op := Op.move (Operand.tmp 7), type := 54, pos := "more.go:60", after := #[], guard := none }) (v := ?_) rfl (by kernel_rfl) (by kernel_rfl) (by kernel_rfl) (fun _ _ _ h => h) (Or.inl ⟨by rfl, ?_⟩) (by assumption) ?_
                  rotate_left 1
                  · intro w0 hSw
                    (try dsimp only at hSw)
                    go_simp
                    (try with_reducible rfl)
                  try simp only [Act.put, List.setIfInBounds_toArray, List.set_cons_zero, List.set_cons_succ]
                  refine wpAnyH_take (i := 4) (oi := { dst := some 109, op := Op.move (Operand.tmp 18), type := 3, pos := "more.go:60", after := #[], guard := none }) (v := ?_) rfl (by kernel_rfl) (by kernel_rfl) (by kernel_rfl) (fun _ _ _ h => h) (Or.inl ⟨by rfl, ?_⟩) (by assumption) ?_
                  rotate_left 1
                  · intro w0 hSw
                    (try dsimp only at hSw)
                    go_simp
                    (try with_reducible rfl)
                  try simp only [Act.put, List.setIfInBounds_toArray, List.set_cons_zero, List.set_cons_succ]
                  refine wpAnyH_take (i := 5) (oi := { dst := some 110, op := Op.slice 54 (Operand.tmp 108) none (some (Operand.tmp 109)) none, type := 54, pos := "more.go:60", after := #[{ on := 3, ground := Ground.data }, { on := 4, ground := Ground.data }], guard := none }) (v := ?_) rfl (by kernel_rfl) (by kernel_rfl) (by kernel_rfl) (fun _ _ _ h => h) (Or.inl ⟨by rfl, ?_⟩) (by assumption) ?_
                  rotate_left 1
                  · intro w0 hSw
                    (try dsimp only at hSw)
                    go_simp
                    (try with_reducible rfl)
                  try simp only [Act.put, List.setIfInBounds_toArray, List.set_cons_zero, List.set_cons_succ]
                  refine wpAnyH_take (i := 7) (oi := { dst := some 112, op := Op.move (Operand.tmp 7), type := 54, pos := "more.go:60", after := #[], guard := none }) (v := ?_) rfl (by kernel_rfl) (by kernel_rfl) (by kernel_rfl) (fun _ _ _ h => h) (Or.inl ⟨by rfl, ?_⟩) (by assumption) ?_
                  rotate_left 1
                  · intro w0 hSw
                    (try dsimp only at hSw)
                    go_simp
                    (try with_reducible rfl)
                  try simp only [Act.put, List.setIfInBounds_toArray, List.set_cons_zero, List.set_cons_succ]
                  refine wpAnyH_take (i := 8) (oi := { dst := some 113, op := Op.move (Operand.tmp 18), type := 3, pos := "more.go:60", after := #[], guard := none }) (v := ?_) rfl (by kernel_rfl) (by kernel_rfl) (by kernel_rfl) (fun _ _ _ h => h) (Or.inl ⟨by rfl, ?_⟩) (by assumption) ?_
                  rotate_left 1
                  · intro w0 hSw
                    (try dsimp only at hSw)
                    go_simp
                    (try with_reducible rfl)
                  try simp only [Act.put, List.setIfInBounds_toArray, List.set_cons_zero, List.set_cons_succ]
                  refine wpAnyH_take (i := 9) (oi := { dst := some 114, op := Op.binOp BinOp.add 3 (Operand.tmp 113) (Operand.const (Value.int IntKind.i64 1)) 3, type := 3, pos := "more.go:60", after := #[{ on := 8, ground := Ground.data }], guard := none }) (v := ?_) rfl (by kernel_rfl) (by kernel_rfl) (by kernel_rfl) (fun _ _ _ h => h) (Or.inl ⟨by rfl, ?_⟩) (by assumption) ?_
                  rotate_left 1
                  · intro w0 hSw
                    (try dsimp only at hSw)
                    go_simp
                    (try with_reducible rfl)
                  try simp only [Act.put, List.setIfInBounds_toArray, List.set_cons_zero, List.set_cons_succ]
                  refine wpAnyH_take (i := 10) (oi := { dst := some 115, op := Op.slice 54 (Operand.tmp 112) (some (Operand.tmp 114)) none none, type := 54, pos := "more.go:60", after := #[{ on := 7, ground := Ground.data }, { on := 9, ground := Ground.data }], guard := none }) (v := .slice (some aN) (j - (q + 1)) cN) rfl (by kernel_rfl) (by kernel_rfl) (by kernel_rfl) (fun _ _ _ h => h) (Or.inl ⟨by rfl, ?_⟩) (by assumption) ?_
                  · intro w0 hSw
                    refine exec_slice (val := .slice (some ⟨g1, 0, none⟩) j c1) (lv := .int .i64 ((q : Int) + 1)) rfl ?_ ?_ (hsN w0) <;> go_simp
                  try simp only [Act.put, List.setIfInBounds_toArray, List.set_cons_zero, List.set_cons_succ]
                  refine wpAnyH_take (i := 13) (oi := { dst := some 118, op := Op.move (Operand.tmp 9), type := 25, pos := "more.go:60", after := #[], guard := none }) (v := ?_) rfl (by kernel_rfl) (by kernel_rfl) (by kernel_rfl) (fun _ _ _ h => h) (Or.inl ⟨by rfl, ?_⟩) (by assumption) ?_
                  rotate_left 1
                  · intro w0 hSw
                    (try dsimp only at hSw)
                    go_simp
                    (try with_reducible rfl)
                  try simp only [Act.put, List.setIfInBounds_toArray, List.set_cons_zero, List.set_cons_succ]
                  refine wpAnyH_take (i := 14) (oi := { dst := some 119, op := Op.move (Operand.tmp 18), type := 3, pos := "more.go:60", after := #[], guard := none }) (v := ?_) rfl (by kernel_rfl) (by kernel_rfl) (by kernel_rfl) (fun _ _ _ h => h) (Or.inl ⟨by rfl, ?_⟩) (by assumption) ?_
                  rotate_left 1
                  · intro w0 hSw
                    (try dsimp only at hSw)
                    go_simp
                    (try with_reducible rfl)
                  try simp only [Act.put, List.setIfInBounds_toArray, List.set_cons_zero, List.set_cons_succ]
                  refine wpAnyH_take (i := 15) (oi := { dst := some 120, op := Op.slice 25 (Operand.tmp 118) none (some (Operand.tmp 119)) none, type := 25, pos := "more.go:60", after := #[{ on := 13, ground := Ground.data }, { on := 14, ground := Ground.data }], guard := none }) (v := ?_) rfl (by kernel_rfl) (by kernel_rfl) (by kernel_rfl) (fun _ _ _ h => h) (Or.inl ⟨by rfl, ?_⟩) (by assumption) ?_
                  rotate_left 1
                  · intro w0 hSw
                    (try dsimp only at hSw)
                    go_simp
                    (try with_reducible rfl)
                  try simp only [Act.put, List.setIfInBounds_toArray, List.set_cons_zero, List.set_cons_succ]
                  refine wpAnyH_take (i := 17) (oi := { dst := some 122, op := Op.move (Operand.tmp 9), type := 25, pos := "more.go:60", after := #[], guard := none }) (v := ?_) rfl (by kernel_rfl) (by kernel_rfl) (by kernel_rfl) (fun _ _ _ h => h) (Or.inl ⟨by rfl, ?_⟩) (by assumption) ?_
                  rotate_left 1
                  · intro w0 hSw
                    (try dsimp only at hSw)
                    go_simp
                    (try with_reducible rfl)
                  try simp only [Act.put, List.setIfInBounds_toArray, List.set_cons_zero, List.set_cons_succ]
                  refine wpAnyH_take (i := 18) (oi := { dst := some 123, op := Op.move (Operand.tmp 18), type := 3, pos := "more.go:60", after := #[], guard := none }) (v := ?_) rfl (by kernel_rfl) (by kernel_rfl) (by kernel_rfl) (fun _ _ _ h => h) (Or.inl ⟨by rfl, ?_⟩) (by assumption) ?_
                  rotate_left 1
                  · intro w0 hSw
                    (try dsimp only at hSw)
                    go_simp
                    (try with_reducible rfl)
                  try simp only [Act.put, List.setIfInBounds_toArray, List.set_cons_zero, List.set_cons_succ]
                  refine wpAnyH_take (i := 19) (oi := { dst := some 124, op := Op.binOp BinOp.add 3 (Operand.tmp 123) (Operand.const (Value.int IntKind.i64 1)) 3, type := 3, pos := "more.go:60", after := #[{ on := 18, ground := Ground.data }], guard := none }) (v := ?_) rfl (by kernel_rfl) (by kernel_rfl) (by kernel_rfl) (fun _ _ _ h => h) (Or.inl ⟨by rfl, ?_⟩) (by assumption) ?_
                  rotate_left 1
                  · intro w0 hSw
                    (try dsimp only at hSw)
                    go_simp
                    (try with_reducible rfl)
                  try simp only [Act.put, List.setIfInBounds_toArray, List.set_cons_zero, List.set_cons_succ]
                  refine wpAnyH_take (i := 20) (oi := { dst := some 125, op := Op.slice 25 (Operand.tmp 122) (some (Operand.tmp 124)) none none, type := 25, pos := "more.go:60", after := #[{ on := 17, ground := Ground.data }, { on := 19, ground := Ground.data }], guard := none }) (v := .slice (some aE) (j - (q + 1)) cE) rfl (by kernel_rfl) (by kernel_rfl) (by kernel_rfl) (fun _ _ _ h => h) (Or.inl ⟨by rfl, ?_⟩) (by assumption) ?_
                  · intro w0 hSw
                    refine exec_slice (val := .slice (some ⟨g2, 0, none⟩) j c2) (lv := .int .i64 ((q : Int) + 1)) rfl ?_ ?_ (hsE w0) <;> go_simp
                  try simp only [Act.put, List.setIfInBounds_toArray, List.set_cons_zero, List.set_cons_succ]
                  refine wpAnyH_ready (rs := [2, 12]) (by kernel_rfl) (by simp) ?_
                  refine AllReadyH.cons (o := ndP2) rfl (fun K hK => ?_) (AllReadyH.cons (o := ndP12) rfl (fun K hK => ?_) AllReadyH.nil)
                  · unfold ndP2
                    go_simp
                    have HA10 := hide ((unhide HA00).empN rfl)
                    try rw [World.size_alloc] at HA10
                    refine hK.out _ _ ?_ (fun hHeld => ?_)
                    · exact unhide HSXd _ (unhide HA10).kp
                    clear hK K HA00
                    try simp only [Act.put, List.setIfInBounds_toArray, List.set_cons_zero, List.set_cons_succ]
                    refine wpAnyH_ready (rs := [6, 12]) (by kernel_rfl) (by simp) ?_
                    refine AllReadyH.cons (o := ndP6) rfl (fun K hK => ?_) (AllReadyH.cons (o := ndP12) rfl (fun K hK => ?_) AllReadyH.nil)
                    · obtain ⟨gA10, cA10, wA10, hrun, hN⟩ := (unhide HA10).names (unhide HL1N) rfl (unhide HM1N) (unhide HR1N _ (unhide HA10).kp) (fun e => by cases e) (unhide HP1N) (by omega) 54
                      rw [Nat.zero_add] at hrun hN
                      have HA20 := hide hN
                      unfold ndP6
                      refine step_app_run rfl _ _ _ rfl rfl rfl hrun ?_
                      clear hrun hN
                      refine hK.out _ _ ?_ (fun hHeld => ?_)
                      · exact unhide HSXd _ (unhide HA20).kp
                      clear hK K HA10
                      try simp only [Act.put, List.setIfInBounds_toArray, List.set_cons_zero, List.set_cons_succ]
                      refine wpAnyH_ready (rs := [11, 12]) (by kernel_rfl) (by simp) ?_
                      refine AllReadyH.cons (o := ndP11) rfl (fun K hK => ?_) (AllReadyH.cons (o := ndP12) rfl (fun K hK => ?_) AllReadyH.nil)
                      · obtain ⟨gA20, cA20, wA20, hrun, hN⟩ := (unhide HA20).names (unhide HL2N) rfl (unhide HM2N) (unhide HR2N _ (unhide HA20).kp) (fun e => by cases e) (unhide HP2N) (by omega) 54
                        rw [unhide HJM] at hrun hN
                        have HA30 := hide hN
                        unfold ndP11
                        refine step_app_run rfl _ _ _ rfl rfl rfl hrun ?_
                        clear hrun hN
                        refine hK.out _ _ ?_ (fun hHeld => ?_)
                        · exact unhide HSXd _ (unhide HA30).kp
                        clear hK K HA20
                        try simp only [Act.put, List.setIfInBounds_toArray, List.set_cons_zero, List.set_cons_succ]
                        refine wpAnyH_ready (rs := [12]) (by kernel_rfl) (by simp) ?_
                        refine AllReadyH.cons (o := ndP12) rfl (fun K hK => ?_) AllReadyH.nil
                        · unfold ndP12
                          go_simp
                          have HA31 := hide ((unhide HA30).empE rfl)
                          try rw [World.size_alloc] at HA31
                          refine hK.out _ _ ?_ (fun hHeld => ?_)
                          · exact unhide HSXd _ (unhide HA31).kp
                          clear hK K HA30
                          try simp only [Act.put, List.setIfInBounds_toArray, List.set_cons_zero, List.set_cons_succ]
                          refine wpAnyH_ready (rs := [16]) (by kernel_rfl) (by simp) ?_
                          refine AllReadyH.cons (o := ndP16) rfl (fun K hK => ?_) AllReadyH.nil
                          · obtain ⟨gB31, cB31, wB31, hrun, hN⟩ := (unhide HA31).events (unhide HL1E) rfl (unhide HM1E) (unhide HR1E _ (unhide HA31).kp) (fun e => by cases e) (unhide HP1E) (by omega) 25
                            rw [Nat.zero_add] at hrun hN
                            have HA32 := hide hN
                            unfold ndP16
                            refine step_app_run rfl _ _ _ rfl rfl rfl hrun ?_
                            clear hrun hN
                            refine hK.out _ _ ?_ (fun hHeld => ?_)
                            · exact unhide HSXd _ (unhide HA32).kp
                            clear hK K HA31
                            try simp only [Act.put, List.setIfInBounds_toArray, List.set_cons_zero, List.set_cons_succ]
                            refine wpAnyH_ready (rs := [21]) (by kernel_rfl) (by simp) ?_
                            refine AllReadyH.cons (o := ndP21) rfl (fun K hK => ?_) AllReadyH.nil
                            · obtain ⟨gB32, cB32, wB32, hrun, hN⟩ := (unhide HA32).events (unhide HL2E) rfl (unhide HM2E) (unhide HR2E _ (unhide HA32).kp) (fun e => by cases e) (unhide HP2E) (by omega) 25
                              rw [unhide HJM] at hrun hN
                              have HA33 := hide hN
                              unfold ndP21
                              refine step_app_run rfl _ _ _ rfl rfl rfl hrun ?_
                              clear hrun hN
                              refine hK.out _ _ ?_ (fun hHeld => ?_)
                              · exact unhide HSXd _ (unhide HA33).kp
                              clear hK K HA32
                              try simp only [Act.put, List.setIfInBounds_toArray, List.set_cons_zero, List.set_cons_succ]
                              refine wpAnyH_ready (rs := [22]) (by kernel_rfl) (by simp) ?_
                              refine AllReadyH.cons (o := ndP22) rfl (fun K hK => ?_) AllReadyH.nil
                              unfold ndP22
                              go_simp
                              go_at_call 20
                              refine (unhide HC30 _ _ _ _ _ _ _ (unhide HA33)).mono ?_
                              rintro e w9 ⟨rfl, hb9⟩
                              have HK9 := hide ((unhide HA33).kp.trans (Kp.ofBelow hb9) (by simp))
                              clear hb9
                              refine hK.out _ _ ?_ (fun hHeld => ?_)
                              · exact unhide HSXd _ (unhide HK9)
                              clear hK K
                              try simp only [Act.put, List.setIfInBounds_toArray, List.set_cons_zero, List.set_cons_succ]
                              refine wpAnyH_take (i := 23) (oi := { dst := some 104, op := Op.move (Operand.tmp 127), type := 38, pos := "more.go:60", after := #[{ on := 22, ground := Ground.data }], guard := none }) (v := ?_) rfl (by kernel_rfl) (by kernel_rfl) (by kernel_rfl) (fun _ _ _ h => h) (Or.inl ⟨by rfl, ?_⟩) (by assumption) ?_
                              rotate_left 1
                              · intro w0 hSw
                                (try dsimp only at hSw)
                                go_simp
                                (try with_reducible rfl)
                              try simp only [Act.put, List.setIfInBounds_toArray, List.set_cons_zero, List.set_cons_succ]
                              refine wpAnyH_take (i := 24) (oi := { dst := some 128, op := Op.extract (Operand.tmp 104) 0, type := 4, pos := "more.go:60", after := #[{ on := 23, ground := Ground.data }], guard := none }) (v := ?_) rfl (by kernel_rfl) (by kernel_rfl) (by kernel_rfl) (fun _ _ _ h => h) (Or.inl ⟨by rfl, ?_⟩) (by assumption) ?_
                              rotate_left 1
                              · intro w0 hSw
                                (try dsimp only at hSw)
                                go_simp
                                (try with_reducible rfl)
                              try simp only [Act.put, List.setIfInBounds_toArray, List.set_cons_zero, List.set_cons_succ]
                              refine wpAnyH_take (i := 25) (oi := { dst := some 129, op := Op.extract (Operand.tmp 104) 1, type := 35, pos := "more.go:60", after := #[{ on := 23, ground := Ground.data }, { on := 26, ground := Ground.gcOnly Departure.lateStores }], guard := none }) (v := ?_) rfl (by kernel_rfl) (by kernel_rfl) (by kernel_rfl) (fun _ _ _ h => h) (Or.inl ⟨by rfl, ?_⟩) (by assumption) ?_
                              rotate_left 1
                              · intro w0 hSw
                                (try dsimp only at hSw)
                                go_simp
                                (try with_reducible rfl)
                              try simp only [Act.put, List.setIfInBounds_toArray, List.set_cons_zero, List.set_cons_succ]
                              refine wpAnyH_take (i := 26) (oi := { dst := some 19, op := Op.assign (Operand.tmp 128), type := 4, pos := "more.go:60", after := #[{ on := 24, ground := Ground.data }, { on := 22, ground := Ground.chain }, { on := 0, ground := Ground.phase }, { on := 1, ground := Ground.phase }, { on := 2, ground := Ground.phase }, { on := 3, ground := Ground.phase }, { on := 4, ground := Ground.phase }, { on := 5, ground := Ground.phase }, { on := 6, ground := Ground.phase }, { on := 7, ground := Ground.phase }, { on := 8, ground := Ground.phase }, { on := 9, ground := Ground.phase }, { on := 10, ground := Ground.phase }, { on := 11, ground := Ground.phase }, { on := 12, ground := Ground.phase }, { on := 13, ground := Ground.phase }, { on := 14, ground := Ground.phase }, { on := 15, ground := Ground.phase }, { on := 16, ground := Ground.phase }, { on := 17, ground := Ground.phase }, { on := 18, ground := Ground.phase }, { on := 19, ground := Ground.phase }, { on := 20, ground := Ground.phase }, { on := 21, ground := Ground.phase }, { on := 22, ground := Ground.phase }, { on := 23, ground := Ground.phase }, { on := 24, ground := Ground.phase }, { on := 25, ground := Ground.textOnly Departure.lateStores }], guard := none }) (v := ?_) rfl (by kernel_rfl) (by kernel_rfl) (by kernel_rfl) (fun _ _ _ h => h) (Or.inl ⟨by rfl, ?_⟩) (by assumption) ?_
                              rotate_left 1
                              · intro w0 hSw
                                (try dsimp only at hSw)
                                go_simp
                                (try with_reducible rfl)
                              try simp only [Act.put, List.setIfInBounds_toArray, List.set_cons_zero, List.set_cons_succ]
                              refine wpAnyH_take (i := 27) (oi := { dst := some 20, op := Op.assign (Operand.tmp 129), type := 35, pos := "more.go:60", after := #[{ on := 25, ground := Ground.data }, { on := 26, ground := Ground.chain }, { on := 0, ground := Ground.phase }, { on := 1, ground := Ground.phase }, { on := 2, ground := Ground.phase }, { on := 3, ground := Ground.phase }, { on := 4, ground := Ground.phase }, { on := 5, ground := Ground.phase }, { on := 6, ground := Ground.phase }, { on := 7, ground := Ground.phase }, { on := 8, ground := Ground.phase }, { on := 9, ground := Ground.phase }, { on := 10, ground := Ground.phase }, { on := 11, ground := Ground.phase }, { on := 12, ground := Ground.phase }, { on := 13, ground := Ground.phase }, { on := 14, ground := Ground.phase }, { on := 15, ground := Ground.phase }, { on := 16, ground := Ground.phase }, { on := 17, ground := Ground.phase }, { on := 18, ground := Ground.phase }, { on := 19, ground := Ground.phase }, { on := 20, ground := Ground.phase }, { on := 21, ground := Ground.phase }, { on := 22, ground := Ground.phase }, { on := 23, ground := Ground.phase }, { on := 24, ground := Ground.phase }, { on := 25, ground := Ground.phase }, { on := 26, ground := Ground.phase }], guard := none }) (v := ?_) rfl (by kernel_rfl) (by kernel_rfl) (by kernel_rfl) (fun _ _ _ h => h) (Or.inl ⟨by rfl, ?_⟩) (by assumption) ?_
                              rotate_left 1
                              · intro w0 hSw
                                (try dsimp only at hSw)
                                go_simp
                                (try with_reducible rfl)
                              try simp only [Act.put, List.setIfInBounds_toArray, List.set_cons_zero, List.set_cons_succ]
                              refine wpAnyH_done (by kernel_rfl) ?_ _
                              go_wp2
                              go_meet
                              exact ⟨_, rfl, rfl, hide ((unhide HKd).trans (unhide HK9) (by simp))⟩
                      · unfold ndP12
                        go_simp
                        have HA21 := hide ((unhide HA20).empE rfl)
                        try rw [World.size_alloc] at HA21
                        refine hK.out _ _ ?_ (fun hHeld => ?_)
                        · exact unhide HSXd _ (unhide HA21).kp
                        clear hK K HA20
                        try simp only [Act.put, List.setIfInBounds_toArray, List.set_cons_zero, List.set_cons_succ]
                        refine wpAnyH_ready (rs := [11]) (by kernel_rfl) (by simp) ?_
                        refine AllReadyH.cons (o := ndP11) rfl (fun K hK => ?_) AllReadyH.nil
                        · obtain ⟨gA21, cA21, wA21, hrun, hN⟩ := (unhide HA21).names (unhide HL2N) rfl (unhide HM2N) (unhide HR2N _ (unhide HA21).kp) (fun e => by cases e) (unhide HP2N) (by omega) 54
                          rw [unhide HJM] at hrun hN
                          have HA31 := hide hN
                          unfold ndP11
                          refine step_app_run rfl _ _ _ rfl rfl rfl hrun ?_
                          clear hrun hN
                          refine hK.out _ _ ?_ (fun hHeld => ?_)
                          · exact unhide HSXd _ (unhide HA31).kp
                          clear hK K HA21
                          try simp only [Act.put, List.setIfInBounds_toArray, List.set_cons_zero, List.set_cons_succ]
                          refine wpAnyH_ready (rs := [16]) (by kernel_rfl) (by simp) ?_
                          refine AllReadyH.cons (o := ndP16) rfl (fun K hK => ?_) AllReadyH.nil
                          · obtain ⟨gB31, cB31, wB31, hrun, hN⟩ := (unhide HA31).events (unhide HL1E) rfl (unhide HM1E) (unhide HR1E _ (unhide HA31).kp) (fun e => by cases e) (unhide HP1E) (by omega) 25
                            rw [Nat.zero_add] at hrun hN
                            have HA32 := hide hN
                            unfold ndP16
                            refine step_app_run rfl _ _ _ rfl rfl rfl hrun ?_
                            clear hrun hN
                            refine hK.out _ _ ?_ (fun hHeld => ?_)
                            · exact unhide HSXd _ (unhide HA32).kp
                            clear hK K HA31
                            try simp only [Act.put, List.setIfInBounds_toArray, List.set_cons_zero, List.set_cons_succ]
                            refine wpAnyH_ready (rs := [21]) (by kernel_rfl) (by simp) ?_
                            refine AllReadyH.cons (o := ndP21) rfl (fun K hK => ?_) AllReadyH.nil
                            · obtain ⟨gB32, cB32, wB32, hrun, hN⟩ := (unhide HA32).events (unhide HL2E) rfl (unhide HM2E) (unhide HR2E _ (unhide HA32).kp) (fun e => by cases e) (unhide HP2E) (by omega) 25
                              rw [unhide HJM] at hrun hN
                              have HA33 := hide hN
                              unfold ndP21
                              refine step_app_run rfl _ _ _ rfl rfl rfl hrun ?_
                              clear hrun hN
                              refine hK.out _ _ ?_ (fun hHeld => ?_)
                              · exact unhide HSXd _ (unhide HA33).kp
                              clear hK K HA32
                              try simp only [Act.put, List.setIfInBounds_toArray, List.set_cons_zero, List.set_cons_succ]
                              refine wpAnyH_ready (rs := [22]) (by kernel_rfl) (by simp) ?_
                              refine AllReadyH.cons (o := ndP22) rfl (fun K hK => ?_) AllReadyH.nil
                              unfold ndP22
                              go_simp
                              go_at_call 20
                              refine (unhide HC30 _ _ _ _ _ _ _ (unhide HA33)).mono ?_
                              rintro e w9 ⟨rfl, hb9⟩
                              have HK9 := hide ((unhide HA33).kp.trans (Kp.ofBelow hb9) (by simp))
                              clear hb9
                              refine hK.out _ _ ?_ (fun hHeld => ?_)
                              · exact unhide HSXd _ (unhide HK9)
                              clear hK K
                              try simp only [Act.put, List.setIfInBounds_toArray, List.set_cons_zero, List.set_cons_succ]
                              refine wpAnyH_take (i := 23) (oi := { dst := some 104, op := Op.move (Operand.tmp 127), type := 38, pos := "more.go:60", after := #[{ on := 22, ground := Ground.data }], guard := none }) (v := ?_) rfl (by kernel_rfl) (by kernel_rfl) (by kernel_rfl) (fun _ _ _ h => h) (Or.inl ⟨by rfl, ?_⟩) (by assumption) ?_
                              rotate_left 1
                              · intro w0 hSw
                                (try dsimp only at hSw)
                                go_simp
                                (try with_reducible rfl)
                              try simp only [Act.put, List.setIfInBounds_toArray, List.set_cons_zero, List.set_cons_succ]
                              refine wpAnyH_take (i := 24) (oi := { dst := some 128, op := Op.extract (Operand.tmp 104) 0, type := 4, pos := "more.go:60", after := #[{ on := 23, ground := Ground.data }], guard := none }) (v := ?_) rfl (by kernel_rfl) (by kernel_rfl) (by kernel_rfl) (fun _ _ _ h => h) (Or.inl ⟨by rfl, ?_⟩) (by assumption) ?_
                              rotate_left 1
                              · intro w0 hSw
                                (try dsimp only at hSw)
                                go_simp
                                (try with_reducible rfl)
                              try simp only [Act.put, List.setIfInBounds_toArray, List.set_cons_zero, List.set_cons_succ]
                              refine wpAnyH_take (i := 25) (oi := { dst := some 129, op := Op.extract (Operand.tmp 104) 1, type := 35, pos := "more.go:60", after := #[{ on := 23, ground := Ground.data }, { on := 26, ground := Ground.gcOnly Departure.lateStores }], guard := none }) (v := ?_) rfl (by kernel_rfl) (by kernel_rfl) (by kernel_rfl) (fun _ _ _ h => h) (Or.inl ⟨by rfl, ?_⟩) (by assumption) ?_
                              rotate_left 1
                              · intro w0 hSw
                                (try dsimp only at hSw)
                                go_simp
                                (try with_reducible rfl)
                              try simp only [Act.put, List.setIfInBounds_toArray, List.set_cons_zero, List.set_cons_succ]
                              refine wpAnyH_take (i := 26) (oi := { dst := some 19, op := Op.assign (Operand.tmp 128), type := 4, pos := "more.go:60", after := #[{ on := 24, ground := Ground.data }, { on := 22, ground := Ground.chain }, { on := 0, ground := Ground.phase }, { on := 1, ground := Ground.phase }, { on := 2, ground := Ground.phase }, { on := 3, ground := Ground.phase }, { on := 4, ground := Ground.phase }, { on := 5, ground := Ground.phase }, { on := 6, ground := Ground.phase }, { on := 7, ground := Ground.phase }, { on := 8, ground := Ground.phase }, { on := 9, ground := Ground.phase }, { on := 10, ground := Ground.phase }, { on := 11, ground := Ground.phase }, { on := 12, ground := Ground.phase }, { on := 13, ground := Ground.phase }, { on := 14, ground := Ground.phase }, { on := 15, ground := Ground.phase }, { on := 16, ground := Ground.phase }, { on := 17, ground := Ground.phase }, { on := 18, ground := Ground.phase }, { on := 19, ground := Ground.phase }, { on := 20, ground := Ground.phase }, { on := 21, ground := Ground.phase }, { on := 22, ground := Ground.phase }, { on := 23, ground := Ground.phase }, { on := 24, ground := Ground.phase }, { on := 25, ground := Ground.textOnly Departure.lateStores }], guard := none }) (v := ?_) rfl (by kernel_rfl) (by kernel_rfl) (by kernel_rfl) (fun _ _ _ h => h) (Or.inl ⟨by rfl, ?_⟩) (by assumption) ?_
                              rotate_left 1
                              · intro w0 hSw
                                (try dsimp only at hSw)
                                go_simp
                                (try with_reducible rfl)
                              try simp only [Act.put, List.setIfInBounds_toArray, List.set_cons_zero, List.set_cons_succ]
                              refine wpAnyH_take (i := 27) (oi := { dst := some 20, op := Op.assign (Operand.tmp 129), type := 35, pos := "more.go:60", after := #[{ on := 25, ground := Ground.data }, { on := 26, ground := Ground.chain }, { on := 0, ground := Ground.phase }, { on := 1, ground := Ground.phase }, { on := 2, ground := Ground.phase }, { on := 3, ground := Ground.phase }, { on := 4, ground := Ground.phase }, { on := 5, ground := Ground.phase }, { on := 6, ground := Ground.phase }, { on := 7, ground := Ground.phase }, { on := 8, ground := Ground.phase }, { on := 9, ground := Ground.phase }, { on := 10, ground := Ground.phase }, { on := 11, ground := Ground.phase }, { on := 12, ground := Ground.phase }, { on := 13, ground := Ground.phase }, { on := 14, ground := Ground.phase }, { on := 15, ground := Ground.phase }, { on := 16, ground := Ground.phase }, { on := 17, ground := Ground.phase }, { on := 18, ground := Ground.phase }, { on := 19, ground := Ground.phase }, { on := 20, ground := Ground.phase }, { on := 21, ground := Ground.phase }, { on := 22, ground := Ground.phase }, { on := 23, ground := Ground.phase }, { on := 24, ground := Ground.phase }, { on := 25, ground := Ground.phase }, { on := 26, ground := Ground.phase }], guard := none }) (v := ?_) rfl (by kernel_rfl) (by kernel_rfl) (by kernel_rfl) (fun _ _ _ h => h) (Or.inl ⟨by rfl, ?_⟩) (by assumption) ?_
                              rotate_left 1
                              · intro w0 hSw
                                (try dsimp only at hSw)
                                go_simp
                                (try with_reducible rfl)
                              try simp only [Act.put, List.setIfInBounds_toArray, List.set_cons_zero, List.set_cons_succ]
                              refine wpAnyH_done (by kernel_rfl) ?_ _
                              go_wp2
                              go_meet
                              exact ⟨_, rfl, rfl, hide ((unhide HKd).trans (unhide HK9) (by simp))⟩
                    · unfold ndP12
                      go_simp
                      have HA11 := hide ((unhide HA10).empE rfl)
                      try rw [World.size_alloc] at HA11
                      refine hK.out _ _ ?_ (fun hHeld => ?_)
                      · exact unhide HSXd _ (unhide HA11).kp
                      clear hK K HA10
                      try simp only [Act.put, List.setIfInBounds_toArray, List.set_cons_zero, List.set_cons_succ]
                      refine wpAnyH_ready (rs := [6]) (by kernel_rfl) (by simp) ?_
                      refine AllReadyH.cons (o := ndP6) rfl (fun K hK => ?_) AllReadyH.nil
                      · obtain ⟨gA11, cA11, wA11, hrun, hN⟩ := (unhide HA11).names (unhide HL1N) rfl (unhide HM1N) (unhide HR1N _ (unhide HA11).kp) (fun e => by cases e) (unhide HP1N) (by omega) 54
                        rw [Nat.zero_add] at hrun hN
                        have HA21 := hide hN
                        unfold ndP6
                        refine step_app_run rfl _ _ _ rfl rfl rfl hrun ?_
                        clear hrun hN
                        refine hK.out _ _ ?_ (fun hHeld => ?_)
                        · exact unhide HSXd _ (unhide HA21).kp
                        clear hK K HA11
                        try simp only [Act.put, List.setIfInBounds_toArray, List.set_cons_zero, List.set_cons_succ]
                        refine wpAnyH_ready (rs := [11]) (by kernel_rfl) (by simp) ?_
                        refine AllReadyH.cons (o := ndP11) rfl (fun K hK => ?_) AllReadyH.nil
                        · obtain ⟨gA21, cA21, wA21, hrun, hN⟩ := (unhide HA21).names (unhide HL2N) rfl (unhide HM2N) (unhide HR2N _ (unhide HA21).kp) (fun e => by cases e) (unhide HP2N) (by omega) 54
                          rw [unhide HJM] at hrun hN
                          have HA31 := hide hN
                          unfold ndP11
                          refine step_app_run rfl _ _ _ rfl rfl rfl hrun ?_
                          clear hrun hN
                          refine hK.out _ _ ?_ (fun hHeld => ?_)
                          · exact unhide HSXd _ (unhide HA31).kp
                          clear hK K HA21
                          try simp only [Act.put, List.setIfInBounds_toArray, List.set_cons_zero, List.set_cons_succ]
                          refine wpAnyH_ready (rs := [16]) (by kernel_rfl) (by simp) ?_
                          refine AllReadyH.cons (o := ndP16) rfl (fun K hK => ?_) AllReadyH.nil
                          · obtain ⟨gB31, cB31, wB31, hrun, hN⟩ := (unhide HA31).events (unhide HL1E) rfl (unhide HM1E) (unhide HR1E _ (unhide HA31).kp) (fun e => by cases e) (unhide HP1E) (by omega) 25
                            rw [Nat.zero_add] at hrun hN
                            have HA32 := hide hN
                            unfold ndP16
                            refine step_app_run rfl _ _ _ rfl rfl rfl hrun ?_
                            clear hrun hN
                            refine hK.out _ _ ?_ (fun hHeld => ?_)
                            · exact unhide HSXd _ (unhide HA32).kp
                            clear hK K HA31
                            try simp only [Act.put, List.setIfInBounds_toArray, List.set_cons_zero, List.set_cons_succ]
                            refine wpAnyH_ready (rs := [21]) (by kernel_rfl) (by simp) ?_
                            refine AllReadyH.cons (o := ndP21) rfl (fun K hK => ?_) AllReadyH.nil
                            · obtain ⟨gB32, cB32, wB32, hrun, hN⟩ := (unhide HA32).events (unhide HL2E) rfl (unhide HM2E) (unhide HR2E _ (unhide HA32).kp) (fun e => by cases e) (unhide HP2E) (by omega) 25
                              rw [unhide HJM] at hrun hN
                              have HA33 := hide hN
                              unfold ndP21
                              refine step_app_run rfl _ _ _ rfl rfl rfl hrun ?_
                              clear hrun hN
                              refine hK.out _ _ ?_ (fun hHeld => ?_)
                              · exact unhide HSXd _ (unhide HA33).kp
                              clear hK K HA32
                              try simp only [Act.put, List.setIfInBounds_toArray, List.set_cons_zero, List.set_cons_succ]
                              refine wpAnyH_ready (rs := [22]) (by kernel_rfl) (by simp) ?_
                              refine AllReadyH.cons (o := ndP22) rfl (fun K hK => ?_) AllReadyH.nil
                              unfold ndP22
                              go_simp
                              go_at_call 20
                              refine (unhide HC30 _ _ _ _ _ _ _ (unhide HA33)).mono ?_
                              rintro e w9 ⟨rfl, hb9⟩
                              have HK9 := hide ((unhide HA33).kp.trans (Kp.ofBelow hb9) (by simp))
                              clear hb9
                              refine hK.out _ _ ?_ (fun hHeld => ?_)
                              · exact unhide HSXd _ (unhide HK9)
                              clear hK K
                              try simp only [Act.put, List.setIfInBounds_toArray, List.set_cons_zero, List.set_cons_succ]
                              refine wpAnyH_take (i := 23) (oi := { dst := some 104, op := Op.move (Operand.tmp 127), type := 38, pos := "more.go:60", after := #[{ on := 22, ground := Ground.data }], guard := none }) (v := ?_) rfl (by kernel_rfl) (by kernel_rfl) (by kernel_rfl) (fun _ _ _ h => h) (Or.inl ⟨by rfl, ?_⟩) (by assumption) ?_
                              rotate_left 1
                              · intro w0 hSw
                                (try dsimp only at hSw)
                                go_simp
                                (try with_reducible rfl)
                              try simp only [Act.put, List.setIfInBounds_toArray, List.set_cons_zero, List.set_cons_succ]
                              refine wpAnyH_take (i := 24) (oi := { dst := some 128, op := Op.extract (Operand.tmp 104) 0, type := 4, pos := "more.go:60", after := #[{ on := 23, ground := Ground.data }], guard := none }) (v := ?_) rfl (by kernel_rfl) (by kernel_rfl) (by kernel_rfl) (fun _ _ _ h => h) (Or.inl ⟨by rfl, ?_⟩) (by assumption) ?_
                              rotate_left 1
                              · intro w0 hSw
                                (try dsimp only at hSw)
                                go_simp
                                (try with_reducible rfl)
                              try simp only [Act.put, List.setIfInBounds_toArray, List.set_cons_zero, List.set_cons_succ]
                              refine wpAnyH_take (i := 25) (oi := { dst := some 129, op := Op.extract (Operand.tmp 104) 1, type := 35, pos := "more.go:60", after := #[{ on := 23, ground := Ground.data }, { on := 26, ground := Ground.gcOnly Departure.lateStores }], guard := none }) (v := ?_) rfl (by kernel_rfl) (by kernel_rfl) (by kernel_rfl) (fun _ _ _ h => h) (Or.inl ⟨by rfl, ?_⟩) (by assumption) ?_
                              rotate_left 1
                              · intro w0 hSw
                                (try dsimp only at hSw)
                                go_simp
                                (try with_reducible rfl)
                              try simp only [Act.put, List.setIfInBounds_toArray, List.set_cons_zero, List.set_cons_succ]
                              refine wpAnyH_take (i := 26) (oi := { dst := some 19, op := Op.assign (Operand.tmp 128), type := 4, pos := "more.go:60", after := #[{ on := 24, ground := Ground.data }, { on := 22, ground := Ground.chain }, { on := 0, ground := Ground.phase }, { on := 1, ground := Ground.phase }, { on := 2, ground := Ground.phase }, { on := 3, ground := Ground.phase }, { on := 4, ground := Ground.phase }, { on := 5, ground := Ground.phase }, { on := 6, ground := Ground.phase }, { on := 7, ground := Ground.phase }, { on := 8, ground := Ground.phase }, { on := 9, ground := Ground.phase }, { on := 10, ground := Ground.phase }, { on := 11, ground := Ground.phase }, { on := 12, ground := Ground.phase }, { on := 13, ground := Ground.phase }, { on := 14, ground := Ground.phase }, { on := 15, ground := Ground.phase }, { on := 16, ground := Ground.phase }, { on := 17, ground := Ground.phase }, { on := 18, ground := Ground.phase }, { on := 19, ground := Ground.phase }, { on := 20, ground := Ground.phase }, { on := 21, ground := Ground.phase }, { on := 22, ground := Ground.phase }, { on := 23, ground := Ground.phase }, { on := 24, ground := Ground.phase }, { on := 25, ground := Ground.textOnly Departure.lateStores }], guard := none }) (v := ?_) rfl (by kernel_rfl) (by kernel_rfl) (by kernel_rfl) (fun _ _ _ h => h) (Or.inl ⟨by rfl, ?_⟩) (by assumption) ?_
                              rotate_left 1
                              · intro w0 hSw
                                (try dsimp only at hSw)
                                go_simp
                                (try with_reducible rfl)
                              try simp only [Act.put, List.setIfInBounds_toArray, List.set_cons_zero, List.set_cons_succ]
                              refine wpAnyH_take (i := 27) (oi := { dst := some 20, op := Op.assign (Operand.tmp 129), type := 35, pos := "more.go:60", after := #[{ on := 25, ground := Ground.data }, { on := 26, ground := Ground.chain }, { on := 0, ground := Ground.phase }, { on := 1, ground := Ground.phase }, { on := 2, ground := Ground.phase }, { on := 3, ground := Ground.phase }, { on := 4, ground := Ground.phase }, { on := 5, ground := Ground.phase }, { on := 6, ground := Ground.phase }, { on := 7, ground := Ground.phase }, { on := 8, ground := Ground.phase }, { on := 9, ground := Ground.phase }, { on := 10, ground := Ground.phase }, { on := 11, ground := Ground.phase }, { on := 12, ground := Ground.phase }, { on := 13, ground := Ground.phase }, { on := 14, ground := Ground.phase }, { on := 15, ground := Ground.phase }, { on := 16, ground := Ground.phase }, { on := 17, ground := Ground.phase }, { on := 18, ground := Ground.phase }, { on := 19, ground := Ground.phase }, { on := 20, ground := Ground.phase }, { on := 21, ground := Ground.phase }, { on := 22, ground := Ground.phase }, { on := 23, ground := Ground.phase }, { on := 24, ground := Ground.phase }, { on := 25, ground := Ground.phase }, { on := 26, ground := Ground.phase }], guard := none }) (v := ?_) rfl (by kernel_rfl) (by kernel_rfl) (by kernel_rfl) (fun _ _ _ h => h) (Or.inl ⟨by rfl, ?_⟩) (by assumption) ?_
                              rotate_left 1
                              · intro w0 hSw
                                (try dsimp only at hSw)
                                go_simp
                                (try with_reducible rfl)
                              try simp only [Act.put, List.setIfInBounds_toArray, List.set_cons_zero, List.set_cons_succ]
                              refine wpAnyH_done (by kernel_rfl) ?_ _
                              go_wp2
                              go_meet
                              exact ⟨_, rfl, rfl, hide ((unhide HKd).trans (unhide HK9) (by simp))⟩
                  · unfold ndP12
                    go_simp
                    have HA01 := hide ((unhide HA00).empE rfl)
                    try rw [World.size_alloc] at HA01
                    refine hK.out _ _ ?_ (fun hHeld => ?_)
                    · exact unhide HSXd _ (unhide HA01).kp
                    clear hK K HA00
                    try simp only [Act.put, List.setIfInBounds_toArray, List.set_cons_zero, List.set_cons_succ]
                    refine wpAnyH_ready (rs := [2]) (by kernel_rfl) (by simp) ?_
                    refine AllReadyH.cons (o := ndP2) rfl (fun K hK => ?_) AllReadyH.nil
                    · unfold ndP2
                      go_simp
                      have HA11 := hide ((unhide HA01).empN rfl)
                      try rw [World.size_alloc] at HA11
                      refine hK.out _ _ ?_ (fun hHeld => ?_)
                      · exact unhide HSXd _ (unhide HA11).kp
                      clear hK K HA01
                      try simp only [Act.put, List.setIfInBounds_toArray, List.set_cons_zero, List.set_cons_succ]
                      refine wpAnyH_ready (rs := [6]) (by kernel_rfl) (by simp) ?_
                      refine AllReadyH.cons (o := ndP6) rfl (fun K hK => ?_) AllReadyH.nil
                      · obtain ⟨gA11, cA11, wA11, hrun, hN⟩ := (unhide HA11).names (unhide HL1N) rfl (unhide HM1N) (unhide HR1N _ (unhide HA11).kp) (fun e => by cases e) (unhide HP1N) (by omega) 54
                        rw [Nat.zero_add] at hrun hN
                        have HA21 := hide hN
                        unfold ndP6
                        refine step_app_run rfl _ _ _ rfl rfl rfl hrun ?_
                        clear hrun hN
                        refine hK.out _ _ ?_ (fun hHeld => ?_)
                        · exact unhide HSXd _ (unhide HA21).kp
                        clear hK K HA11
                        try simp only [Act.put, List.setIfInBounds_toArray, List.set_cons_zero, List.set_cons_succ]
                        refine wpAnyH_ready (rs := [11]) (by kernel_rfl) (by simp) ?_
                        refine AllReadyH.cons (o := ndP11) rfl (fun K hK => ?_) AllReadyH.nil
                        · obtain ⟨gA21, cA21, wA21, hrun, hN⟩ := (unhide HA21).names (unhide HL2N) rfl (unhide HM2N) (unhide HR2N _ (unhide HA21).kp) (fun e => by cases e) (unhide HP2N) (by omega) 54
                          rw [unhide HJM] at hrun hN
                          have HA31 := hide hN
                          unfold ndP11
                          refine step_app_run rfl _ _ _ rfl rfl rfl hrun ?_
                          clear hrun hN
                          refine hK.out _ _ ?_ (fun hHeld => ?_)
                          · exact unhide HSXd _ (unhide HA31).kp
                          clear hK K HA21
                          try simp only [Act.put, List.setIfInBounds_toArray, List.set_cons_zero, List.set_cons_succ]
                          refine wpAnyH_ready (rs := [16]) (by kernel_rfl) (by simp) ?_
                          refine AllReadyH.cons (o := ndP16) rfl (fun K hK => ?_) AllReadyH.nil
                          · obtain ⟨gB31, cB31, wB31, hrun, hN⟩ := (unhide HA31).events (unhide HL1E) rfl (unhide HM1E) (unhide HR1E _ (unhide HA31).kp) (fun e => by cases e) (unhide HP1E) (by omega) 25
                            rw [Nat.zero_add] at hrun hN
                            have HA32 := hide hN
                            unfold ndP16
                            refine step_app_run rfl _ _ _ rfl rfl rfl hrun ?_
                            clear hrun hN
                            refine hK.out _ _ ?_ (fun hHeld => ?_)
                            · exact unhide HSXd _ (unhide HA32).kp
                            clear hK K HA31
                            try simp only [Act.put, List.setIfInBounds_toArray, List.set_cons_zero, List.set_cons_succ]
                            refine wpAnyH_ready (rs := [21]) (by kernel_rfl) (by simp) ?_
                            refine AllReadyH.cons (o := ndP21) rfl (fun K hK => ?_) AllReadyH.nil
                            · obtain ⟨gB32, cB32, wB32, hrun, hN⟩ := (unhide HA32).events (unhide HL2E) rfl (unhide HM2E) (unhide HR2E _ (unhide HA32).kp) (fun e => by cases e) (unhide HP2E) (by omega) 25
                              rw [unhide HJM] at hrun hN
                              have HA33 := hide hN
                              unfold ndP21
                              refine step_app_run rfl _ _ _ rfl rfl rfl hrun ?_
                              clear hrun hN
                              refine hK.out _ _ ?_ (fun hHeld => ?_)
                              · exact unhide HSXd _ (unhide HA33).kp
                              clear hK K HA32
                              try simp only [Act.put, List.setIfInBounds_toArray, List.set_cons_zero, List.set_cons_succ]
                              refine wpAnyH_ready (rs := [22]) (by kernel_rfl) (by simp) ?_
                              refine AllReadyH.cons (o := ndP22) rfl (fun K hK => ?_) AllReadyH.nil
                              unfold ndP22
                              go_simp
                              go_at_call 20
                              refine (unhide HC30 _ _ _ _ _ _ _ (unhide HA33)).mono ?_
                              rintro e w9 ⟨rfl, hb9⟩
                              have HK9 := hide ((unhide HA33).kp.trans (Kp.ofBelow hb9) (by simp))
                              clear hb9
                              refine hK.out _ _ ?_ (fun hHeld => ?_)
                              · exact unhide HSXd _ (unhide HK9)
                              clear hK K
                              try simp only [Act.put, List.setIfInBounds_toArray, List.set_cons_zero, List.set_cons_succ]
                              refine wpAnyH_take (i := 23) (oi := { dst := some 104, op := Op.move (Operand.tmp 127), type := 38, pos := "more.go:60", after := #[{ on := 22, ground := Ground.data }], guard := none }) (v := ?_) rfl (by kernel_rfl) (by kernel_rfl) (by kernel_rfl) (fun _ _ _ h => h) (Or.inl ⟨by rfl, ?_⟩) (by assumption) ?_
                              rotate_left 1
                              · intro w0 hSw
                                (try dsimp only at hSw)
                                go_simp
                                (try with_reducible rfl)
                              try simp only [Act.put, List.setIfInBounds_toArray, List.set_cons_zero, List.set_cons_succ]
                              refine wpAnyH_take (i := 24) (oi := { dst := some 128, op := Op.extract (Operand.tmp 104) 0, type := 4, pos := "more.go:60", after := #[{ on := 23, ground := Ground.data }], guard := none }) (v := ?_) rfl (by kernel_rfl) (by kernel_rfl) (by kernel_rfl) (fun _ _ _ h => h) (Or.inl ⟨by rfl, ?_⟩) (by assumption) ?_
                              rotate_left 1
                              · intro w0 hSw
                                (try dsimp only at hSw)
                                go_simp
                                (try with_reducible rfl)
                              try simp only [Act.put, List.setIfInBounds_toArray, List.set_cons_zero, List.set_cons_succ]
                              refine wpAnyH_take (i := 25) (oi := { dst := some 129, op := Op.extract (Operand.tmp 104) 1, type := 35, pos := "more.go:60", after := #[{ on := 23, ground := Ground.data }, { on := 26, ground := Ground.gcOnly Departure.lateStores }], guard := none }) (v := ?_) rfl (by kernel_rfl) (by kernel_rfl) (by kernel_rfl) (fun _ _ _ h => h) (Or.inl ⟨by rfl, ?_⟩) (by assumption) ?_
                              rotate_left 1
                              · intro w0 hSw
                                (try dsimp only at hSw)
                                go_simp
                                (try with_reducible rfl)
                              try simp only [Act.put, List.setIfInBounds_toArray, List.set_cons_zero, List.set_cons_succ]
                              refine wpAnyH_take (i := 26) (oi := { dst := some 19, op := Op.assign (Operand.tmp 128), type := 4, pos := "more.go:60", after := #[{ on := 24, ground := Ground.data }, { on := 22, ground := Ground.chain }, { on := 0, ground := Ground.phase }, { on := 1, ground := Ground.phase }, { on := 2, ground := Ground.phase }, { on := 3, ground := Ground.phase }, { on := 4, ground := Ground.phase }, { on := 5, ground := Ground.phase }, { on := 6, ground := Ground.phase }, { on := 7, ground := Ground.phase }, { on := 8, ground := Ground.phase }, { on := 9, ground := Ground.phase }, { on := 10, ground := Ground.phase }, { on := 11, ground := Ground.phase }, { on := 12, ground := Ground.phase }, { on := 13, ground := Ground.phase }, { on := 14, ground := Ground.phase }, { on := 15, ground := Ground.phase }, { on := 16, ground := Ground.phase }, { on := 17, ground := Ground.phase }, { on := 18, ground := Ground.phase }, { on := 19, ground := Ground.phase }, { on := 20, ground := Ground.phase }, { on := 21, ground := Ground.phase }, { on := 22, ground := Ground.phase }, { on := 23, ground := Ground.phase }, { on := 24, ground := Ground.phase }, { on := 25, ground := Ground.textOnly Departure.lateStores }], guard := none }) (v := ?_) rfl (by kernel_rfl) (by kernel_rfl) (by kernel_rfl) (fun _ _ _ h => h) (Or.inl ⟨by rfl, ?_⟩) (by assumption) ?_
                              rotate_left 1
                              · intro w0 hSw
                                (try dsimp only at hSw)
                                go_simp
                                (try with_reducible rfl)
                              try simp only [Act.put, List.setIfInBounds_toArray, List.set_cons_zero, List.set_cons_succ]
                              refine wpAnyH_take (i := 27) (oi := { dst := some 20, op := Op.assign (Operand.tmp 129), type := 35, pos := "more.go:60", after := #[{ on := 25, ground := Ground.data }, { on := 26, ground := Ground.chain }, { on := 0, ground := Ground.phase }, { on := 1, ground := Ground.phase }, { on := 2, ground := Ground.phase }, { on := 3, ground := Ground.phase }, { on := 4, ground := Ground.phase }, { on := 5, ground := Ground.phase }, { on := 6, ground := Ground.phase }, { on := 7, ground := Ground.phase }, { on := 8, ground := Ground.phase }, { on := 9, ground := Ground.phase }, { on := 10, ground := Ground.phase }, { on := 11, ground := Ground.phase }, { on := 12, ground := Ground.phase }, { on := 13, ground := Ground.phase }, { on := 14, ground := Ground.phase }, { on := 15, ground := Ground.phase }, { on := 16, ground := Ground.phase }, { on := 17, ground := Ground.phase }, { on := 18, ground := Ground.phase }, { on := 19, ground := Ground.phase }, { on := 20, ground := Ground.phase }, { on := 21, ground := Ground.phase }, { on := 22, ground := Ground.phase }, { on := 23, ground := Ground.phase }, { on := 24, ground := Ground.phase }, { on := 25, ground := Ground.phase }, { on := 26, ground := Ground.phase }], guard := none }) (v := ?_) rfl (by kernel_rfl) (by kernel_rfl) (by kernel_rfl) (fun _ _ _ h => h) (Or.inl ⟨by rfl, ?_⟩) (by assumption) ?_
                              rotate_left 1
                              · intro w0 hSw
                                (try dsimp only at hSw)
                                go_simp
                                (try with_reducible rfl)
                              try simp only [Act.put, List.setIfInBounds_toArray, List.set_cons_zero, List.set_cons_succ]
                              refine wpAnyH_done (by kernel_rfl) ?_ _
                              go_wp2
                              go_meet
                              exact ⟨_, rfl, rfl, hide ((unhide HKd).trans (unhide HK9) (by simp))⟩
                case rest =>
                obtain ⟨bb, rfl, rfl, HK7⟩ := hcut
                have HK8 := hide ((unhide HK).trans (unhide HK7) (by simp))
                clear HLE HNL3 HDN HDE HL1N HM1N HP1N HL2N HM2N HP2N HL1E HM1E HP1E HL2E HM2E HP2E hsN hsE HJM HBSc HNMc HEVc HSXc
                go_wp2_with fail
                go_roundw
                case rel => exact ⟨q + 1, by omega, by go_num, HK8⟩
                case measure => simp [intOf]; omega
              · obtain rfl : q = j := by omega
                have HF := hide (unhide HKWc _ (unhide HK))
                clear HBSc HNMc HEVc HSXc HKWc
                go_wp2
                go_ret
                exact ⟨rfl, unhide HF⟩
  · have hb3 : (ckK xs == 3) = false := beq_eq_false_iff_ne.2 h3
    rw [hb3]
    have HF := (unhide HV w2 (unhide HK2)).2.1
    clear SG2 HD HV hb3 h3
    go_wp2
    go_ret
    exact ⟨rfl, unhide HF⟩
end Go.Proofs.YtogklmljllocbabGreatDoor
