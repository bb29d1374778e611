/-
  apply: a change made on files: what the plain function says; nothing but the files' own map and rows has changed.
-/
import Derived.Test.YtdmckgcbmbhmmaaGreatDoorRw10
import Derived.Deep.RegionHeld3
namespace Go.Proofs.YtdmckgcbmbhmmaaGreatDoor
open Go.RowKit

/-- What a change leaves. -/
def Made (w : World) (b : Nat) (fs : Fs) (L : List Nat) (w' : World) : Prop := ∃ L', FilesAt w' b fs L' ∧ Kp (b :: L) w w' ∧ ∀ k ∈ L', k ∈ L ∨ w.heap.size ≤ k
theorem rows_kp {b : Nat} {w w' : World} {l : List Ent} (hr : ∀ x ∈ l, Row w x.v x.has) (hk : Kp [b] w w') (hb : b ∉ blE l) : ∀ x ∈ l, Row w' x.v x.has :=
  fun x hx => (hr x hx).kp hk (fun k he hm => by
    rw [List.mem_singleton] at hm
    subst hm
    exact hb (blE_mem hx he))
theorem map_nin {w : World} {b : Nat} {l : List Ent} {clock : Nat} (hm : MapIs w b l clock) (hr : ∀ x ∈ l, Row w x.v x.has) : b ∉ blE l := fun hb => by
  obtain ⟨cur, hc⟩ := (blE_row hr hb).2
  rw [hm.here] at hc
  cases hc
theorem val_row {w : World} {l : List Ent} {fs : Fs} (hn : (l.map Ent.nm).Nodup) (hr : ∀ x ∈ l, Row w x.v x.has) (hp : (l.map Ent.p).Perm fs) (s : ByteArray) : Row w (valE l s) (hasF fs s) := by
  unfold valE hasF
  rw [findE_get hp hn]
  cases hf : findE l s with
  | none => exact Row.nil w
  | some x => exact hr x (findE_some hf).1
theorem val_own (l : List Ent) (s : ByteArray) : (valE l s).ownBlock = (findE l s).bind fun x => x.v.ownBlock := by
  unfold valE
  cases findE l s <;> rfl
theorem val_mem {l : List Ent} {s : ByteArray} {k : Nat} (h : (valE l s).ownBlock = some k) : k ∈ blE l := by
  rw [val_own] at h
  cases hf : findE l s with
  | none => rw [hf] at h; cases h
  | some x => rw [hf] at h; exact blE_mem (findE_some hf).1 h
set_option maxHeartbeats 400000 in
set_option maxRecDepth 100000 in
theorem apply_rm (n : ByteArray) (b : Nat) (fs : Fs) (L : List Nat) (w : World) (h : FilesAt w b fs L) :
    Calls Tryz.prog 82 #[.map (some b), .iface 138 (.agg #[.string n])] w fun e w' => e = .returned (.tuple #[]) ∧ Made w b (made fs (.rm n)) L w' := by
  obtain ⟨l, clock, hm, hr, hp, rfl, hn⟩ := h
  have hbn := map_nin hm hr
  have a1 := as_rm_wr
  have a2 := as_rm_ct
  have a3 := as_rm_rn
  have a4 := as_rm_rm
  have hk0 := Kp.alloc w (.cells #[.string n] 138)
  have hm0 := hm.kp hk0 (by simp)
  have HR := hide hr
  have HP := hide hp
  have HN := hide hn
  clear hr hp hm hn
  go_enter Tryz.func82, Tryz.ntmps82
  go_wp2_with (at_delete; refine wpList_delE rfl _ _ rfl rfl hm0 _ rfl ?_; intro w1 hm1 hg1)
  go_wp2
  go_end0
  have hk1 : Kp [b] w w1 := (hk0.mono (by simp)).trans (Kp.of hg1) (by simp)
  have hs := dropE_bl (s := n) (unhide HN)
  exact ⟨rfl, _, FilesAt.mk hm1 (fun x hx => rows_kp (unhide HR) hk1 hbn x (List.mem_filter.1 hx).1) (dropE_perm (unhide HP)) hs.1, hk1.mono (by simp), fun k hk => Or.inl (hs.2 k hk)⟩
set_option maxHeartbeats 400000 in
set_option maxRecDepth 100000 in
theorem apply_rn (a c : ByteArray) (b : Nat) (fs : Fs) (L : List Nat) (w : World) (h : FilesAt w b fs L) :
    Calls Tryz.prog 82 #[.map (some b), .iface 143 (.agg #[.string a, .string c])] w fun e w' => e = .returned (.tuple #[]) ∧ Made w b (made fs (.rn a c)) L w' := by
  obtain ⟨l, clock, hm, hr, hp, rfl, hn⟩ := h
  have hbn := map_nin hm hr
  have hv := val_row hm.nm hr hp a
  have ho := val_own l a
  have hvm := fun k => val_mem (l := l) (s := a) (k := k)
  have a1 := as_rn_wr
  have a2 := as_rn_ct
  have a3 := as_rn_rn
  have hk0 := Kp.alloc w (.cells #[.string a, .string c] 143)
  have hm0 := hm.kp hk0 (by simp)
  generalize hve : valE l a = v at *
  have HVE := hide hve
  have HV := hide hv
  have HO := hide ho
  have HR := hide hr
  have HP := hide hp
  have HN := hide hn
  have HVM := hide hvm
  have hnm := hm.nm
  clear hr hp hm hn hve hv ho hvm
  have f0 := heap_alloc_new w (.cells #[.string a, .string c] 143)
  have hgb : b ≠ w.heap.size := fun e => by
    rw [← e, hm0.here] at f0
    cases f0
  go_enter Tryz.func82, Tryz.ntmps82
  have hkf : ∀ w1, (w.alloc (.cells #[.string a, .string c] 143)).grownBy w1 (some b) → w1.cell? ⟨w.heap.size, 1, none⟩ = some (.string c) := fun w1 hg => by
    have := (hg.block w.heap.size (by simp) (by simpa using hgb.symm)).trans f0
    simp [World.cell?, this]
  have HKF := hide hkf
  clear hkf f0
  go_wp2_with (first
    | (at_lookup; refine wpList_lookE rfl _ _ rfl rfl hm0 _ rfl v (unhide HVE) ?_)
    | (at_delete; refine wpList_delE rfl _ _ rfl rfl hm0 _ rfl ?_; intro w1 hm1 hg1; have c1 := unhide HKF w1 hg1)
    | (at_mapUpdate; refine wpList_putE rfl _ _ _ rfl rfl hm1 _ rfl v rfl (hasF fs a) ?_; intro w2 clock2 hm2 hg2))
  go_wp2
  go_end0
  have hk1 : Kp [b] w w1 := (hk0.mono (by simp)).trans (Kp.of hg1) (by simp)
  have hk2 : Kp [b] w w2 := hk1.trans (Kp.of hg2) (by simp)
  have hs := dropE_bl (s := a) (unhide HN)
  have hnn : ∀ g, v.ownBlock = some g → g ∉ blE (dropE l a) := fun g hg hmem => by
    have ho := unhide HO
    obtain ⟨y, hy, hyo⟩ := List.mem_filterMap.1 hmem
    rw [hg] at ho
    cases hf : findE l a with
    | none => rw [hf] at ho; cases ho
    | some x =>
      rw [hf] at ho
      obtain ⟨hx, hxa⟩ := findE_some hf
      have hy' := List.mem_filter.1 hy
      have := blE_inj (unhide HN) hx hy'.1 ho.symm hyo
      simp [← this, hxa] at hy'
  have hb2 := putE_bl (l := dropE l a) (s := c) (h := hasF fs a) (v := v) (clock := clock) (dropE_nm hnm) hs.1 (Or.inr hnn)
  have hrow : ∀ y ∈ putE (dropE l a) c (hasF fs a) v clock, Row w2 y.v y.has := fun y hy => by
    rcases putE_mem (dropE_nm hnm) hy with ⟨h1, _⟩ | ⟨_, h1, h2⟩
    · exact rows_kp (unhide HR) hk2 hbn y (List.mem_filter.1 h1).1
    · rw [h1, h2]
      exact (unhide HV).kp hk2 (fun k he hm => by
        rw [List.mem_singleton] at hm
        subst hm
        exact hbn (unhide HVM _ he))
  refine ⟨rfl, _, FilesAt.mk hm2 hrow (putE_files (dropE_perm (unhide HP)) (dropE_nm hnm)) hb2.1, hk2.mono (by simp), fun k hk => ?_⟩
  rcases hb2.2 k hk with h1 | h1
  · exact Or.inl (hs.2 k h1)
  · exact Or.inl (unhide HVM k h1)
/-- A slice up to a place. -/
def toS : Value → Nat → Value
  | .slice ad _ cap, m => .slice ad m cap
  | v, _ => v
theorem runTo {w : World} {v : Value} {l : List UInt8} (h : Row w v l) (m : Nat) (hp : m ≤ l.length) (W : World) :
    (Instr.slice 91 v none (some (.int .i64 (m : Int))) none).run Tryz.prog W = .ok (toS v m) W := by
  obtain ⟨i0, hi, hz0, hz1, hz2⟩ := info_parts info_u8
  obtain ⟨_, ⟨rfl, h0⟩ | ⟨g, cap, cur, rfl, _, _, hn, hm, _⟩⟩ := h
  · have : m = 0 := by omega
    subst this
    simp [Instr.slice, run_underlying Tryz.underlying91, Instr.sliceBounds, Instr.sliceBound, asIntOf, sizeOf, typeInfo, hi, toS, Result.andThen]
  · have hm' : m ≤ cap := by omega
    simp [Instr.slice, run_underlying Tryz.underlying91, Instr.sliceBounds, Instr.sliceBound, asIntOf, sizeOf, typeInfo, hi, toS, Result.andThen, Addr.add]
    rw [if_pos hm']
theorem bytesClone_any {v : Value} {l : List UInt8} {w : World} (h : Row w v l) (m : Nat) (hm : m ≤ l.length) (hl : l.length ≤ 140737488355328) :
    Calls Tryz.prog 83 #[toS v m] w fun e w' => ∃ v', e = .returned v' ∧ Row w' v' (l.take m) ∧ Below w.heap.size w w' ∧ ∀ k, v'.ownBlock = some k → w.heap.size ≤ k := by
  obtain ⟨h1, ⟨rfl, h0⟩ | ⟨g, cap, cur, rfl, hb, hh, hn, hc, hs, htk⟩⟩ := id h
  · obtain rfl : l = [] := List.eq_nil_of_length_eq_zero h0
    refine (Tryz.bytes_Clone_nil m 0 w).mono ?_
    rintro e w' ⟨rfl, rfl⟩
    exact ⟨_, rfl, by rw [List.take_nil]; exact Row.nil _, Below.refl _ _, fun k hk => by simp [Value.ownBlock] at hk⟩
  · have hxs : ((l.take m).map fun c : UInt8 => (c.toNat : Int)).length = m := by rw [List.length_map, List.length_take]; omega
    refine (Tryz.bytes_Clone_at ⟨g, 0, none⟩ m cap ((l.take m).map fun c : UInt8 => (c.toNat : Int)) w hxs (by omega) (fun i hi => ?_)).mono ?_
    · have hil : i < l.length := by omega
      have h2 := World.ownsRow.cells h (g := g) rfl i (.int .u8 (l[i].toNat : Int)) (by unfold byteC; simp [hil])
      rw [h2]
      simp [List.getD_eq_getElem?_getD, hi, hil]
    · rintro e w' ⟨v', rfl, ho, hne, hbl⟩
      have e1 : ((l.take m).map fun c : UInt8 => (c.toNat : Int)).map (Value.int .u8) = byteC (l.take m) := by unfold byteC; rw [List.map_map]; rfl
      rw [e1] at ho
      have hlm : (l.take m).length = m := by rw [List.length_take]; omega
      refine ⟨v', rfl, ?_, hbl, fun k hk => (World.ownsRow.lt ho k hk).1⟩
      unfold Row
      rw [hlm]
      obtain ⟨q1, q2 | ⟨g2, cap2, cur2, rfl, hb2, r2⟩⟩ := ho
      · exact ⟨q1, Or.inl q2⟩
      · exact ⟨q1, Or.inr ⟨g2, cap2, cur2, rfl, Nat.zero_le _, r2⟩⟩
set_option maxHeartbeats 1000000 in
set_option maxRecDepth 100000 in
theorem apply_ct (n : ByteArray) (m : Nat) (b : Nat) (fs : Fs) (L : List Nat) (w : World) (h : FilesAt w b fs L) (hml : m ≤ (hasF fs n).length) (hbig : (hasF fs n).length ≤ 140737488355328) :
    Calls Tryz.prog 82 #[.map (some b), .iface 155 (.agg #[.string n, .int .i64 (m : Int)])] w fun e w' => e = .returned (.tuple #[]) ∧ Made w b (made fs (.ct n m)) L w' := by
  obtain ⟨l, clock, hm, hr, hp, rfl, hn⟩ := h
  have hbn := map_nin hm hr
  have hv := val_row hm.nm hr hp n
  have hk0 := Kp.alloc w (.cells #[.string n, .int .i64 (m : Int)] 155)
  have hm0 := hm.kp hk0 (by simp)
  have bx0 := CBox.new w #[.string n, .int .i64 (m : Int)] 155
  have hbg : b ≠ w.heap.size := fun e => by have := hm.lt; omega
  have hsz : w.heap.size < (w.alloc (.cells #[.string n, .int .i64 (m : Int)] 155)).heap.size := by simp
  have hnm := hm.nm
  generalize hve : valE l n = v at *
  have hto := runTo hv m hml
  have HVE := hide hve
  have HR := hide hr
  have HP := hide hp
  have HN := hide hn
  have a1 := as_ct_wr
  have a2 := as_ct_ct
  clear hr hp hm hn hve
  go_enter Tryz.func82, Tryz.ntmps82
  go_wp2_with fail
  generalize w.alloc (.cells #[.string n, .int .i64 (m : Int)] 155) = W0 at *
  have hmd : MapIs W0.drew b l clock := ⟨hm0.here, hm0.nm, hm0.born, hm0.old⟩
  have hlk := hmd.look (P := Tryz.prog) Tryz.underlying55 Tryz.underlying9 (zero_row _) n false
  rw [if_neg (by simp), unhide HVE] at hlk
  have c0 : W0.drew.cell? ⟨w.heap.size, 0, none⟩ = some (.string n) ∧ W0.drew.cell? ⟨w.heap.size, 1, none⟩ = some (.int .i64 (m : Int)) := ⟨bx0.cell (w := W0.drew) rfl, bx0.cell (w := W0.drew) rfl⟩
  have hvd : Row W0.drew v (hasF fs n) := (hv.kp hk0 (by simp)).kp (Kp.drew W0) (by simp)
  have bc := bytesClone_any hvd m hml hbig
  have BC := hide bc
  have hk0d : Kp [] w W0.drew := hk0.trans (Kp.drew W0) (by simp)
  clear bc hm0
  go_region_held3 (fun W => W.cell? ⟨w.heap.size, 0, none⟩ = some (.string n) ∧ W.cell? ⟨w.heap.size, 1, none⟩ = some (.int .i64 (m : Int))) (first | exact c0 | exact c1 | exact c2)
    (first
      | (go_at_call 83; refine (unhide BC).mono ?_; rintro e w1 ⟨v1, rfl, hr1, hb1, ho1⟩;
         obtain ⟨w2, clock2, hrun2, hm2, hg2, hs2⟩ := (hmd.kp (Kp.ofBelow hb1) (by simp)).store (P := Tryz.prog) Tryz.underlying55 Tryz.underlying9 n v1 ((hasF fs n).take m);
         have bx1 := (bx0.kp (Kp.drew W0) (by simp)).kp (Kp.ofBelow hb1) (by simp);
         have bx2 := bx1.kp (Kp.of hg2) (by simpa using hbg.symm);
         have c1 : w1.cell? ⟨w.heap.size, 0, none⟩ = some (.string n) ∧ w1.cell? ⟨w.heap.size, 1, none⟩ = some (.int .i64 (m : Int)) := ⟨bx1.cell rfl, bx1.cell rfl⟩;
         have c2 : w2.cell? ⟨w.heap.size, 0, none⟩ = some (.string n) ∧ w2.cell? ⟨w.heap.size, 1, none⟩ = some (.int .i64 (m : Int)) := ⟨bx2.cell rfl, bx2.cell rfl⟩))
  go_wp2
  go_end0
  have hk1 : Kp [] w w1 := hk0d.trans (Kp.ofBelow hb1) (by simp)
  have hk2 : Kp [b] w w2 := (hk1.mono (by simp)).trans (Kp.of hg2) (by simp)
  have hz1 := hk0d.size
  have hnew : ∀ g, v1.ownBlock = some g → g ∉ blE l := fun g hg hmem => by
    have h1 := ho1 g hg
    have h2 := (blE_row (unhide HR) hmem).1
    omega
  have hb2 := putE_bl (l := l) (s := n) (h := (hasF fs n).take m) (v := v1) (clock := clock) hnm (unhide HN) (Or.inr hnew)
  have hrow : ∀ y ∈ putE l n ((hasF fs n).take m) v1 clock, Row w2 y.v y.has := fun y hy => by
    rcases putE_mem hnm hy with ⟨h1, _⟩ | ⟨_, h1, h2⟩
    · exact rows_kp (unhide HR) hk2 hbn y h1
    · rw [h1, h2]
      exact hr1.kp (Kp.of hg2) (fun k he hm => by
        simp only [Option.toList_some, List.mem_singleton] at hm
        subst hm
        have := ho1 _ he
        have := hmd.lt
        omega)
  refine ⟨rfl, _, FilesAt.mk hm2 hrow (putE_files (unhide HP) hnm) hb2.1, hk2.mono (by simp), fun k hk => ?_⟩
  rcases hb2.2 k hk with h1 | h1
  · exact Or.inl h1
  · right; have := ho1 k h1; omega
theorem over_eq (h : List UInt8) (pos : Nat) (d : List UInt8) (hp : pos ≤ h.length) :
    (h.take pos ++ d.take (min d.length (h.length - pos)) ++ h.drop (pos + min d.length (h.length - pos))) ++ d.drop (min d.length (h.length - pos)) = over h pos d := by
  unfold over
  by_cases hc : d.length ≤ h.length - pos
  · rw [Nat.min_eq_left hc, List.take_length, List.drop_length, List.append_nil]
  · rw [Nat.min_eq_right (by omega), List.drop_of_length_le (l := h) (by omega), List.append_nil, List.append_assoc, List.take_append_drop, List.drop_of_length_le (by omega), List.append_nil]
section
variable {ops : Array Oper} {o : Oper} {a : Act} {w : World} {K : Act → World → Prop} {Q : Exit → Act → World → Prop} {E : Prop}
/-- A string laid over a row, as one step of a statement whose order is drawn. -/
theorem step_copyRow (hg : o.guard = none) (d s : Operand) (hop : o.op = Op.call { callee := Callee.builtin Builtin.copy, args := #[d, s], argTypes := #[91, 9] })
    {v : Value} {l : List UInt8} (h : Row w v l) (pos : Nat) (hp : pos ≤ l.length) (st : ByteArray) (hd : a.eval d = fromS v pos) (hs : a.eval s = .string st) (m : Nat) (hm : min st.size (l.length - pos) = m)
    (hK : ∀ w', Row w' v (l.take pos ++ st.data.toList.take m ++ l.drop (pos + m)) → w.grownBy w' v.ownBlock → K (a.put o.dst (.int .i64 (m : Int))) w') :
    if Region.wanted o (yielded ops a.tmps) = true then Oper.wp Tryz.prog o a w K Q else E := by
  have hw : Region.wanted o (yielded ops a.tmps) = true := by simp [Region.wanted, hg]
  rw [if_pos hw]
  obtain ⟨w', hrun, r1, r2, _⟩ := copyRow h pos hp st o.type
  rw [hm] at hrun r1
  unfold Oper.wp
  simp [execOp, hop, resolve, invoke, builtin, hs, hd, hrun, Result.andThen]
  exact hK w' r1 r2
/-- A string put at a row's end, as such a step. -/
theorem step_appRow (hg : o.guard = none) (d s : Operand) (hop : o.op = Op.call { callee := Callee.builtin Builtin.append, args := #[d, s], argTypes := #[91, 9] })
    {v : Value} {l : List UInt8} (h : Row w v l) (st : ByteArray) (hd : a.eval d = v) (hs : a.eval s = .string st) (hb : l.length + st.size ≤ 140737488355328)
    (hK : ∀ v' w', Row w' v' (l ++ st.data.toList) → w.grownBy w' v.ownBlock → (v'.ownBlock = v.ownBlock ∨ v'.ownBlock = some w.heap.size) → K (a.put o.dst v') w') :
    if Region.wanted o (yielded ops a.tmps) = true then Oper.wp Tryz.prog o a w K Q else E := by
  have hw : Region.wanted o (yielded ops a.tmps) = true := by simp [Region.wanted, hg]
  rw [if_pos hw]
  obtain ⟨v', w', hrun, r1, r2, r3⟩ := appRow h st o.type hb
  unfold Oper.wp
  simp [execOp, hop, resolve, invoke, builtin, hs, hd, hrun, Result.andThen]
  exact hK v' w' r1 r2 r3
end
set_option maxHeartbeats 2000000 in
set_option maxRecDepth 100000 in
theorem apply_wr (n : ByteArray) (pos : Nat) (d : ByteArray) (b : Nat) (fs : Fs) (L : List Nat) (w : World) (h : FilesAt w b fs L) (hpl : pos ≤ (hasF fs n).length) (hbig : (hasF fs n).length + d.size ≤ 140737488355328) :
    Calls Tryz.prog 82 #[.map (some b), .iface 96 (.agg #[.string n, .int .i64 (pos : Int), .string d])] w fun e w' => e = .returned (.tuple #[]) ∧ Made w b (made fs (.wr n pos d)) L w' := by
  obtain ⟨l, clock, hm, hr, hp, rfl, hn⟩ := h
  have hbn := map_nin hm hr
  have hv := val_row hm.nm hr hp n
  have ho := val_own l n
  have hvm := fun k => val_mem (l := l) (s := n) (k := k)
  have hk0 := Kp.alloc w (.cells #[.string n, .int .i64 (pos : Int), .string d] 96)
  have hm0 := hm.kp hk0 (by simp)
  have bx0 := CBox.new w #[.string n, .int .i64 (pos : Int), .string d] 96
  have hbg : b ≠ w.heap.size := fun e => by have := hm.lt; omega
  have hnm := hm.nm
  have hdl : d.data.toList.length = d.size := Array.length_toList
  generalize hve : valE l n = v at *
  have hfrom := runFrom hv pos hpl
  have hov := over_eq (hasF fs n) pos d.data.toList hpl
  have hmade : made fs (.wr n pos d) = withF fs n (over (hasF fs n) pos d.data.toList) := rfl
  rw [hmade, ← hov]
  clear hov hmade
  rw [hdl]
  generalize hH : hasF fs n = has at *
  generalize hmm : min d.size (has.length - pos) = m at *
  have hm1 : (0 : Int) ≤ (m : Int) := by omega
  have hm2 : (m : Int) ≤ (d.size : Int) := by omega
  obtain ⟨dm, hdm⟩ : ∃ dm : ByteArray, dm = ⟨(d.data.toList.drop m).toArray⟩ := ⟨_, rfl⟩
  have hstr : ∀ W, (Instr.slice 9 (.string d) (some (.int .i64 (m : Int))) none none).run Tryz.prog W = .ok (.string dm) W := fun W => by
    have hm3 : m ≤ d.size := by omega
    simp [Instr.slice, run_underlying Tryz.underlying9, Instr.sliceBounds, Instr.sliceBound, asIntOf, Result.andThen]
    rw [if_pos hm3]
    dsimp only
    congr 2
    rw [hdm]
    apply ByteArray.ext
    apply Array.ext'
    simp
    rw [List.take_of_length_le (by rw [List.length_drop, hdl]; exact Nat.le_refl _)]
  have hdt : dm.data.toList = d.data.toList.drop m := by rw [hdm]
  have hds : dm.size ≤ d.size := by
    have : dm.size = dm.data.toList.length := Array.length_toList.symm
    rw [this, hdt, List.length_drop]; omega
  have HVE := hide hve
  have HR := hide hr
  have HP := hide hp
  have HN := hide hn
  have HO := hide ho
  have HVM := hide hvm
  have HMM := hide hmm
  have HDT := hide hdt
  have hnx : ∀ k, v.ownBlock = some k → k ≠ w.heap.size := fun k hk e => by
    have := (blE_row hr (hvm k hk)).1
    omega
  have HNX := hide hnx
  have a1 := as_wr_wr
  clear hr hp hm hn hve ho hvm hmm hdt hdm hdl hnx hH
  go_enter Tryz.func82, Tryz.ntmps82
  go_wp2_with (at_lookup; refine wpList_lookE rfl _ _ rfl rfl hm0 _ rfl v (unhide HVE) ?_)
  generalize w.alloc (.cells #[.string n, .int .i64 (pos : Int), .string d] 96) = W0 at *
  have c0 : W0.drew.cell? ⟨w.heap.size, 0, none⟩ = some (.string n) ∧ W0.drew.cell? ⟨w.heap.size, 1, none⟩ = some (.int .i64 (pos : Int)) ∧ W0.drew.cell? ⟨w.heap.size, 2, none⟩ = some (.string d) := ⟨bx0.cell (w := W0.drew) rfl, bx0.cell (w := W0.drew) rfl, bx0.cell (w := W0.drew) rfl⟩
  have hvd : Row W0.drew v has := (hv.kp hk0 (by simp)).kp (Kp.drew W0) (by simp)
  have hk0d : Kp [] w W0.drew := hk0.trans (Kp.drew W0) (by simp)
  go_region_held3 (fun W => W.cell? ⟨w.heap.size, 0, none⟩ = some (.string n) ∧ W.cell? ⟨w.heap.size, 1, none⟩ = some (.int .i64 (pos : Int)) ∧ W.cell? ⟨w.heap.size, 2, none⟩ = some (.string d)) (first | exact c0 | exact c1)
    ((refine step_copyRow (by rfl) _ _ (by rfl) hvd pos hpl d (by rfl) (by rfl) m (unhide HMM) ?_; intro w1 hr1 hg1;
      have bx1 := (bx0.kp (Kp.drew W0) (by simp)).kp (Kp.of hg1) (fun hmem => unhide HNX _ (by simpa using hmem) rfl);
      have c1 : w1.cell? ⟨w.heap.size, 0, none⟩ = some (.string n) ∧ w1.cell? ⟨w.heap.size, 1, none⟩ = some (.int .i64 (pos : Int)) ∧ w1.cell? ⟨w.heap.size, 2, none⟩ = some (.string d) := ⟨bx1.cell rfl, bx1.cell rfl, bx1.cell rfl⟩))
  go_wp2_with fail
  have hk1 : Kp (b :: blE l) w w1 := (hk0d.mono (by simp)).trans (Kp.of hg1) (fun x hx => Or.inl (List.mem_cons_of_mem _ (unhide HVM x (by simpa using hx))))
  have hm1' : MapIs w1 b l clock := (hm0.kp (Kp.drew W0) (by simp)).kp (Kp.of hg1) (fun hmem => hbn (unhide HVM b (by simpa using hmem)))
  have hmD : MapIs w1.drew b l clock := hm1'.kp (Kp.drew w1) (by simp)
  have hrD : Row w1.drew v (has.take pos ++ d.data.toList.take m ++ has.drop (pos + m)) := hr1.kp (Kp.drew w1) (by simp)
  have hlen : (has.take pos ++ d.data.toList.take m ++ has.drop (pos + m)).length + dm.size ≤ 140737488355328 := by
    have e1 : dm.size = dm.data.toList.length := Array.length_toList.symm
    have e2 : d.data.toList.length = d.size := Array.length_toList
    have e3 := unhide HMM
    rw [e1, unhide HDT]
    simp only [List.length_append, List.length_take, List.length_drop, e2]
    omega
  have bxD := bx1.kp (Kp.drew w1) (by simp)
  have cD : w1.drew.cell? ⟨w.heap.size, 0, none⟩ = some (.string n) ∧ w1.drew.cell? ⟨w.heap.size, 2, none⟩ = some (.string d) := ⟨bxD.cell rfl, bxD.cell rfl⟩
  have hvb : ∀ k, v.ownBlock = some k → k ≠ b := fun k hk e => hbn (unhide HVM b (by rw [hk, e]))
  have hszD : w.heap.size < w1.drew.heap.size := (Array.getElem?_eq_some_iff.1 bxD).1
  clear c0 c1 hvd bx0 bx1 hr1 hm0
  go_region_held3 (fun W => W.cell? ⟨w.heap.size, 0, none⟩ = some (.string n) ∧ W.cell? ⟨w.heap.size, 2, none⟩ = some (.string d)) (first | exact cD | exact c2 | exact c3)
    ((refine step_appRow (by rfl) _ _ (by rfl) hrD dm (by rfl) (by rfl) hlen ?_; intro v2 w2 hr2 hg2 hl2;
      have hm2 := hmD.kp (Kp.of hg2) (fun hmem => hvb b (by simpa using hmem) rfl);
      obtain ⟨w3, clock3, hrun3, hm3, hg3, hs3⟩ := hm2.store (P := Tryz.prog) Tryz.underlying55 Tryz.underlying9 n v2 (has.take pos ++ d.data.toList.take m ++ has.drop (pos + m) ++ dm.data.toList);
      have bx2 := bxD.kp (Kp.of hg2) (fun hmem => unhide HNX _ (by simpa using hmem) rfl);
      have bx3 := bx2.kp (Kp.of hg3) (by simpa using hbg.symm);
      have c2 : w2.cell? ⟨w.heap.size, 0, none⟩ = some (.string n) ∧ w2.cell? ⟨w.heap.size, 2, none⟩ = some (.string d) := ⟨bx2.cell rfl, bx2.cell rfl⟩;
      have c3 : w3.cell? ⟨w.heap.size, 0, none⟩ = some (.string n) ∧ w3.cell? ⟨w.heap.size, 2, none⟩ = some (.string d) := ⟨bx3.cell rfl, bx3.cell rfl⟩))
  go_wp2
  go_end0
  rw [← unhide HDT]
  have hk2 : Kp (b :: blE l) w w2 := (hk1.trans (Kp.drew w1) (by simp)).trans (Kp.of hg2) (fun x hx => Or.inl (List.mem_cons_of_mem _ (unhide HVM x (by simpa using hx))))
  have hk3 : Kp (b :: blE l) w w3 := hk2.trans (Kp.of hg3) (by simp)
  have hb2 := putE_bl (l := l) (s := n) (h := has.take pos ++ d.data.toList.take m ++ has.drop (pos + m) ++ dm.data.toList) (v := v2) (clock := clock) hnm (unhide HN) (by
    rcases hl2 with h1 | h1
    · exact Or.inl (h1.trans (unhide HO))
    · refine Or.inr fun g hg hmem => ?_
      rw [h1] at hg
      have e1 : w1.drew.heap.size = g := by simpa using hg
      have := (blE_row (unhide HR) hmem).1
      omega)
  have hv2 : ∀ k, v2.ownBlock = some k → k ∈ blE l ∨ w.heap.size ≤ k := fun k hk => by
    rcases hl2 with h1 | h1
    · exact Or.inl (unhide HVM k (by rw [← h1]; exact hk))
    · rw [h1] at hk
      have e1 : w1.drew.heap.size = k := by simpa using hk
      right; omega
  have hrow : ∀ y ∈ putE l n (has.take pos ++ d.data.toList.take m ++ has.drop (pos + m) ++ dm.data.toList) v2 clock, Row w3 y.v y.has := fun y hy => by
    rcases putE_mem hnm hy with ⟨h1, h0⟩ | ⟨_, h1, h2⟩
    · have hyv : ∀ k, y.v.ownBlock = some k → v.ownBlock ≠ some k := fun k hk e => by
        have ho := unhide HO
        rw [e] at ho
        cases hf : findE l n with
        | none => rw [hf] at ho; cases ho
        | some x =>
          rw [hf] at ho
          obtain ⟨hx, hxa⟩ := findE_some hf
          have := blE_inj (unhide HN) hx h1 ho.symm hk
          exact h0 (by rw [← this]; exact hxa)
      have hyb : ∀ k, y.v.ownBlock = some k → k ≠ b := fun k hk e => hbn (by rw [← e]; exact blE_mem h1 hk)
      have r0 := (((unhide HR y h1).kp hk0d (by simp)).kp (Kp.of hg1) (fun k hk hm => hyv k hk (by simpa using hm))).kp (Kp.drew w1) (by simp)
      have r1 := r0.kp (Kp.of hg2) (fun k hk hm => hyv k hk (by simpa using hm))
      exact r1.kp (Kp.of hg3) (fun k hk hm => hyb k hk (by simpa using hm))
    · rw [h1, h2]
      exact hr2.kp (Kp.of hg3) (fun k he hm => by
        simp only [Option.toList_some, List.mem_singleton] at hm
        rcases hl2 with h4 | h4
        · exact hvb k (by rw [← h4]; exact he) hm
        · rw [h4] at he
          have e1 : w1.drew.heap.size = k := by simpa using he
          have := hmD.lt
          omega)
  refine ⟨rfl, _, FilesAt.mk hm3 hrow (putE_files (unhide HP) hnm) hb2.1, hk3, fun k hk => ?_⟩
  rcases hb2.2 k hk with h1 | h1
  · exact Or.inl h1
  · exact hv2 k h1
end Go.Proofs.YtdmckgcbmbhmmaaGreatDoor
