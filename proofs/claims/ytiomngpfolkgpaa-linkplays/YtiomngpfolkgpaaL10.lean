/-
  Links: packets as bytes, and bytes as packets.
  append in a drawn statement, by its run. Of no program.
  Links: data packets as bytes; bytes as packets.
-/
import Derived.Test.YtiomngpfolkgpaaL09
import Derived.Deep.RegionHeld3
import Derived.Deep.DeepCutAuto
import Derived.Test.YtiomngpfolkgpaaL07
namespace Go.Proofs.Ytiomngpfolkgpaa
open Go.RowKit Lk

theorem info_pkt : (Try.prog.info? 72).map (·.size) = some 3 := by kernel_rfl
def itE (x y : It) : Bool := x.t == y.t && (x.n == y.n && x.s.toList == y.s.toList)
theorem eqI (d : Nat) (x y : It) (w : World) : (Op.equalIn (d + 2) 84 (.agg #[.bool x.t, .int .i64 x.n, .string x.s]) (.agg #[.bool y.t, .int .i64 y.n, .string y.s])).run Try.prog w = .ok (itE x y) w := by
  obtain ⟨t, n, s⟩ := x
  obtain ⟨t', n', s'⟩ := y
  have hi6 := fun (a b : Int) (w : World) => run_equalIn_int (P := Try.prog) w d 2 .i64 .i64 a b Try.underlying2
  have hs := fun (a b : ByteArray) (w : World) => run_equalIn_string (P := Try.prog) w d 9 a b Try.underlying9
  have hb := fun (a b : Bool) (w : World) => run_equalIn_bool (P := Try.prog) w d 4 a b Try.underlying4
  unfold Op.equalIn itE
  simp only [Sem.run_bind, run_underlying Try.underlying84, Result.andThen_ok]
  simp [part, Try.sizeOf2, Try.sizeOf4, Try.sizeOf9, go_sem, hi6, hs, hb, ByteArray.toList_eq]
  by_cases h0 : t = t' <;> by_cases h1 : n = n' <;> by_cases h2 : s.data = s'.data <;> simp [h0, h1, h2]
theorem itE_kind (x : It) (k : Int) : itE x (pkN k) = isKind x k := by
  unfold itE isKind pkN
  have : (ByteArray.toList ⟨#[]⟩ : List UInt8) = [] := by rw [ByteArray.toList_eq]
  dsimp only
  rw [this]
  cases x.t <;> cases x.s.toList <;> simp
/-- The cells of three numbers. -/
def hdC (k ep n : Int) : Array Value := #[.bool false, .int .i64 k, .string ⟨#[]⟩, .bool false, .int .i64 ep, .string ⟨#[]⟩, .bool false, .int .i64 n, .string ⟨#[]⟩]
theorem owns3 (k ep n : Int) (W : World) (B : Nat) (hB : B ≤ W.heap.size) : OwnsI B (W.alloc (.cells (hdC k ep n) 84)) (.slice (some ⟨W.heap.size, 0, none⟩) 3 3) [pkN k, pkN ep, pkN n] :=
  ⟨rfl, Or.inr ⟨W.heap.size, 3, hdC k ep n, rfl, hB, heap_alloc_new W _, by simp, by unfold maxLen; decide, rfl, rfl⟩⟩
theorem lHead_any (k ep n : Int) (t : ByteArray) (w : World) :
    Calls Try.prog 38 #[.int .i64 k, .agg #[.int .i64 ep, .int .i64 n, .string t]] w fun e w' => ∃ v, e = .returned v ∧ OwnsI w.heap.size w' v [pkN k, pkN ep, pkN n] ∧ Below w.heap.size w w' := by
  have HF : Hid (OwnsI w.heap.size ((w.alloc (.cells #[.int .i64 ep, .int .i64 n, .string t] 72)).alloc (.cells (hdC k ep n) 84)) (.slice (some ⟨w.heap.size + 1, 0, none⟩) 3 3) [pkN k, pkN ep, pkN n] ∧ Below w.heap.size w ((w.alloc (.cells #[.int .i64 ep, .int .i64 n, .string t] 72)).alloc (.cells (hdC k ep n) 84))) := hide ⟨by
    have := owns3 k ep n (w.alloc (.cells #[.int .i64 ep, .int .i64 n, .string t] 72)) w.heap.size (by simp)
    rwa [World.size_alloc] at this, ((Below.refl _ _).alloc (Nat.le_refl _) _).alloc (by simp) _⟩
  unfold hdC at HF
  go_enter Try.func38, Try.ntmps38
  go_wp2
  go_ret
  exact ⟨_, rfl, unhide HF⟩
theorem pkN_ok {n : Int} (h0 : -9223372036854775808 ≤ n) (h1 : n < 9223372036854775808) : (pkN n).ok := ⟨h0, h1, by show (0 : Nat) ≤ 9223372036854775807; decide⟩
theorem lBytes_any (ad : Option Addr) (cap : Nat) (l : List It) (w : World) (hlen : l.length ≤ 9223372036854775807) (hA : ItemsAt w ad l) (hok : ∀ x ∈ l, x.ok) :
    Calls Try.prog 37 #[.slice ad l.length cap] w fun e w' => e = .returned (.string (encS l)) ∧ Below w.heap.size w w' := by
  have EN := hide (encode_any ad cap l w hlen hA hok)
  clear hA hok hlen
  generalize l.length = n at *
  generalize encS l = S at *
  generalize encE l = E at *
  go_enter Try.func37, Try.ntmps37
  go_wp2_with fail
  refine (unhide EN).mono ?_
  rintro e w1 ⟨rfl, hb⟩
  have HB := hide hb
  clear hb
  go_wp2
  go_ret
  exact ⟨rfl, unhide HB⟩
set_option maxHeartbeats 1000000 in
theorem lAck_any (ep n : Int) (t : ByteArray) (w : World) (e0 : -9223372036854775808 ≤ ep) (e1 : ep < 9223372036854775808) (n0 : -9223372036854775808 ≤ n) (n1 : n < 9223372036854775808) :
    Calls Try.prog 43 #[.agg #[.int .i64 ep, .int .i64 n, .string t]] w fun e w' => e = .returned (.string (ackB ep n)) ∧ Below w.heap.size w w' := by
  have k1 := (Below.refl w.heap.size w).alloc (Nat.le_refl _) (.cells #[.int .i64 ep, .int .i64 n, .string t] 72)
  have HH := hide (fun W => lHead_any 1 ep n t W)
  have HB : Hid (∀ W v, OwnsI (w.heap.size + 1) W v [pkN 1, pkN ep, pkN n] → ∃ ad cp, v = .slice ad 3 cp ∧ Calls Try.prog 37 #[.slice ad 3 cp] W fun e w' => e = .returned (.string (ackB ep n)) ∧ Below W.heap.size W w') := hide (fun W v h => by
    obtain ⟨ad, cp, rfl, ha⟩ := h.items
    exact ⟨ad, cp, rfl, lBytes_any ad cp [pkN 1, pkN ep, pkN n] W (by simp) ha (fun x hx => by
      simp only [List.mem_cons, List.not_mem_nil, or_false] at hx
      rcases hx with rfl | rfl | rfl
      · exact pkN_ok (by decide) (by decide)
      · exact pkN_ok e0 e1
      · exact pkN_ok n0 n1)⟩)
  have HK := hide k1
  clear e0 e1 n0 n1 k1
  generalize ackB ep n = S at *
  go_enter Try.func43, Try.ntmps43
  go_wp2_with fail
  refine (unhide HH _).mono ?_
  rintro e w1 ⟨v, rfl, h1, k2⟩
  rw [World.size_alloc] at h1 k2
  obtain ⟨ad, cp, rfl, hc⟩ := unhide HB w1 v h1
  have HC := hide hc
  have HK2 := hide ((unhide HK).trans (k2.mono (Nat.le_succ _)))
  clear h1 k2 hc HK HB HH
  go_wp2_with fail
  refine (unhide HC).mono ?_
  rintro e w2 ⟨rfl, k3⟩
  have HK3 := hide ((unhide HK2).trans (k3.mono (unhide HK2).size))
  clear HC k3 HK2
  go_wp2
  go_ret
  exact ⟨rfl, unhide HK3⟩
theorem lNumber_any (x : It) (m : Int) (w : World) :
    Calls Try.prog 47 #[.agg #[.bool x.t, .int .i64 x.n, .string x.s], .int .i64 m] w fun e w' => e = .returned (.bool (isNum x m)) ∧ Kp [] w w' := by
  obtain ⟨t, n, s⟩ := x
  have HB : Hid (isNum ⟨t, n, s⟩ m = true ↔ t = false ∧ 0 ≤ n ∧ n ≤ m) := hide isNum_iff
  generalize isNum ⟨t, n, s⟩ m = B at *
  dsimp only
  go_enter Try.func47, Try.ntmps47
  cases t
  · by_cases h1 : 0 ≤ n
    · by_cases h2 : n ≤ m
      · go_wp2
        go_ret
        exact ⟨ret_bool (Bool.eq_iff_iff.2 (by rw [unhide HB]; simp; omega)), Kp.alloc _ _⟩
      · go_wp2
        go_ret
        exact ⟨ret_bool (Bool.eq_iff_iff.2 (by rw [unhide HB]; simp; omega)), Kp.alloc _ _⟩
    · go_wp2
      go_ret
      exact ⟨ret_bool (Bool.eq_iff_iff.2 (by rw [unhide HB]; simp; omega)), Kp.alloc _ _⟩
  · go_wp2
    go_ret
    exact ⟨ret_bool (Bool.eq_iff_iff.2 (by rw [unhide HB]; simp)), Kp.alloc _ _⟩
/-- Items lie there still. -/
theorem items_kp {w w' : World} {ad : Option Addr} {l : List It} (h : ItemsAt w ad l) (hk : Kp [] w w') : ItemsAt w' ad l := fun hl => by
  obtain ⟨b, off, e, hlt, hc⟩ := h hl
  exact ⟨b, off, e, Nat.lt_of_lt_of_le hlt hk.size, fun i hi => by
    obtain ⟨a1, a2, a3⟩ := hc i hi
    exact ⟨hk.cell a1 (by simp), hk.cell a2 (by simp), hk.cell a3 (by simp)⟩⟩
set_option maxHeartbeats 4000000 in
set_option maxRecDepth 100000 in
theorem lHeadB_any (ad : Option Addr) (cap : Nat) (x y z : It) (k m : Int) (w : World) (h : ItemsAt w ad [x, y, z]) :
    Calls Try.prog 41 #[.slice ad 3 cap, .int .i64 k, .int .i64 m] w fun e w' => e = .returned (.bool (headB [x, y, z] k m)) ∧ Kp [] w w' := by
  obtain ⟨b, off, rfl, hlt, hc⟩ := h (by simp)
  have c0 := hc 0 (by simp)
  have c1 := hc 1 (by simp)
  have c2 := hc 2 (by simp)
  simp only [List.getElem_cons_zero, List.getElem_cons_succ, Nat.zero_mul, Nat.one_mul, Nat.add_zero] at c0 c1 c2
  obtain ⟨a0, a1, a2⟩ := c0
  obtain ⟨b0, b1, b2⟩ := c1
  obtain ⟨d0, d1, d2⟩ := c2
  have EQ : ∀ W, (Op.equalIn 10000 84 (.agg #[.bool x.t, .int .i64 x.n, .string x.s]) (.agg #[.bool false, .int .i64 k, .string ⟨#[]⟩])).run Try.prog W = .ok (isKind x k) W := fun W => by rw [← itE_kind]; exact eqI 9998 x (pkN k) W
  have N1 := hide (fun W => lNumber_any y 1073741824 W)
  have N2 := hide (fun W => lNumber_any z m W)
  have HR : Hid (headB [x, y, z] k m = (isKind x k && (isNum y 1073741824 && isNum z m))) := hide rfl
  have HD : Hid (∀ W, Kp [] w W → W.cell? ⟨b, off + 2 * 3, none⟩ = some (.bool z.t) ∧ W.cell? ⟨b, off + 2 * 3 + 1, none⟩ = some (.int .i64 z.n) ∧ W.cell? ⟨b, off + 2 * 3 + 2, none⟩ = some (.string z.s)) := hide (fun W hk => ⟨hk.cell d0 (by simp), hk.cell d1 (by simp), hk.cell d2 (by simp)⟩)
  clear h hc d0 d1 d2
  generalize headB [x, y, z] k m = R at *
  obtain ⟨xt, xn, xs⟩ := x
  obtain ⟨yt, yn, ys⟩ := y
  obtain ⟨zt, zn, zs⟩ := z
  dsimp only at *
  generalize isKind ⟨xt, xn, xs⟩ k = A at *
  generalize isNum ⟨yt, yn, ys⟩ 1073741824 = B at *
  generalize isNum ⟨zt, zn, zs⟩ m = C at *
  go_enter Try.func41, Try.ntmps41
  cases A
  · go_wp2
    go_ret
    exact ⟨ret_bool (by rw [unhide HR]; rfl), Kp.refl _ _⟩
  · go_wp2_with fail
    refine (unhide N1 _).mono ?_
    rintro r w1 ⟨rfl, k1⟩
    cases B
    · have K1 := hide k1
      clear k1
      go_wp2
      go_ret
      exact ⟨ret_bool (by rw [unhide HR]; rfl), unhide K1⟩
    · obtain ⟨d0, d1, d2⟩ := unhide HD w1 k1
      have K1 := hide k1
      clear k1 a0 a1 a2 b0 b1 b2 HD N1
      go_wp2_with fail
      refine (unhide N2 _).mono ?_
      rintro r w2 ⟨rfl, k2⟩
      have K2 := hide ((unhide K1).trans k2 (by simp))
      clear k2 K1 N2 d0 d1 d2
      go_wp2
      go_ret
      exact ⟨ret_bool (by rw [unhide HR]; cases C <;> rfl), unhide K2⟩
end Go.Proofs.Ytiomngpfolkgpaa
namespace Go.Proofs.Ytiomngpfolkgpaa
open Go.RowKit

/-- A statement's append whose run is known. -/
theorem step_app_run {P : Program} {ops : Array Oper} {o : Oper} {a : Act} {w w' : World} {K : Act → World → Prop} {Q : Exit → Act → World → Prop} {E : Prop} {v y r : Value}
    (hg : o.guard = none) (s x : Operand) (t : TypeId) (hop : o.op = Op.call { callee := Callee.builtin Builtin.append, args := #[s, x], argTypes := #[t, t] }) (hs : a.eval s = v) (hx : a.eval x = y)
    (hrun : (Builtin.append_ #[t, t] o.type #[v, y]).run P w = .ok r w') (hK : K (a.put o.dst r) w') : if Region.wanted o (yielded ops a.tmps) = true then Oper.wp P o a w K Q else E := by
  have hw : Region.wanted o (yielded ops a.tmps) = true := by simp [Region.wanted, hg]
  rw [if_pos hw]
  unfold Oper.wp
  simp [execOp, hop, resolve, invoke, builtin, hs, hx, hrun, Result.andThen]
  exact hK
end Go.Proofs.Ytiomngpfolkgpaa
namespace Go.Proofs.Ytiomngpfolkgpaa
open Go.RowKit Lk

/-- An item put behind three numbers. -/
theorem app_pkt {W : World} {B : Nat} {v : Value} {ep n : Int} {t : ByteArray} {g : Nat} (ty : TypeId) (h : OwnsI B W v [pkN 0, pkN ep, pkN n]) (hB : B ≤ W.heap.size) (hg : CBox g #[.bool true, .int .i64 0, .string t] 84 W) :
    ∃ ad cp W', (Builtin.append_ #[77, 77] ty #[v, .slice (some ⟨g, 0, none⟩) 1 1]).run Try.prog W = .ok (.slice ad 4 cp) W' ∧ ItemsAt W' ad (dataL ep n t) ∧ Below B W W' := by
  obtain ⟨i0, hi, hz0, hz1, hz2⟩ := info_parts info_Item
  obtain ⟨v', W', hr, h1, h2, _⟩ := run_append_own (P := Try.prog) (w := W) B 77 ty 84 i0 (.agg #[.bool false, .int .i64 0, .string ⟨#[]⟩]) 3 32 Try.underlying77 hi hz0 hz1 hz2 rfl (by decide) v 3 _ h ⟨g, 0, none⟩ 1 1 [.bool true, .int .i64 0, .string t] rfl (fun j u hj => by
    rw [Go.WideShapes.add_plain, Nat.zero_add]
    exact hg.cell (by simpa using hj)) (fun u hu => by simp at hu; rcases hu with rfl | rfl | rfl <;> rfl) (by unfold maxLen; omega) (by omega) hB
  have ho : OwnsI B W' v' (dataL ep n t) := h1
  obtain ⟨ad, cp, rfl, ha⟩ := ho.items
  exact ⟨ad, cp, W', hr, ha, Below.grown (Below.refl B W) h2 hB (fun k hk => (World.ownsRow.lt h k hk).1)⟩
theorem ownsI_lower {B B' : Nat} {W : World} {v : Value} {l : List It} (h : OwnsI B W v l) (hB : B' ≤ B) : OwnsI B' W v l := by
  obtain ⟨h1, h2 | ⟨g, cp, cur, e, hb, r⟩⟩ := h
  · exact ⟨h1, Or.inl h2⟩
  · exact ⟨h1, Or.inr ⟨g, cp, cur, e, Nat.le_trans hB hb, r⟩⟩
theorem dataL_ok {ep n : Int} {t : ByteArray} (e0 : -9223372036854775808 ≤ ep) (e1 : ep < 9223372036854775808) (n0 : -9223372036854775808 ≤ n) (n1 : n < 9223372036854775808) (ht : t.size ≤ 9223372036854775807) : ∀ x ∈ dataL ep n t, x.ok := fun x hx => by
  unfold dataL at hx
  simp only [List.mem_cons, List.not_mem_nil, or_false] at hx
  rcases hx with rfl | rfl | rfl | rfl
  · exact pkN_ok (by decide) (by decide)
  · exact pkN_ok e0 e1
  · exact pkN_ok n0 n1
  · exact ⟨by show (-9223372036854775808 : Int) ≤ 0; decide, by show (0 : Int) < 9223372036854775808; decide, ht⟩
set_option maxHeartbeats 4000000 in
set_option maxRecDepth 100000 in
theorem lData_any (ep n : Int) (t : ByteArray) (w : World) (e0 : -9223372036854775808 ≤ ep) (e1 : ep < 9223372036854775808) (n0 : -9223372036854775808 ≤ n) (n1 : n < 9223372036854775808) (ht : t.size ≤ 9223372036854775807) :
    Calls Try.prog 25 #[.agg #[.int .i64 ep, .int .i64 n, .string t]] w fun e w' => e = .returned (.string (dataB ep n t)) ∧ Below w.heap.size w w' := by
  obtain ⟨V, hV⟩ : ∃ V, V = (w.alloc (.cells #[.int .i64 ep, .int .i64 n, .string t] 72)).drew := ⟨_, rfl⟩
  have kV : Below (w.heap.size + 1) (w.alloc (.cells #[.int .i64 ep, .int .i64 n, .string t] 72)) V := by rw [hV]; exact (Below.refl _ _).drew
  have k0 : Below w.heap.size w V := ((Below.refl w.heap.size w).alloc (Nat.le_refl _) _).trans (kV.mono (Nat.le_succ _))
  have bV : CBox w.heap.size #[.int .i64 ep, .int .i64 n, .string t] 72 V := by rw [hV]; exact (CBox.new w _ _).kp (Kp.drew _) (by simp)
  have zV : V.heap.size = w.heap.size + 1 := by rw [hV]; simp
  have HSS : Hid (∀ W, Below V.heap.size V W → W.cell? ⟨w.heap.size, 0, none⟩ = some (.int .i64 ep) ∧ W.cell? ⟨w.heap.size, 1, none⟩ = some (.int .i64 n) ∧ W.cell? ⟨w.heap.size, 2, none⟩ = some (.string t)) := hide (fun W hk => by
    have := bV.kp (F := []) (Kp.ofBelow hk) (by simp)
    exact ⟨this.cell rfl, this.cell rfl, this.cell rfl⟩)
  have HH := hide (fun W => lHead_any 0 ep n t W)
  have HAP : Hid (∀ W v g ty, OwnsI V.heap.size W v [pkN 0, pkN ep, pkN n] → V.heap.size ≤ W.heap.size → CBox g #[.bool true, .int .i64 0, .string t] 84 W → ∃ ad cp W', (Builtin.append_ #[77, 77] ty #[v, .slice (some ⟨g, 0, none⟩) 1 1]).run Try.prog W = .ok (.slice ad 4 cp) W' ∧ (∀ W2, Kp [] W' W2 → Calls Try.prog 37 #[.slice ad 4 cp] W2 fun e w' => e = .returned (.string (dataB ep n t)) ∧ Below W2.heap.size W2 w') ∧ Below V.heap.size W W') := hide (fun W v g ty h1 h2 h3 => by
    obtain ⟨ad, cp, W', r1, r2, r3⟩ := app_pkt ty h1 h2 h3
    exact ⟨ad, cp, W', r1, fun W2 hk => lBytes_any ad cp (dataL ep n t) W2 (by simp [dataL]) (items_kp r2 hk) (dataL_ok e0 e1 n0 n1 ht), r3⟩)
  have HFIN : Hid (∀ W2 W3, Below V.heap.size V W2 → Below W2.heap.size W2 W3 → Below w.heap.size w W3) := hide (fun W2 W3 h1 h2 => (k0.trans (h1.mono (by omega))).trans (h2.mono (by have := h1.size; omega)))
  have HV0 : Hid (Below V.heap.size V V) := hide (Below.refl _ _)
  clear e0 e1 n0 n1 ht kV k0 bV zV
  generalize dataB ep n t = S at *
  go_enter Try.func25, Try.ntmps25
  go_upto_region 1 with fail
  refine wp_region_held_drew (S := fun W => W.cell? ⟨w.heap.size, 0, none⟩ = some (.int .i64 ep) ∧ W.cell? ⟨w.heap.size, 1, none⟩ = some (.int .i64 n) ∧ W.cell? ⟨w.heap.size, 2, none⟩ = some (.string t)) (by kernel_rfl) (by rw [← hV]; exact unhide HSS V (unhide HV0)) (fun hHeld => ?_)
  rw [← hV] at hHeld ⊢
  clear hV
  show wpAnyH _ _ _ _ _ 9 (Array.replicate 9 false) _ _
  refine wpAnyH_take (i := 0) (oi := { dst := some 3, op := Op.load 72 (Operand.tmp 1), type := 72, pos := "packet.go:21", after := #[], guard := none }) (v := ?_) rfl (by kernel_rfl) (by kernel_rfl) (by kernel_rfl) (fun _ _ _ h => h) (Or.inl ⟨by rfl, ?_⟩) (by assumption) ?_
  rotate_left 1
  · intro w0 hSw
    (try dsimp only at hSw)
    go_simp
    (try with_reducible rfl)
  try simp only [Act.put, List.setIfInBounds_toArray, List.set_cons_zero, List.set_cons_succ]
  refine wpAnyH_take (i := 2) (oi := { dst := some 5, op := Op.fieldAddr 72 (Operand.tmp 1) 2, type := 0, pos := "packet.go:21", after := #[], guard := none }) (v := ?_) rfl (by kernel_rfl) (by kernel_rfl) (by kernel_rfl) (fun _ _ _ h => h) (Or.inl ⟨by rfl, ?_⟩) (by assumption) ?_
  rotate_left 1
  · intro w0 hSw
    (try dsimp only at hSw)
    go_simp
    (try with_reducible rfl)
  try simp only [Act.put, List.setIfInBounds_toArray, List.set_cons_zero, List.set_cons_succ]
  refine wpAnyH_take (i := 3) (oi := { dst := some 6, op := Op.load 9 (Operand.tmp 5), type := 9, pos := "packet.go:21", after := #[{ on := 2, ground := Ground.data }], guard := none }) (v := ?_) rfl (by kernel_rfl) (by kernel_rfl) (by kernel_rfl) (fun _ _ _ h => h) (Or.inl ⟨by rfl, ?_⟩) (by assumption) ?_
  rotate_left 1
  · intro w0 hSw
    (try dsimp only at hSw)
    go_simp
    (try with_reducible rfl)
  try simp only [Act.put, List.setIfInBounds_toArray, List.set_cons_zero, List.set_cons_succ]
  refine wpAnyH_take (i := 4) (oi := { dst := some 7, op := Op.build 84 #[(0, Operand.const (Value.bool true)), (2, Operand.tmp 6)], type := 84, pos := "packet.go:21", after := #[{ on := 3, ground := Ground.data }], guard := none }) (v := ?_) rfl (by kernel_rfl) (by kernel_rfl) (by kernel_rfl) (fun _ _ _ h => h) (Or.inl ⟨by rfl, ?_⟩) (by assumption) ?_
  rotate_left 1
  · intro w0 hSw
    (try dsimp only at hSw)
    go_simp
    (try with_reducible rfl)
  try simp only [Act.put, List.setIfInBounds_toArray, List.set_cons_zero, List.set_cons_succ]
  refine wpAnyH_ready (rs := [1, 5]) (by kernel_rfl) (by simp) ?_
  refine AllReadyH.cons (o := { dst := some 4, op := Op.call { callee := Callee.value (Operand.func 38), args := #[Operand.const (Value.int IntKind.i64 0), Operand.tmp 3], argTypes := #[2, 72] }, type := 77, pos := "packet.go:21", after := #[{ on := 0, ground := Ground.data }], guard := none }) rfl (fun K hK => ?_) (AllReadyH.cons (o := { dst := some 8, op := Op.buildSlice 77 1 #[(0, Operand.tmp 7)], type := 77, pos := "packet.go:21", after := #[{ on := 4, ground := Ground.data }], guard := none }) rfl (fun K hK => ?_) (AllReadyH.nil))
  · go_simp
    refine (unhide HH _).mono ?_
    rintro e W1 ⟨v, rfl, ho, hb⟩
    have HB1 := hide hb
    have HO1 : Hid (OwnsI V.heap.size W1 v [pkN 0, pkN ep, pkN n]) := hide ho
    clear hb ho
    refine hK.out _ _ ?_ (fun hHeld => ?_)
    · exact unhide HSS _ (unhide HB1)
    clear hK K
    try simp only [Act.put, List.setIfInBounds_toArray, List.set_cons_zero, List.set_cons_succ]
    refine wpAnyH_ready (rs := [5]) (by kernel_rfl) (by simp) ?_
    refine AllReadyH.cons (o := { dst := some 8, op := Op.buildSlice 77 1 #[(0, Operand.tmp 7)], type := 77, pos := "packet.go:21", after := #[{ on := 4, ground := Ground.data }], guard := none }) rfl (fun K hK => ?_) (AllReadyH.nil)
    go_simp
    refine hK.out _ _ ?_ (fun hHeld => ?_)
    · exact unhide HSS _ ((unhide HB1).alloc (unhide HB1).size _)
    clear hK K
    try simp only [Act.put, List.setIfInBounds_toArray, List.set_cons_zero, List.set_cons_succ]
    have HB0 := hide ((unhide HB1).alloc (unhide HB1).size (.cells #[.bool true, .int .i64 0, .string t] 84))
    have HG := hide (CBox.new W1 #[.bool true, .int .i64 0, .string t] 84)
    have HO := hide ((unhide HO1).alloc (.cells #[.bool true, .int .i64 0, .string t] 84))
    have HZ := hide (unhide HB0).size
    clear HB1 HO1
    generalize W1.alloc (.cells #[.bool true, .int .i64 0, .string t] 84) = W4 at *
    generalize W1.heap.size = g4 at *
    obtain ⟨ad, cp, W5, r5, hby, k5⟩ := unhide HAP _ _ _ 77 (unhide HO) (unhide HZ) (unhide HG)
    refine wpAnyH_ready (rs := [6]) (by kernel_rfl) (by simp) ?_
    refine AllReadyH.cons (o := { dst := some 9, op := Op.call { callee := Callee.builtin Builtin.append, args := #[Operand.tmp 4, Operand.tmp 8], argTypes := #[77, 77] }, type := 77, pos := "packet.go:21", after := #[{ on := 1, ground := Ground.data }, { on := 5, ground := Ground.data }, { on := 1, ground := Ground.chain }], guard := none }) rfl (fun K hK => ?_) (AllReadyH.nil)
    refine step_app_run rfl (.tmp 4) (.tmp 8) 77 rfl rfl rfl r5 ?_
    have HB5 := hide ((unhide HB0).trans k5)
    have HBY := hide hby
    clear hby k5 r5
    refine hK.out _ _ ?_ (fun hHeld => ?_)
    · exact unhide HSS _ (unhide HB5)
    clear hK K
    try simp only [Act.put, List.setIfInBounds_toArray, List.set_cons_zero, List.set_cons_succ]
    refine wpAnyH_ready (rs := [7]) (by kernel_rfl) (by simp) ?_
    refine AllReadyH.cons (o := { dst := some 10, op := Op.call { callee := Callee.value (Operand.func 37), args := #[Operand.tmp 9], argTypes := #[77] }, type := 9, pos := "packet.go:21", after := #[{ on := 6, ground := Ground.data }, { on := 6, ground := Ground.chain }], guard := none }) rfl (fun K hK => ?_) (AllReadyH.nil)
    go_simp
    refine (unhide HBY _ (Kp.refl _ _)).mono ?_
    rintro e W6 ⟨rfl, k6⟩
    have HB6 := hide ((unhide HB5).trans (k6.mono (unhide HB5).size))
    have HF := hide (unhide HFIN _ _ (unhide HB5) k6)
    clear k6
    refine hK.out _ _ ?_ (fun hHeld => ?_)
    · exact unhide HSS _ (unhide HB6)
    clear hK K
    try simp only [Act.put, List.setIfInBounds_toArray, List.set_cons_zero, List.set_cons_succ]
    refine wpAnyH_take (i := 8) (oi := { dst := some 2, op := Op.assign (Operand.tmp 10), type := 9, pos := "packet.go:21", after := #[{ on := 7, ground := Ground.data }, { on := 7, ground := Ground.chain }, { on := 0, ground := Ground.phase }, { on := 1, ground := Ground.phase }, { on := 2, ground := Ground.phase }, { on := 3, ground := Ground.phase }, { on := 4, ground := Ground.phase }, { on := 5, ground := Ground.phase }, { on := 6, ground := Ground.phase }, { on := 7, ground := Ground.phase }], guard := none }) (v := ?_) rfl (by kernel_rfl) (by kernel_rfl) (by kernel_rfl) (fun _ _ _ h => h) (Or.inl ⟨by rfl, ?_⟩) (by assumption) ?_
    rotate_left 1
    · intro w0 hSw
      (try dsimp only at hSw)
      go_simp
      (try with_reducible rfl)
    try simp only [Act.put, List.setIfInBounds_toArray, List.set_cons_zero, List.set_cons_succ]
    refine wpAnyH_done (by kernel_rfl) ?_ _
    go_wp2
    go_ret
    exact ⟨rfl, unhide HF⟩
  · go_simp
    refine hK.out _ _ ?_ (fun hHeld => ?_)
    · exact unhide HSS _ ((unhide HV0).alloc (Nat.le_refl _) _)
    clear hK K
    try simp only [Act.put, List.setIfInBounds_toArray, List.set_cons_zero, List.set_cons_succ]
    have HB1 := hide ((unhide HV0).alloc (Nat.le_refl _) (.cells #[.bool true, .int .i64 0, .string t] 84))
    have HG1 := hide (CBox.new V #[.bool true, .int .i64 0, .string t] 84)
    have HZ1 := hide (unhide HB1).size
    generalize V.alloc (.cells #[.bool true, .int .i64 0, .string t] 84) = W1 at *
    generalize hg4 : V.heap.size = g4 at HG1 ⊢
    refine wpAnyH_ready (rs := [1]) (by kernel_rfl) (by simp) ?_
    refine AllReadyH.cons (o := { dst := some 4, op := Op.call { callee := Callee.value (Operand.func 38), args := #[Operand.const (Value.int IntKind.i64 0), Operand.tmp 3], argTypes := #[2, 72] }, type := 77, pos := "packet.go:21", after := #[{ on := 0, ground := Ground.data }], guard := none }) rfl (fun K hK => ?_) (AllReadyH.nil)
    go_simp
    refine (unhide HH _).mono ?_
    rintro e W4 ⟨v, rfl, ho, hb⟩
    have HB0 := hide ((unhide HB1).trans (hb.mono (unhide HZ1)))
    have HO : Hid (OwnsI V.heap.size W4 v [pkN 0, pkN ep, pkN n]) := hide (ownsI_lower ho (unhide HZ1))
    have HG := hide ((unhide HG1).kp (F := []) (Kp.ofBelow hb) (by simp))
    have HZ := hide (unhide HB0).size
    clear hb ho HB1 HG1 HZ1
    refine hK.out _ _ ?_ (fun hHeld => ?_)
    · exact unhide HSS _ (unhide HB0)
    clear hK K
    try simp only [Act.put, List.setIfInBounds_toArray, List.set_cons_zero, List.set_cons_succ]
    obtain ⟨ad, cp, W5, r5, hby, k5⟩ := unhide HAP _ _ _ 77 (unhide HO) (unhide HZ) (unhide HG)
    refine wpAnyH_ready (rs := [6]) (by kernel_rfl) (by simp) ?_
    refine AllReadyH.cons (o := { dst := some 9, op := Op.call { callee := Callee.builtin Builtin.append, args := #[Operand.tmp 4, Operand.tmp 8], argTypes := #[77, 77] }, type := 77, pos := "packet.go:21", after := #[{ on := 1, ground := Ground.data }, { on := 5, ground := Ground.data }, { on := 1, ground := Ground.chain }], guard := none }) rfl (fun K hK => ?_) (AllReadyH.nil)
    refine step_app_run rfl (.tmp 4) (.tmp 8) 77 rfl rfl rfl r5 ?_
    have HB5 := hide ((unhide HB0).trans k5)
    have HBY := hide hby
    clear hby k5 r5
    refine hK.out _ _ ?_ (fun hHeld => ?_)
    · exact unhide HSS _ (unhide HB5)
    clear hK K
    try simp only [Act.put, List.setIfInBounds_toArray, List.set_cons_zero, List.set_cons_succ]
    refine wpAnyH_ready (rs := [7]) (by kernel_rfl) (by simp) ?_
    refine AllReadyH.cons (o := { dst := some 10, op := Op.call { callee := Callee.value (Operand.func 37), args := #[Operand.tmp 9], argTypes := #[77] }, type := 9, pos := "packet.go:21", after := #[{ on := 6, ground := Ground.data }, { on := 6, ground := Ground.chain }], guard := none }) rfl (fun K hK => ?_) (AllReadyH.nil)
    go_simp
    refine (unhide HBY _ (Kp.refl _ _)).mono ?_
    rintro e W6 ⟨rfl, k6⟩
    have HB6 := hide ((unhide HB5).trans (k6.mono (unhide HB5).size))
    have HF := hide (unhide HFIN _ _ (unhide HB5) k6)
    clear k6
    refine hK.out _ _ ?_ (fun hHeld => ?_)
    · exact unhide HSS _ (unhide HB6)
    clear hK K
    try simp only [Act.put, List.setIfInBounds_toArray, List.set_cons_zero, List.set_cons_succ]
    refine wpAnyH_take (i := 8) (oi := { dst := some 2, op := Op.assign (Operand.tmp 10), type := 9, pos := "packet.go:21", after := #[{ on := 7, ground := Ground.data }, { on := 7, ground := Ground.chain }, { on := 0, ground := Ground.phase }, { on := 1, ground := Ground.phase }, { on := 2, ground := Ground.phase }, { on := 3, ground := Ground.phase }, { on := 4, ground := Ground.phase }, { on := 5, ground := Ground.phase }, { on := 6, ground := Ground.phase }, { on := 7, ground := Ground.phase }], guard := none }) (v := ?_) rfl (by kernel_rfl) (by kernel_rfl) (by kernel_rfl) (fun _ _ _ h => h) (Or.inl ⟨by rfl, ?_⟩) (by assumption) ?_
    rotate_left 1
    · intro w0 hSw
      (try dsimp only at hSw)
      go_simp
      (try with_reducible rfl)
    try simp only [Act.put, List.setIfInBounds_toArray, List.set_cons_zero, List.set_cons_succ]
    refine wpAnyH_done (by kernel_rfl) ?_ _
    go_wp2
    go_ret
    exact ⟨rfl, unhide HF⟩
end Go.Proofs.Ytiomngpfolkgpaa
