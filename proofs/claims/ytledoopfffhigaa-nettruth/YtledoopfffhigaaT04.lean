/-
  A net: cells of a row written over; clear at packets; slices.Delete at packets.
  A net: a way's pull and clear.
-/
import Derived.Test.YtledoopfffhigaaT03
import Derived.Lib.SliceRun
import Derived.Deep.RegionLaw
import Derived.Shelf.RegionOpenPlain
import Derived.Laws.Rows
namespace Go.Proofs.Ytledoopfffhigaa
open Go.RowKit Nt

/-- Cells in the middle of a block written over. -/
theorem CBox.put {g t : Nat} : ∀ (vs B A C : List Value) (w : World), B.length = vs.length → CBox g (A ++ B ++ C).toArray t w → CBox g (A ++ vs ++ C).toArray t (w.setCells g A.length vs)
  | [], B, A, C, w, hl, h => by
    obtain rfl : B = [] := List.eq_nil_of_length_eq_zero hl
    exact h
  | v :: r, [], A, C, w, hl, h => by simp at hl
  | v :: r, b :: B, A, C, w, hl, h => by
    have h1 := h.set A.length v
    rw [show (A ++ b :: B ++ C).toArray.setIfInBounds A.length v = (A ++ [v] ++ B ++ C).toArray by simp] at h1
    have h2 := CBox.put r B (A ++ [v]) C _ (by simpa using hl) h1
    rw [show A ++ [v] ++ r ++ C = A ++ v :: r ++ C by simp, show (A ++ [v]).length = A.length + 1 by simp] at h2
    exact h2
theorem Kp.sets (g : Nat) : ∀ (vs : List Value) (o : Nat) (w : World), Kp [g] w (w.setCells g o vs)
  | [], _, w => Kp.refl _ w
  | v :: r, o, w => (Kp.set w g o v).trans (Kp.sets g r (o + 1) _) (fun _ hx => Or.inl hx)
/-- A row of packets by its block. -/
theorem PkRow.box {w : World} {g n cap : Nat} {l : List Pk} (h : PkRow w (.slice (some ⟨g, 0, none⟩) n cap) l) : n = l.length ∧ l.length ≤ cap ∧ cap ≤ maxLen ∧ ∃ rest : List Value, rest.length = (cap - l.length) * 2 ∧ CBox g (pkC l ++ rest).toArray 72 w := by
  obtain ⟨h0, ⟨h1, _⟩ | ⟨g', cp, cur, e, _, hh, hn, hm, hsz, htk⟩⟩ := h
  · cases h1
  · injection e with e1 e2 e3
    injection e1 with e1; injection e1 with e1
    subst e1; subst e3
    refine ⟨e2, hn, hm, cur.toList.drop (l.length * 2), ?_, ?_⟩
    · rw [List.length_drop, Array.length_toList, hsz]; omega
    · rw [← htk, List.take_append_drop]
      exact hh
theorem PkRow.ofBox {w : World} {g cap : Nat} {l : List Pk} {rest : List Value} (h : CBox g (pkC l ++ rest).toArray 72 w) (hl : l.length ≤ cap) (hm : cap ≤ maxLen) (hr : rest.length = (cap - l.length) * 2) : PkRow w (.slice (some ⟨g, 0, none⟩) l.length cap) l :=
  ⟨pkC_len l, Or.inr ⟨g, cap, (pkC l ++ rest).toArray, rfl, Nat.zero_le _, h, hl, hm, by rw [List.size_toArray, List.length_append, pkC_len, hr]; omega, by rw [← pkC_len l]; simp⟩⟩
/-- The cells of n packets that are none. -/
def pkZ (n : Nat) : List Value := (Builtin.zeroCells (Value.agg #[.int .i64 0, .string ⟨#[]⟩]).cells n).toList
theorem pkZ_len (n : Nat) : (pkZ n).length = n * 2 := by
  unfold pkZ Builtin.zeroCells
  rw [Array.length_toList, Array.size_map, Array.size_range]
  rfl
theorem pkZ_one (n : Nat) : ∀ v ∈ pkZ n, v.oneCell' = true := fun v hv => by
  unfold pkZ Builtin.zeroCells at hv
  rw [Array.toList_map, List.mem_map] at hv
  obtain ⟨i, _, rfl⟩ := hv
  have e : (Value.agg #[.int .i64 0, .string ⟨#[]⟩]).cells = #[.int .i64 0, .string ⟨#[]⟩] := rfl
  rw [e]
  have : i % (#[Value.int .i64 0, .string ⟨#[]⟩] : Array Value).size < 2 := Nat.mod_lt _ (by decide)
  generalize i % (#[Value.int .i64 0, .string ⟨#[]⟩] : Array Value).size = j at *
  match j, this with
  | 0, _ => rfl
  | 1, _ => rfl
theorem run_clear_pk (w : World) (ty : TypeId) (g o n c : Nat) (hn : 0 < n) (hc : ∀ j, j < n * 2 → (w.cell? ⟨g, o + j, none⟩).isSome = true) (hf : ∀ j, j < n * 2 → w.frozen? ⟨g, o + j, none⟩ = false) :
    (Builtin.clear_ #[68] ty #[.slice (some ⟨g, o, none⟩) n c]).run Try.prog w = .ok (.tuple #[]) (w.setCells g o (pkZ n)) := by
  have hst := run_storeCells_cells (P := Try.prog) g o (pkZ n) 0 w (by rw [pkZ_len]; simpa using hc) (by rw [pkZ_len]; simpa using hf) (pkZ_one n)
  simp only [Nat.add_zero] at hst
  have hv : ∀ w, (zeroValue 72).run Try.prog w = .ok (.agg #[.int .i64 0, .string ⟨#[]⟩]) w := Try.zeroValue72
  obtain ⟨m, rfl⟩ : ∃ m, n = m + 1 := ⟨n - 1, by omega⟩
  unfold pkZ at *
  simp [Builtin.clear_, run_underlying Try.underlying68, hv, hst]
/-- The world behind an element taken out of a row: those behind it one up, the last one none. -/
def delW (w : World) (g i n : Nat) (mid : List Value) : World := (w.setCells g (i * 2) mid).setCells g ((n - 1) * 2) (pkZ 1)
theorem delW_row {w : World} {g cap : Nat} {l : List Pk} (i : Nat) (h : PkRow w (.slice (some ⟨g, 0, none⟩) l.length cap) l) (hi : i < l.length) :
    PkRow (delW w g i l.length (pkC (l.drop (i + 1)))) (.slice (some ⟨g, 0, none⟩) (l.length - 1) cap) (l.eraseIdx i) ∧ Kp [g] w (delW w g i l.length (pkC (l.drop (i + 1)))) := by
  obtain ⟨_, hl, hm, rest, hr, hb⟩ := h.box
  have hA : (pkC (l.take i)).length = i * 2 := by rw [pkC_len, List.length_take]; congr 1; omega
  have hsp : pkC l = pkC (l.take i) ++ pkC (l.drop i) := by rw [← pkC_append, List.take_append_drop]
  have hdl : (pkC (l.drop (i + 1))).length = (l.length - i - 1) * 2 := by rw [pkC_len, List.length_drop]; rfl
  have hdl0 : (pkC (l.drop i)).length = (l.length - i) * 2 := by rw [pkC_len, List.length_drop]
  have e1 : pkC l ++ rest = pkC (l.take i) ++ (pkC (l.drop i)).take ((l.length - i - 1) * 2) ++ ((pkC (l.drop i)).drop ((l.length - i - 1) * 2) ++ rest) := by
    rw [hsp, List.append_assoc, List.append_assoc, ← List.append_assoc ((pkC (l.drop i)).take _), List.take_append_drop]
  rw [e1] at hb
  have h1 := CBox.put (pkC (l.drop (i + 1))) _ _ _ w (by rw [List.length_take, hdl0, hdl]; omega) hb
  rw [hA] at h1
  have hA2 : (pkC (l.take i) ++ pkC (l.drop (i + 1))).length = (l.length - 1) * 2 := by rw [List.length_append, hA, hdl]; omega
  have h2 := CBox.put (pkZ 1) ((pkC (l.drop i)).drop ((l.length - i - 1) * 2)) (pkC (l.take i) ++ pkC (l.drop (i + 1))) rest _ (by rw [List.length_drop, hdl0, pkZ_len]; omega) (by rw [List.append_assoc]; exact h1)
  rw [hA2] at h2
  have he : l.eraseIdx i = l.take i ++ l.drop (i + 1) := List.eraseIdx_eq_take_drop_succ l i
  have hle : (l.eraseIdx i).length = l.length - 1 := List.length_eraseIdx_of_lt hi
  refine ⟨?_, (Kp.sets g _ _ w).trans (Kp.sets g _ _ _) (fun _ hx => Or.inl hx)⟩
  have := PkRow.ofBox (w := delW w g i l.length (pkC (l.drop (i + 1)))) (g := g) (cap := cap) (l := l.eraseIdx i) (rest := pkZ 1 ++ rest) (by rw [he, pkC_append, ← List.append_assoc]; exact h2) (by rw [hle]; omega) hm (by rw [List.length_append, pkZ_len, hr, hle]; omega)
  rw [hle] at this
  exact this
set_option maxHeartbeats 4000000 in
set_option maxRecDepth 1000000 in
theorem pdel_any (g cap : Nat) (l : List Pk) (i : Nat) (w : World) (h : PkRow w (.slice (some ⟨g, 0, none⟩) l.length cap) l) (hi : i < l.length) :
    Calls Try.prog 44 #[.slice (some ⟨g, 0, none⟩) l.length cap, .int .i64 (i : Int), .int .i64 ((i : Int) + 1)] w fun e w' => e = .returned (.slice (some ⟨g, 0, none⟩) (l.length - 1) cap) ∧ PkRow w' (.slice (some ⟨g, 0, none⟩) (l.length - 1) cap) (l.eraseIdx i) ∧ Kp [g] w w' := by
  obtain ⟨i0, hi0, hz0, hz1, hz2⟩ := info_parts info_pk
  obtain ⟨_, hl, hm, rest, hr, hb⟩ := h.box
  obtain ⟨V, hV⟩ : ∃ V, V = w.drew := ⟨_, rfl⟩
  have hkV : Kp [] w V := by rw [hV]; exact Kp.drew w
  have hV' := h.kp hkV (by simp)
  have hbV := hb.kp hkV (by simp)
  obtain ⟨h1, h2⟩ := delW_row i hV' hi
  have hsome : ∀ W, CBox g (pkC l ++ rest).toArray 72 W → ∀ j, j < cap * 2 → (W.cell? ⟨g, j, none⟩).isSome = true := fun W hW j hj => by
    have hlt : j < (pkC l ++ rest).toArray.size := by rw [List.size_toArray, List.length_append, pkC_len, hr]; omega
    rw [hW.cell (Array.getElem?_eq_getElem hlt)]
    rfl
  have HSRC : Hid (∀ j u, (pkC (l.drop (i + 1)))[j]? = some u → V.cell? ⟨g, (i + 1) * 2 + j, none⟩ = some u) := hide (fun j u hj => by
    refine hbV.cell ?_
    have e : pkC l = pkC (l.take (i + 1)) ++ pkC (l.drop (i + 1)) := by rw [← pkC_append, List.take_append_drop]
    have hA : (pkC (l.take (i + 1))).length = (i + 1) * 2 := by rw [pkC_len, List.length_take]; congr 1; omega
    rw [e, List.getElem?_toArray, List.append_assoc, List.getElem?_append_right (by omega), hA, Nat.add_sub_cancel_left, List.getElem?_append_left ((List.getElem?_eq_some_iff.1 hj).1)]
    exact hj)
  have HLEN : Hid ((pkC (l.drop (i + 1))).length = (l.length - (i + 1)) * 2) := hide (by rw [pkC_len, List.length_drop])
  have HONE : Hid (∀ u ∈ pkC (l.drop (i + 1)), u.oneCell' = true) := hide (pkC_cell _)
  have HSP : Hid (∀ j, j < (pkC (l.drop (i + 1))).length → (V.cell? ⟨g, 0 + i * 2 + j, none⟩).isSome = true ∧ V.frozen? ⟨g, 0 + i * 2 + j, none⟩ = false) := hide (fun j hj => ⟨hsome V hbV _ (by rw [unhide HLEN] at hj; omega), hbV.froz _⟩)
  have HCL : Hid (∀ ty, (Builtin.clear_ #[68] ty #[.slice (some ⟨g, (l.length - 1) * 2, none⟩) 1 (cap - (l.length - 1))]).run Try.prog (V.setCells g (i * 2) (pkC (l.drop (i + 1)))) = .ok (.tuple #[]) (delW V g i l.length (pkC (l.drop (i + 1))))) := hide (fun ty => by
    refine run_clear_pk _ ty g _ 1 _ (by decide) (fun j hj => ?_) (fun j hj => ?_)
    · rw [World.isSome_setCells]
      exact hsome V hbV _ (by omega)
    · rw [World.frozen?_setCells]
      exact hbV.froz _)
  have H1 := hide h1
  have H2 : Hid (Kp [g] w (delW V g i l.length (pkC (l.drop (i + 1))))) := hide ((hkV.mono (by simp)).trans h2 (fun _ hx => Or.inl hx))
  have hcm : cap ≤ 9223372036854775807 := by unfold maxLen at hm; omega
  clear hsome h1 h2 hbV hV' hb hr h hkV
  generalize pkC (l.drop (i + 1)) = mid at *
  generalize l.eraseIdx i = L2 at *
  generalize l.length = n at *
  subst hV
  obtain ⟨W1, hW1⟩ : ∃ W1, W1 = w.drew.setCells g (0 + i * 2) mid := ⟨_, rfl⟩
  rw [show w.drew.setCells g (i * 2) mid = W1 by rw [hW1, Nat.zero_add]] at HCL
  generalize delW w.drew g i n mid = W2 at *
  have HW1 := hide hW1
  clear hW1
  obtain ⟨A, hA, HS2⟩ : ∃ A : Addr, (if cap = i + 1 then some (⟨g, 0, none⟩ : Addr) else some ⟨g, (i + 1) * 2, none⟩) = some A ∧ Hid (∀ j u, mid[j]? = some u → w.drew.cell? (A.add j) = some u) := by
    by_cases hc : cap = i + 1
    · refine ⟨⟨g, 0, none⟩, by simp [hc], hide (fun j u hj => ?_)⟩
      have h0 : mid.length = 0 := by rw [unhide HLEN]; omega
      rw [List.length_eq_zero_iff.1 h0] at hj
      simp at hj
    · refine ⟨⟨g, (i + 1) * 2, none⟩, by simp [hc], hide (fun j u hj => ?_)⟩
      rw [Go.WideShapes.add_plain]
      exact unhide HSRC j u hj
  have HA := hide hA
  clear hA HSRC
  have hne : ((i : Int) == (i : Int) + 1) = false := beq_eq_false_iff_ne.2 (by omega)
  have hin : (i : Int) + 1 ≤ (n : Int) := by omega
  have hic : i ≤ cap := by omega
  have mixed : Try.prog.follows .mixedOrders = true := by kernel_rfl
  have h0i : (0 : Int) ≤ (i : Int) + 1 := by omega
  have hjc : i + 1 ≤ cap := by omega
  go_enter Try.func44, Try.ntmps44
  go_wp2_with fail
  go_region_law_o (refine step_append_room rfl (.tmp 22) (.tmp 25) 68 rfl 72 i0 2 Try.underlying68 hi0 hz1 g 0 i cap (by simp [Act.eval, Act.put]) A (n - (i + 1)) (cap - (i + 1)) mid (by simp [Act.eval, Act.put]; exact HA.out) HLEN.out HS2.out HONE.out (by omega) HSP.out ?_; rw [← HW1.out])
  have e : i + (n - (i + 1)) = n - 1 := by omega
  simp only [e, HA.out]
  clear HW1 HSP HS2 HA HONE HLEN e
  have hnm : n - (n - 1) = 1 := by omega
  have hmn : n - 1 ≤ n := by omega
  have hm1 : n - 1 < n := by omega
  generalize hmE : n - 1 = m at *
  have HME := hide hmE
  clear hmE
  have hcl := HCL.out
  have hmc : m < cap := by omega
  have hme : (cap = m) = False := eq_false (by omega)
  clear HCL
  go_wp2
  (go_ret; exact ⟨by rw [HME.out]; rfl, by rw [HME.out]; exact H1.out, H2.out⟩)
end Go.Proofs.Ytledoopfffhigaa
namespace Go.Proofs.Ytledoopfffhigaa
open Go.RowKit Nt

theorem CBox.apart {g q : Nat} {cs ds : Array Value} {t u : TypeId} {w : World} (h : CBox g cs t w) (k : CBox q ds u w) (hne : t ≠ u) : g ≠ q := fun e => by
  unfold CBox at h k
  rw [e, k] at h
  injection h with e; injection e with _ e; exact hne e.symm
theorem PkRow.apart {w : World} {v : Value} {l : List Pk} (h : PkRow w v l) {q : Nat} {ds : Array Value} {u : TypeId} (k : CBox q ds u w) (hne : 72 ≠ u) : ∀ g, v.ownBlock = some g → g ≠ q := fun g hg => by
  obtain ⟨cur, hc⟩ := h.block hg
  exact CBox.apart (cs := cur) hc k hne
set_option maxHeartbeats 1000000 in
set_option maxRecDepth 100000 in
theorem wpull_any (q t : Nat) (cs : Array Value) (g cap : Nat) (l : List Pk) (i : Nat) (hi : i < l.length) (w : World) (hrow : CBox q cs 68 w) (hct : cs[t]? = some (.slice (some ⟨g, 0, none⟩) l.length cap)) (hr : PkRow w (.slice (some ⟨g, 0, none⟩) l.length cap) l) :
    Calls Try.prog 34 #[.pointer (some ⟨q, t, none⟩), .int .i64 (i : Int)] w fun e w' => e = .returned (.agg (pkA l[i])) ∧ WayTo w q t (.slice (some ⟨g, 0, none⟩) l.length cap) (l.eraseIdx i) w' := by
  have hqg := hr.apart hrow (by decide) g rfl
  have c1 := hrow.cell hct
  obtain ⟨c2, c3⟩ := hr.cell i hi
  have lg : g < w.heap.size := hr.lt rfl
  have lq : q < w.heap.size := (Array.getElem?_eq_some_iff.1 hrow).1
  have DEL := hide (fun W (hW : PkRow W (.slice (some ⟨g, 0, none⟩) l.length cap) l) => pdel_any g cap l i W hW hi)
  have hil : (i : Int) < (l.length : Int) := by omega
  have hbox := hr.box
  have hw : wrap64 ((i : Int) + 1) = (i : Int) + 1 := by
    have h2 := hbox.2.1
    have h3 := hbox.2.2.1
    unfold maxLen at h3
    unfold wrap64
    omega
  clear hbox
  generalize l[i] = p at *
  obtain ⟨fr, b⟩ := p
  have HPOST : Hid (∀ w3 : World, PkRow w3 (.slice (some ⟨g, 0, none⟩) (l.length - 1) cap) (l.eraseIdx i) → Kp [g] ((w.alloc (.cells #[.int .i64 0, .string ⟨#[]⟩] 72)).alloc (.cells #[.int .i64 fr, .string b] 72)) w3 → ∀ w5, Kp [w.heap.size] (w3.setCell ⟨q, t, none⟩ (.slice (some ⟨g, 0, none⟩) (l.length - 1) cap)) w5 → WayTo w q t (.slice (some ⟨g, 0, none⟩) l.length cap) (l.eraseIdx i) w5) := hide (fun w3 h3 k3 w5 k5 => by
    refine ⟨w3, _, ?_, h3, Or.inl rfl, [w.heap.size], fun x hx => ?_, k5⟩
    · exact ((Kp.alloc _ _).trans (Kp.alloc _ _) (G := []) (F := []) (by simp)).mono (G := [g]) (by simp) |>.trans k3 (fun x hx => Or.inl hx)
    · rw [List.mem_singleton] at hx
      subst hx
      exact ⟨Nat.le_refl _, fun e => by simp [Value.ownBlock] at e; omega⟩)
  have hk2 : Kp [] w ((w.alloc (.cells #[.int .i64 0, .string ⟨#[]⟩] 72)).alloc (.cells #[.int .i64 fr, .string b] 72)) := (Kp.alloc _ _).trans (Kp.alloc _ _) (by simp)
  have D := hide (unhide DEL _ (hr.kp hk2 (by simp)))
  have b1 : CBox w.heap.size #[.int .i64 0, .string ⟨#[]⟩] 72 ((w.alloc (.cells #[.int .i64 0, .string ⟨#[]⟩] 72)).alloc (.cells #[.int .i64 fr, .string b] 72)) := (CBox.new w _ _).kp (Kp.alloc _ _) (by simp)
  have b2 : CBox (w.heap.size + 1) #[.int .i64 fr, .string b] 72 ((w.alloc (.cells #[.int .i64 0, .string ⟨#[]⟩] 72)).alloc (.cells #[.int .i64 fr, .string b] 72)) := by
    have := CBox.new (w.alloc (.cells #[.int .i64 0, .string ⟨#[]⟩] 72)) #[.int .i64 fr, .string b] 72
    rwa [World.size_alloc] at this
  have hrow2 := hrow.kp hk2 (by simp)
  have B1 := hide b1
  have B2 := hide b2
  have R2 := hide hrow2
  clear DEL hr hk2 b1 b2 hrow2 hrow
  go_enter Try.func34, Try.ntmps34
  go_wp2_with fail
  refine (unhide D).mono ?_
  rintro r w3 ⟨rfl, h3, k3⟩
  have H3 := hide h3
  have K3 := hide k3
  have rq := (unhide R2).kp k3 (by simpa using fun e => hqg e.symm)
  have fq := rq.froz t
  have cq := rq.cell hct
  have q1 := (unhide B1).kp k3 (by simp; omega)
  have q2 := (unhide B2).kp k3 (by simp; omega)
  have n1 : w.heap.size ≠ q := by omega
  have n2 : w.heap.size + 1 ≠ q := by omega
  have ks := Kp.set w3 q t (.slice (some ⟨g, 0, none⟩) (l.length - 1) cap)
  have p1 := q1.kp ks (by simp; omega)
  have p2 := q2.kp ks (by simp; omega)
  have d0 := p2.cell (i := 0) rfl
  have d1 := p2.cell (i := 1) rfl
  have f0 := p1.froz 0
  have f1 := p1.froz 1
  have e0 := p1.cell (i := 0) rfl
  have e1 := p1.cell (i := 1) rfl
  have P1 := hide p1
  clear h3 k3 q1 q2 ks p1 p2 B1 B2 R2 D c1 c2 c3 hct rq
  go_wp2
  have k5 := ((Kp.set (w3.setCell ⟨q, t, none⟩ (.slice (some ⟨g, 0, none⟩) (l.length - 1) cap)) w.heap.size 0 (.int .i64 fr)).trans (Kp.set _ w.heap.size 1 (.string b)) (fun x hx => Or.inl hx))
  have hb5 : CBox w.heap.size #[.int .i64 fr, .string b] 72 (((w3.setCell ⟨q, t, none⟩ (.slice (some ⟨g, 0, none⟩) (l.length - 1) cap)).setCell ⟨w.heap.size, 0, none⟩ (.int .i64 fr)).setCell ⟨w.heap.size, 1, none⟩ (.string b)) := ((unhide P1).set 0 (.int .i64 fr)).set 1 (.string b)
  refine bodyPost_ret (v := .agg #[.int .i64 fr, .string b]) ?_ rfl ⟨rfl, unhide HPOST w3 (unhide H3) (unhide K3) _ k5⟩
  exact results_cell_row (p := 4) (ty := 72) rfl _ _ w.heap.size 72 #[.int .i64 fr, .string b] (0, 0) _ rfl hb5 Try.underlying72 rfl rfl
theorem wclear_any (q t : Nat) (cs : Array Value) (ad : Option Addr) (cap : Nat) (l : List Pk) (w : World) (hrow : CBox q cs 68 w) (hct : cs[t]? = some (.slice ad l.length cap)) :
    Calls Try.prog 32 #[.pointer (some ⟨q, t, none⟩)] w fun e w' => e = .returned (.int .i64 (l.length : Int)) ∧ WayTo w q t (.slice ad l.length cap) [] w' := by
  have c1 := hrow.cell hct
  have f1 := hrow.froz t
  have HP : Hid (WayTo w q t (.slice ad l.length cap) [] (w.setCell ⟨q, t, none⟩ (.slice none 0 0))) := hide ⟨w, .slice none 0 0, Kp.refl _ _, PkRow.nil w, Or.inr (Or.inl rfl), [], (fun _ hx => by cases hx), Kp.refl _ _⟩
  clear hrow hct
  go_enter Try.func32, Try.ntmps32
  go_wp2
  go_ret
  exact ⟨rfl, unhide HP⟩
end Go.Proofs.Ytledoopfffhigaa
