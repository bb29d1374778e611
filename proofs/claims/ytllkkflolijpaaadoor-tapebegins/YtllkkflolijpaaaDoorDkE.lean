/-
  size, and the small calls of a disk: Waiting, New.
-/
import Derived.Test.YtllkkflolijpaaaDoorDkN
namespace Go.Proofs.YtllkkflolijpaaaDoor
open Go.RowKit

def lsum (l : List Ent) : Nat := (l.map fun x => x.has.length).sum
theorem lsum_total {l : List Ent} {fs : Fs} (hp : (l.map Ent.p).Perm fs) : lsum l = total fs := by
  rw [← total_perm hp]
  unfold lsum total
  rw [List.map_map]; rfl
theorem lsum_step : ∀ {l : List Ent} {x : Ent}, (l.map Ent.born).Nodup → x ∈ l → lsum l = x.has.length + lsum (lessE l x)
  | [], _, _, h => by simp at h
  | a :: l, x, hn, hx => by
    rw [List.map_cons, List.nodup_cons] at hn
    rw [List.mem_cons] at hx
    rcases hx with rfl | hx
    · have e : l.filter (fun y => decide (y.born ≠ x.born)) = l := List.filter_eq_self.2 (fun y hy => by
        simp only [decide_eq_true_eq]
        exact fun e => hn.1 (List.mem_map.2 ⟨y, hy, e⟩))
      unfold lessE
      rw [List.filter_cons_of_neg (by simp), e]
      unfold lsum
      rw [List.map_cons, List.sum_cons]
    · have hne : a.born ≠ x.born := fun e => hn.1 (List.mem_map.2 ⟨x, hx, e.symm⟩)
      have := lsum_step hn.2 hx
      unfold lessE at *
      rw [List.filter_cons_of_pos (by simpa using hne)]
      unfold lsum at *
      rw [List.map_cons, List.sum_cons, List.map_cons, List.sum_cons]; omega
theorem RngIs.left_eq {w : World} {b r : Nat} {l left : List Ent} (h : RngIs w b r l left) : w.rangeLeft b r = left.length := by
  obtain ⟨clock, since, seen, c0, hm, hr, _, _, _, rfl⟩ := h
  unfold World.rangeLeft
  rw [hm.here, hr]
  dsimp only
  unfold leftOf
  rw [← Array.length_toList, Array.toList_filter, List.filter_map, List.length_map]
  rfl
theorem RngIs.bnd {w : World} {b r : Nat} {l left : List Ent} (h : RngIs w b r l left) : (left.map Ent.born).Nodup := by
  have hs := h.sub
  obtain ⟨clock, hm⟩ := h.map
  exact (hs.map _).nodup hm.born
theorem RngIs.kp {F : List Nat} {w w' : World} {b r : Nat} {l left : List Ent} (h : RngIs w b r l left) (hk : Kp F w w') (h1 : b ∉ F) (h2 : r ∉ F) : RngIs w' b r l left := by
  obtain ⟨clock, since, seen, c0, hm, hr, q⟩ := h
  exact ⟨clock, since, seen, c0, hm.kp hk h1, (hk.block r (Array.getElem?_eq_some_iff.1 hr).1 h2).trans hr, q⟩
section
variable {w : World} {ops : Array Oper} {rest : List Oper} {o : Oper} {a : Act} {Q : Exit → Act → World → Prop}
theorem wpList_lenV (hg : o.guard = none) (m : Operand) (hop : o.op = Op.call { callee := Callee.builtin Builtin.len, args := #[m], argTypes := #[45] }) (v : Value) (hm : a.eval m = v) {l : List UInt8} {W : World} (h : Row W v l)
    (hK : wpList Tryd.prog ops Q rest (a.put o.dst (.int .i64 (l.length : Int))) w) : wpList Tryd.prog ops Q (o :: rest) a w := by
  refine wpList_plain hg fun K' hK' => ?_
  obtain ⟨ad, cap, rfl, _⟩ := h.form
  unfold Oper.wp
  simp [execOp, hop, resolve, invoke, builtin, hm, Builtin.len_, run_underlying Tryd.underlying45, Result.andThen, goInt]
  exact hK' _ _ hK
end
set_option maxHeartbeats 1000000 in
set_option maxRecDepth 100000 in
theorem size_any (b : Nat) (fs : Fs) (L : List Nat) (w : World) (h : FilesAt w b fs L) (hr0 : total fs ≤ 262144) :
    Calls Tryd.prog 33 #[.map (some b)] w fun e w' => e = .returned (.int .i64 (total fs : Int)) ∧ Kp [] w w' := by
  obtain ⟨l, clock, hm, hr, hp, rfl, hn⟩ := h
  have hsum := lsum_total hp
  have hbl := hm.lt
  have HR := hide hr
  generalize total fs = T at *
  have HS := hide hsum
  clear hr hp hsum hn
  go_enter Tryd.func33, Tryd.ntmps33
  go_wp2_with (at_range; refine wpList_rangeE rfl _ rfl rfl hm ?_; intro w0 hrg0 hk0)
  go_frame
  go_loopw [3, 5] (fun n _ wr => ∃ (k : Nat) (left : List Ent), n = .int .i64 (k : Int) ∧ RngIs wr b w.heap.size l left ∧ Kp [] w wr ∧ Hid (k + lsum left = T)) (fun _ _ wr => wr.rangeLeft b w.heap.size)
  case atStart => exact ⟨0, l, rfl, hrg0, hk0, hide (by have := unhide HS; omega)⟩
  case round =>
    obtain ⟨k, left, rfl, hrg, hk, HK⟩ := hrel
    go_wp2_with (at_next; refine wpList_nextE rfl _ rfl w.heap.size left rfl hrg ?_ ?_)
    · intro hl0
      subst hl0
      have hkT : k = T := by have := unhide HK; simpa [lsum] using this
      clear HK
      go_wp2
      go_ret
      exact ⟨by rw [hkT]; rfl, hk⟩
    · intro x w1 hx hrg1 hlt hk1 hs1 hen
      have hrow := (unhide HR x (hrg.sub.subset hx)).kp hk (by simp)
      have hst := lsum_step hrg.bnd hx
      have hkT := unhide HK
      have hbd : (k : Int) + (x.has.length : Int) ≤ 262144 := by omega
      have HN : Hid (k + x.has.length + lsum (lessE left x) = T) := hide (by omega)
      clear hst hkT
      go_wp2_with (at_len; refine wpList_lenV rfl _ rfl _ rfl hrow ?_)
      go_roundw
      case rel => exact ⟨k + x.has.length, _, by go_num, hrg1, hk.trans hk1 (by simp), HN⟩
      case measure => rw [hrg1.left_eq, hrg.left_eq]; exact hlt
theorem DiskAt.ptr {w : World} {p : Nat} {d : Dk} {F : List Nat} (h : DiskAt w p d F) : p ∈ F := by
  obtain ⟨bs, bn, wv, Ls, Ln, ha, rfl, _⟩ := h
  simp [foot]
set_option maxHeartbeats 400000 in
theorem new_any (w : World) :
    Calls Tryd.prog 6 #[] w fun e w' => ∃ p F, e = .returned (.pointer (some ⟨p, 0, none⟩)) ∧ DiskAt w' p Dk.new F ∧ Kp [] w w' ∧ ∀ k ∈ F, w.heap.size ≤ k := by
  have hmm := @run_makeMap Tryd.prog
  go_enter Tryd.func6, Tryd.ntmps6
  go_wp2
  have s1 : (w.alloc (.map #[] 0)).heap.size = w.heap.size + 1 := by simp
  have f1 := FilesAt.made w
  have f2 := FilesAt.made (w.alloc (.map #[] 0))
  have k1 := Kp.alloc w (.map #[] 0)
  have k2 := Kp.alloc (w.alloc (.map #[] 0)) (.map #[] 0)
  have k3 := Kp.alloc ((w.alloc (.map #[] 0)).alloc (.map #[] 0)) (.cells (dkC w.heap.size (w.heap.size + 1) nilS (-1) false) 57)
  have bx := CBox.new ((w.alloc (.map #[] 0)).alloc (.map #[] 0)) (dkC w.heap.size (w.heap.size + 1) nilS (-1) false) 57
  have s2 : ((w.alloc (.map #[] 0)).alloc (.map #[] 0)).heap.size = w.heap.size + 1 + 1 := by simp
  rw [s1] at f2
  rw [s2] at bx
  have hD : DkAt (((w.alloc (.map #[] 0)).alloc (.map #[] 0)).alloc (.cells (dkC w.heap.size (w.heap.size + 1) nilS (-1) false) 57)) (w.heap.size + 1 + 1) w.heap.size (w.heap.size + 1) nilS [] [] Dk.new :=
    ⟨bx, (f1.kp k2 (by simp) (by simp)).kp k3 (by simp) (by simp), f2.kp k3 (by simp) (by simp), WaitsAt.nil _, by omega, by simp⟩
  refine bodyPost_ret (v := .pointer (some ⟨w.heap.size + 1 + 1, 0, none⟩)) (by simp [results, Tryd.results6, go_sem]) rfl ⟨_, _, rfl, ⟨_, _, _, _, _, hD, rfl, Inv.new⟩, (k1.trans k2 (by simp)).trans k3 (by simp), fun k hk => ?_⟩
  simp [foot, nilS, Value.ownBlock] at hk
  omega
end Go.Proofs.YtllkkflolijpaaaDoor
