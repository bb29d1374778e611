/-
  A disk that the call itself made.
  The library's contracts at this program, laid by the guide's own tools: a map's keys, sorted.
  Names of a disk: the files' names, rising.
-/
import Derived.Test.YtdmckgcbmbhmmaaGreatDoorRw15
import Derived.Shelf.SlIter.Nil
import Derived.Shelf.SortM.Plain
import Derived.Shelf.SortM.SortNone
import Derived.Ground.GgzProg
import Derived.Ground.SlgmProg
import Derived.Test.YtdmckgcbmbhmmaaGreatDoorProg
namespace Go.Proofs.YtdmckgcbmbhmmaaGreatDoor
open Go.RowKit

/-- A disk of the call's own. -/
def OwnD (w0 w : World) (p : Nat) (d : Dk) : Prop := ∃ F, DiskAt w p d F ∧ Kp [] w0 w ∧ ∀ k ∈ F, w0.heap.size ≤ k
theorem OwnD.kp {w0 w w' : World} {p : Nat} {d : Dk} (h : OwnD w0 w p d) (hk : Kp [] w w') : OwnD w0 w' p d := by
  obtain ⟨F, hd, h1, h2⟩ := h
  exact ⟨F, hd.kp hk (by simp), h1.trans hk (by simp), h2⟩
theorem OwnD.bel {w0 w : World} {p : Nat} {d : Dk} (h : OwnD w0 w p d) : Kp [] w0 w := let ⟨_, _, h1, _⟩ := h; h1
theorem OwnD.inv {w0 w : World} {p : Nat} {d : Dk} (h : OwnD w0 w p d) : Inv d := let ⟨_, h1, _⟩ := h; h1.inv
theorem OwnD.nodup {w0 w : World} {p : Nat} {d : Dk} (h : OwnD w0 w p d) : (d.now.map (·.1)).Nodup := let ⟨_, h1, _⟩ := h; h1.nodup
theorem OwnD.did {w0 w w' : World} {p : Nat} {d d' : Dk} (h : OwnD w0 w p d) (hn : ∀ F, DiskAt w p d F → Did w F p d' w') : OwnD w0 w' p d' := by
  obtain ⟨F, hd, h1, h2⟩ := h
  obtain ⟨F', hd', h3, h4⟩ := hn F hd
  refine ⟨F', hd', h1.trans h3 (fun x hx => Or.inr (h2 x hx)), fun k hk => ?_⟩
  rcases h4 k hk with h5 | h5
  · exact h2 k h5
  · have := h1.size; omega
theorem OwnD.step {w0 w : World} {p : Nat} {d d' : Dk} {f : Nat} {args : Array Value} {r : Ending} (h : OwnD w0 w p d) (hc : ∀ F, DiskAt w p d F → Calls Tryz.prog f args w fun e w' => e = r ∧ Did w F p d' w') : Calls Tryz.prog f args w fun e w' => e = r ∧ OwnD w0 w' p d' := by
  obtain ⟨F, hd, h1, h2⟩ := h
  refine (hc F hd).mono fun e w' hh => ⟨hh.1, ?_⟩
  obtain ⟨F', hd', h3, h4⟩ := hh.2
  refine ⟨F', hd', h1.trans h3 (fun x hx => Or.inr (h2 x hx)), fun k hk => ?_⟩
  rcases h4 k hk with h5 | h5
  · exact h2 k h5
  · have := h1.size; omega
theorem new_own (w : World) : Calls Tryz.prog 7 #[] w fun e w' => ∃ p, e = .returned (.pointer (some ⟨p, 0, none⟩)) ∧ OwnD w w' p Dk.new :=
  (new_any w).mono fun _ _ ⟨p, F, he, hd, hk, hF⟩ => ⟨p, he, F, hd, hk, hF⟩
section
variable {w0 w : World} {p : Nat} {d : Dk}
theorem OwnD.write (h : OwnD w0 w p d) (n : ByteArray) (m : Int) (s : ByteArray) (hn : n.size ≤ 9223372036854775807) (hm0 : -9223372036854775808 ≤ m) (hm1 : m ≤ 9223372036854775807) (hs : s.size ≤ 9223372036854775807) :
    Calls Tryz.prog 20 #[.pointer (some ⟨p, 0, none⟩), .string n, .int .i64 m, .string s] w fun e w' => e = .returned (.int .i64 (d.wrE n m s)) ∧ OwnD w0 w' p (d.wrD n m s) := h.step fun F hd => write_any n m s p d F w hd hn hm0 hm1 hs
theorem OwnD.sync (h : OwnD w0 w p d) : Calls Tryz.prog 42 #[.pointer (some ⟨p, 0, none⟩)] w fun e w' => e = .returned (.int .i64 d.syE) ∧ OwnD w0 w' p d.syD := h.step fun F hd => sync_any p d F w hd
theorem OwnD.crash (h : OwnD w0 w p d) (k t : Int) (ht : t ≤ 9223372036854775807) : Calls Tryz.prog 19 #[.pointer (some ⟨p, 0, none⟩), .int .i64 k, .int .i64 t] w fun e w' => e = .returned (.tuple #[]) ∧ OwnD w0 w' p (d.crash k t) := h.step fun F hd => crash_any k t p d F w hd ht
theorem OwnD.read (h : OwnD w0 w p d) (n : ByteArray) (hn : n.size ≤ 9223372036854775807) :
    Calls Tryz.prog 47 #[.pointer (some ⟨p, 0, none⟩), .string n] w fun e w' => e = .returned (.tuple #[.string (d.rdS n), .int .i64 (d.rdE n)]) ∧ w' = w := let ⟨F, hd, _⟩ := h; read_any n p d F w hd hn
end
end Go.Proofs.YtdmckgcbmbhmmaaGreatDoor
namespace Go.Proofs
open Go.Shelf
def Tryz.keys87_ren : Go.Shelf.Ren := ⟨fun | 7 => 87 | 10 => 108 | n => n, fun | 23 => 55 | 26 => 9 | 3 => 91 | 28 => 133 | 0 => 0 | 27 => 132 | 33 => 90 | 4 => 4 | n => n, fun | n => n⟩
theorem Tryz.keys87 : Go.Proofs.SlLaysZ.n7 Tryz.prog Tryz.keys87_ren := {
  mixed := by kernel_rfl
  f7 := ⟨Tryz.f87.name, by decide, Tryz.func87.trans (congrArg some (by kernel_rfl))⟩
  f10 := ⟨Tryz.f108.name, by decide, Tryz.func108.trans (congrArg some (by kernel_rfl))⟩
  t0 := Tryz.underlying0
  a0 := Tryz.isAgg0
  z0 := Tryz.sizeOf0
  v0 := Tryz.zeroValue0
  t4 := Tryz.underlying4
  a4 := Tryz.isAgg4
  z4 := Tryz.sizeOf4
  v4 := Tryz.zeroValue4
  t23 := Tryz.underlying55
  a23 := Tryz.isAgg55
  z23 := Tryz.sizeOf55
  v23 := Tryz.zeroValue55
  t26 := Tryz.underlying9
  a26 := Tryz.isAgg9
  z26 := Tryz.sizeOf9
  v26 := Tryz.zeroValue9
  t27 := Tryz.underlying132
  a27 := Tryz.isAgg132
  z27 := Tryz.sizeOf132
  v27 := Tryz.zeroValue132
  t28 := Tryz.underlying133
  a28 := Tryz.isAgg133
  z28 := Tryz.sizeOf133
  v28 := Tryz.zeroValue133
  t33 := Tryz.underlying90
  a33 := Tryz.isAgg90
  z33 := Tryz.sizeOf90
  v33 := Tryz.zeroValue90 }
def Tryz.sorted86_ren : Go.Shelf.Ren := ⟨fun | 6 => 86 | 8 => 106 | 9 => 107 | 11 => 120 | 13 => 122 | 12 => 121 | 23 => 142 | 24 => 143 | 14 => 133 | 15 => 134 | 16 => 135 | 17 => 136 | 18 => 137 | 19 => 138 | 20 => 139 | 21 => 140 | 22 => 141 | 25 => 150 | 26 => 151 | 27 => 152 | 28 => 153 | 29 => 154 | 30 => 155 | 31 => 158 | n => n, fun | 26 => 9 | 28 => 133 | 24 => 42 | 0 => 0 | 3 => 3 | 37 => 139 | 48 => 108 | 50 => 172 | 4 => 4 | 40 => 182 | 39 => 181 | 45 => 104 | 5 => 5 | 9 => 9 | 51 => 192 | 55 => 196 | 57 => 198 | 58 => 199 | 33 => 90 | n => n, fun | n => n⟩
theorem Tryz.sorted86 : Go.Proofs.SlLaysZ.n6 Tryz.prog Tryz.sorted86_ren := {
  mixed := by kernel_rfl
  f6 := ⟨Tryz.f86.name, by decide, Tryz.func86.trans (congrArg some (by kernel_rfl))⟩
  f8 := ⟨Tryz.f106.name, by decide, Tryz.func106.trans (congrArg some (by kernel_rfl))⟩
  f11 := ⟨Tryz.f120.name, by decide, Tryz.func120.trans (congrArg some (by kernel_rfl))⟩
  t0 := Tryz.underlying0
  a0 := Tryz.isAgg0
  z0 := Tryz.sizeOf0
  v0 := Tryz.zeroValue0
  t24 := Tryz.underlying42
  a24 := Tryz.isAgg42
  z24 := Tryz.sizeOf42
  v24 := Tryz.zeroValue42
  t26 := Tryz.underlying9
  a26 := Tryz.isAgg9
  z26 := Tryz.sizeOf9
  v26 := Tryz.zeroValue9
  t28 := Tryz.underlying133
  a28 := Tryz.isAgg133
  z28 := Tryz.sizeOf133
  v28 := Tryz.zeroValue133
  i26 := by kernel_rfl }
def Tryz.sort107_ren : Go.Shelf.Ren := ⟨fun | 6 => 107 | 8 => 122 | 9 => 121 | 19 => 142 | 20 => 143 | 21 => 133 | 22 => 134 | 23 => 135 | 24 => 136 | 25 => 137 | 26 => 138 | 27 => 139 | 28 => 140 | 29 => 141 | 36 => 150 | 31 => 151 | 32 => 152 | 37 => 153 | 38 => 154 | 39 => 155 | 41 => 158 | n => n, fun | 27 => 42 | 29 => 9 | 3 => 3 | 32 => 139 | 26 => 42 | 0 => 0 | 44 => 108 | 46 => 172 | 4 => 4 | 36 => 182 | 35 => 181 | 41 => 104 | 5 => 5 | 9 => 9 | 53 => 192 | 57 => 196 | 63 => 198 | 64 => 199 | n => n, fun | n => n⟩
theorem Tryz.sort107 : Go.Proofs.SlLaysM.n6 Tryz.prog Tryz.sort107_ren := {
  mixed := by kernel_rfl
  f6 := ⟨Tryz.f107.name, by decide, Tryz.func107.trans (congrArg some (by kernel_rfl))⟩
  f8 := Tryz.func122.trans (congrArg some (by kernel_rfl))
  f9 := ⟨Tryz.f121.name, by decide, Tryz.func121.trans (congrArg some (by kernel_rfl))⟩
  f19 := Tryz.func142.trans (congrArg some (by kernel_rfl))
  f20 := Tryz.func143.trans (congrArg some (by kernel_rfl))
  f21 := ⟨Tryz.f133.name, by decide, Tryz.func133.trans (congrArg some (by kernel_rfl))⟩
  f22 := ⟨Tryz.f134.name, by decide, Tryz.func134.trans (congrArg some (by kernel_rfl))⟩
  f23 := ⟨Tryz.f135.name, by decide, Tryz.func135.trans (congrArg some (by kernel_rfl))⟩
  f24 := ⟨Tryz.f136.name, by decide, Tryz.func136.trans (congrArg some (by kernel_rfl))⟩
  f25 := ⟨Tryz.f137.name, by decide, Tryz.func137.trans (congrArg some (by kernel_rfl))⟩
  f26 := ⟨Tryz.f138.name, by decide, Tryz.func138.trans (congrArg some (by kernel_rfl))⟩
  f27 := ⟨Tryz.f139.name, by decide, Tryz.func139.trans (congrArg some (by kernel_rfl))⟩
  f28 := ⟨Tryz.f140.name, by decide, Tryz.func140.trans (congrArg some (by kernel_rfl))⟩
  f29 := ⟨Tryz.f141.name, by decide, Tryz.func141.trans (congrArg some (by kernel_rfl))⟩
  f31 := Tryz.func151.trans (congrArg some (by kernel_rfl))
  f32 := Tryz.func152.trans (congrArg some (by kernel_rfl))
  f36 := ⟨Tryz.f150.name, by decide, Tryz.func150.trans (congrArg some (by kernel_rfl))⟩
  f37 := ⟨Tryz.f153.name, by decide, Tryz.func153.trans (congrArg some (by kernel_rfl))⟩
  f38 := ⟨Tryz.f154.name, by decide, Tryz.func154.trans (congrArg some (by kernel_rfl))⟩
  f39 := ⟨Tryz.f155.name, by decide, Tryz.func155.trans (congrArg some (by kernel_rfl))⟩
  f41 := ⟨Tryz.f158.name, by decide, Tryz.func158.trans (congrArg some (by kernel_rfl))⟩
  t0 := Tryz.underlying0
  a0 := Tryz.isAgg0
  z0 := Tryz.sizeOf0
  v0 := Tryz.zeroValue0
  t3 := Tryz.underlying3
  a3 := Tryz.isAgg3
  z3 := Tryz.sizeOf3
  v3 := Tryz.zeroValue3
  t4 := Tryz.underlying4
  a4 := Tryz.isAgg4
  z4 := Tryz.sizeOf4
  v4 := Tryz.zeroValue4
  t5 := Tryz.underlying5
  a5 := Tryz.isAgg5
  z5 := Tryz.sizeOf5
  v5 := Tryz.zeroValue5
  t9 := Tryz.underlying9
  a9 := Tryz.isAgg9
  z9 := Tryz.sizeOf9
  v9 := Tryz.zeroValue9
  t26 := Tryz.underlying42
  a26 := Tryz.isAgg42
  z26 := Tryz.sizeOf42
  v26 := Tryz.zeroValue42
  t27 := Tryz.underlying42
  a27 := Tryz.isAgg42
  z27 := Tryz.sizeOf42
  v27 := Tryz.zeroValue42
  t29 := Tryz.underlying9
  a29 := Tryz.isAgg9
  z29 := Tryz.sizeOf9
  v29 := Tryz.zeroValue9
  t32 := Tryz.underlying139
  a32 := Tryz.isAgg139
  z32 := Tryz.sizeOf139
  v32 := Tryz.zeroValue139
  t35 := Tryz.underlying181
  a35 := Tryz.isAgg181
  z35 := Tryz.sizeOf181
  v35 := Tryz.zeroValue181
  t36 := Tryz.underlying182
  a36 := Tryz.isAgg182
  z36 := Tryz.sizeOf182
  v36 := Tryz.zeroValue182
  t41 := Tryz.underlying104
  a41 := Tryz.isAgg104
  z41 := Tryz.sizeOf104
  v41 := Tryz.zeroValue104
  t44 := Tryz.underlying108
  a44 := Tryz.isAgg108
  z44 := Tryz.sizeOf108
  v44 := Tryz.zeroValue108
  t46 := Tryz.underlying172
  a46 := Tryz.isAgg172
  z46 := Tryz.sizeOf172
  v46 := Tryz.zeroValue172
  t53 := Tryz.underlying192
  a53 := Tryz.isAgg192
  z53 := Tryz.sizeOf192
  v53 := Tryz.zeroValue192
  t57 := Tryz.underlying196
  a57 := Tryz.isAgg196
  z57 := Tryz.sizeOf196
  v57 := Tryz.zeroValue196
  t63 := Tryz.underlying198
  a63 := Tryz.isAgg198
  z63 := Tryz.sizeOf198
  v63 := Tryz.zeroValue198
  t64 := Tryz.underlying199
  a64 := Tryz.isAgg199
  z64 := Tryz.sizeOf199
  v64 := Tryz.zeroValue199 }
open Go.RowKit Go.Maps Go.Sort Go.Shelf
theorem Tryz.sorts86 (m : Nat) : AnyZ.SortsIn Tryz.prog Tryz.sorted86_ren Fence.wide m :=
  ⟨fun blk off cap ss W hH hblk hsz => callsIn_wide.2 (AnyM.slices_Sort_string Tryz.sort107 blk off cap ss W hH hblk hsz),
   fun p cap W => callsIn_wide.2 (AnyM.slices_Sort_string_none Tryz.sort107 p cap W)⟩

theorem Tryz.maps_Keys_87 (mb : Option Nat) (W : World) : CallsIn Fence.wide 5 Tryz.prog 87 #[.map mb] W fun e w' => e = .returned (.func (.func 108) #[] #[.pointer (some ⟨W.heap.size, 0, none⟩)]) ∧ w' = W.alloc (.cells #[.map mb] 55) :=
  AnyZ.keys_in Tryz.keys87 Fence.wide 5 trivial rfl mb W

set_option maxHeartbeats 1000000 in
theorem Tryz.slices_Sorted_keys_86_87 {H : Type} (b nn : Nat) (D0 : DataW H) (R : Value → Option (DataW H × List MemPlace)) (w : World) (hown : w.ownsMap Tryz.prog 9 R b nn D0) (hmax : Maps.size D0 ≤ maxLen) (hbytes : Maps.size D0 * 16 ≤ 140737488355328) :
    CallsIn Fence.wide 5 Tryz.prog 86 #[.func (.func 108) #[] #[.pointer (some ⟨w.heap.size, 0, none⟩)]] (w.alloc (.cells #[.map (some b)] 55)) fun e w' => ∃ (v : Value) (ss : List (List UInt8)), e = .returned v ∧ ss.Perm (strKeys D0) ∧
      w'.ownsRow (w.alloc (.cells #[.map (some b)] 55)).heap.size 9 1 v ss.length ((ss.mergeSort (fun x y => decide (x ≤ y))).map encStr) ∧ (v = .slice none 0 0 ↔ ss = []) ∧ Below (w.alloc (.cells #[.map (some b)] 55)).heap.size (w.alloc (.cells #[.map (some b)] 55)) w' := by
  have hbl := hown.lt
  have hseq : SeqGives Fence.wide 2 Tryz.prog 108 #[.pointer (some ⟨w.heap.size, 0, none⟩)] encStr (fun ss => ss.Perm (strKeys D0)) (Maps.size D0) (w.alloc (.cells #[.map (some b)] 55)) :=
    AnyZ.keys_gives (ρ := Tryz.keys87_ren) { Tryz.keys87 with } Fence.wide _ trivial rfl (by omega) w.heap.size b nn D0 _ (by simp) (by simp) (by
      obtain ⟨es, clock, hb, Ft, hs, hD⟩ := hown
      exact ⟨es, clock, (Below.heap_alloc _ _ b hbl).trans hb, Ft, hs, hD⟩)
  exact AnyZ.sorted_in Tryz.sorted86 Fence.wide 5 trivial trivial trivial trivial rfl (by omega) (Tryz.sorts86 _) (enters_of Tryz.func107 (by kernel_rfl) rfl) 108 #[.pointer (some ⟨w.heap.size, 0, none⟩)] trivial (enters_of Tryz.func108 (by kernel_rfl) rfl) _ _ hmax hbytes _ hseq

set_option maxHeartbeats 1000000 in
theorem Tryz.slices_Sorted_keys_nil_86_87 (w : World) :
    CallsIn Fence.wide 5 Tryz.prog 86 #[.func (.func 108) #[] #[.pointer (some ⟨w.heap.size, 0, none⟩)]] (w.alloc (.cells #[.map none] 55)) fun e w' => ∃ (v : Value) (ss : List (List UInt8)), e = .returned v ∧ ss = [] ∧
      w'.ownsRow (w.alloc (.cells #[.map none] 55)).heap.size 9 1 v ss.length ((ss.mergeSort (fun x y => decide (x ≤ y))).map encStr) ∧ (v = .slice none 0 0 ↔ ss = []) ∧ Below (w.alloc (.cells #[.map none] 55)).heap.size (w.alloc (.cells #[.map none] 55)) w' := by
  have hseq : SeqGives Fence.wide 2 Tryz.prog 108 #[.pointer (some ⟨w.heap.size, 0, none⟩)] encStr (fun ss : List (List UInt8) => ss = []) 0 (w.alloc (.cells #[.map none] 55)) :=
    AnyZ.keys_gives_nil (ρ := Tryz.keys87_ren) { Tryz.keys87 with } Fence.wide _ trivial rfl w.heap.size _ (by simp) (by simp)
  exact AnyZ.sorted_in Tryz.sorted86 Fence.wide 5 trivial trivial trivial trivial rfl (by omega) (Tryz.sorts86 _) (enters_of Tryz.func107 (by kernel_rfl) rfl) 108 #[.pointer (some ⟨w.heap.size, 0, none⟩)] trivial (enters_of Tryz.func108 (by kernel_rfl) rfl) _ 0 (Nat.zero_le _) (by omega) _ hseq



end Go.Proofs
namespace Go.Proofs.YtdmckgcbmbhmmaaGreatDoor
open Go.RowKit Go.Maps Go.Sort Go.Shelf

theorem le_tr (x y z : List UInt8) : decide (x ≤ y) = true → decide (y ≤ z) = true → decide (x ≤ z) = true := fun h1 h2 => by
  rw [decide_eq_true_eq] at *
  exact List.le_trans h1 h2
theorem le_to (x y : List UInt8) : (decide (x ≤ y) || decide (y ≤ x)) = true := by
  rw [Bool.or_eq_true, decide_eq_true_eq, decide_eq_true_eq]
  exact List.le_total x y
theorem sort_unique {a b : List (List UInt8)} (h : a.Perm b) : a.mergeSort (fun x y => decide (x ≤ y)) = b.mergeSort (fun x y => decide (x ≤ y)) := by
  have p := ((List.mergeSort_perm a (fun x y => decide (x ≤ y))).trans h).trans (List.mergeSort_perm b (fun x y => decide (x ≤ y))).symm
  refine p.eq_of_pairwise (le := fun x y => decide (x ≤ y) = true) (fun x y _ _ h1 h2 => ?_) (List.pairwise_mergeSort le_tr le_to a) (List.pairwise_mergeSort le_tr le_to b)
  rw [decide_eq_true_eq] at h1 h2
  exact List.le_antisymm h1 h2
/-- Files' names, rising. -/
def nmL (fs : Fs) : List ByteArray := ((fs.map fun p => p.1.data.toList).mergeSort (fun x y => decide (x ≤ y))).map fun l => ⟨l.toArray⟩
theorem nmL_perm {a b : Fs} (h : a.Perm b) : nmL a = nmL b := by
  unfold nmL
  rw [sort_unique (h.map _)]
theorem nmL_len (fs : Fs) : (nmL fs).length = fs.length := by
  unfold nmL
  rw [List.length_map, (List.mergeSort_perm _ _).length_eq, List.length_map]
theorem nmL_mem {fs : Fs} {s : ByteArray} (h : s ∈ nmL fs) : ∃ d, (s, d) ∈ fs := by
  unfold nmL at h
  obtain ⟨x, hx, rfl⟩ := List.mem_map.1 h
  obtain ⟨q, hq, rfl⟩ := List.mem_map.1 ((List.mergeSort_perm _ _).mem_iff.1 hx)
  refine ⟨q.2, ?_⟩
  have : (⟨q.1.data.toList.toArray⟩ : ByteArray) = q.1 := by apply ByteArray.ext; simp
  rw [this]
  exact hq
def R0 : Value → Option (DataW Unit × List MemPlace) := fun _ => some (.nil, [])
set_option maxRecDepth 100000 in
theorem MapIs.owns {w : World} {b : Nat} {l : List Ent} {clock : Nat} (h : MapIs w b l clock) (hn : ∀ x ∈ l, x.nm.size ≤ maxLen) (hl : l.length ≤ maxLen) :
    ∃ D : DataW Unit, w.ownsMap Tryz.prog 9 R0 b l.length D ∧ Maps.size D = l.length ∧ (strKeys D).Perm (l.map fun x => x.nm.data.toList) := by
  have hrd : ∀ x ∈ l, WideElems.rd Tryz.prog 9 R0 x.entry = some (.string x.nm.data.toList, .nil) := fun x hx => WideElems.rd_mk (WideMaps.keyOf_string_mk Tryz.underlying9 (hn x hx)) (R := R0) (val := x.v) (yv := (.nil, [])) (born := x.born) rfl
  have hrg : (l.map Ent.entry).map (WideElems.rg Tryz.prog 9 R0) = l.map fun x => ((.string x.nm.data.toList : Lit), (.nil : DataW Unit)) := by
    rw [List.map_map]
    refine List.map_congr_left (fun x hx => ?_)
    show WideElems.rg Tryz.prog 9 R0 x.entry = _
    exact WideElems.rg_of (hrd x hx)
  refine ⟨.map (((l.map Ent.entry).map (WideElems.rg Tryz.prog 9 R0)).foldr DataW.insert []), ⟨(l.map Ent.entry).toArray, clock, h.here, ⟨by simpa using hl, ⟨?_, ?_, ?_⟩, ?_⟩, by simp, by simp⟩, ?_, ?_⟩
  · intro x hx
    obtain ⟨y, hy, rfl⟩ := List.mem_map.1 (by simpa using hx)
    exact h.old y hy
  · simpa [List.map_map, Function.comp_def, Ent.entry] using h.born
  · have e : ((l.map Ent.entry).toArray.toList.map (·.key)) = (l.map Ent.nm).map Value.string := by simp [List.map_map, Function.comp_def, Ent.entry]
    rw [e]
    exact List.Pairwise.map _ (fun a c hac e => hac (by injection e)) h.nm
  · intro x hx
    obtain ⟨y, hy, rfl⟩ := List.mem_map.1 (by simpa using hx)
    exact ⟨_, hrd y hy⟩
  · show (List.foldr DataW.insert [] _).length = _
    rw [length_sorted]; simp
  · show ((List.foldr DataW.insert [] _).map fun p => strOf p.1).Perm _
    refine ((WideShapes.sorted_perm _).map _).trans ?_
    rw [hrg, List.map_map]
    exact List.Perm.of_eq rfl
/-- Texts lie in a row of their own. -/
def TxRow (w : World) (v : Value) (ts : List ByteArray) : Prop := w.ownsRow 0 9 1 v ts.length (ts.map Value.string)
theorem TxRow.kp {F : List Nat} {w w' : World} {v : Value} {l : List ByteArray} (h : TxRow w v l) (hk : Kp F w w') (hF : ∀ k, v.ownBlock = some k → k ∉ F) : TxRow w' v l := by
  obtain ⟨h1, h2 | ⟨g, cp, cur, rfl, hb, hh, r⟩⟩ := h
  · exact ⟨h1, Or.inl h2⟩
  · exact ⟨h1, Or.inr ⟨g, cp, cur, rfl, hb, (hk.block g (Array.getElem?_eq_some_iff.1 hh).1 (hF g rfl)).trans hh, r⟩⟩
theorem TxRow.cell {w : World} {g cap : Nat} {ts : List ByteArray} (h : TxRow w (.slice (some ⟨g, 0, none⟩) ts.length cap) ts) (i : Nat) (hi : i < ts.length) : w.cell? ⟨g, i, none⟩ = some (.string ts[i]) := by
  rw [World.ownsRow.cellAt h i (by omega)]
  simp [hi]
theorem setCell_self {w : World} {g i : Nat} {cur : Array Value} {t : TypeId} {f : Nat × Nat} {v : Value} (hb : w.heap[g]? = some (.cells cur t f)) (hc : cur[i]? = some v) : w.setCell ⟨g, i, none⟩ v = w := by
  have e : (w.setCell ⟨g, i, none⟩ v).heap = w.heap := by
    apply Array.ext_getElem?
    intro k
    by_cases hk : k = g
    · subst hk
      rw [hb]
      unfold World.setCell
      simp only [Array.getElem?_modify, if_true, hb, Option.map_some]
      have : cur.setIfInBounds i v = cur := by
        apply Array.ext_getElem?
        intro j
        rw [Array.getElem?_setIfInBounds]
        split
        · rename_i hij; subst hij
          split
          · exact hc.symm
          · rename_i hlt; rw [Array.getElem?_eq_none (by omega)]
        · rfl
      simp [this]
    · exact Below.heap_setCell _ _ _ _ hk
  cases w
  simp only [World.setCell] at e ⊢
  rw [e]
set_option maxHeartbeats 4000000 in
set_option maxRecDepth 100000 in
theorem names_files (b : Nat) (fs : Fs) (L : List Nat) (w : World) (h : FilesAt w b fs L) (hr : Room fs) :
    Calls Tryz.prog 55 #[.map (some b)] w fun e w' => ∃ v, e = .returned v ∧ TxRow w' v (nmL fs) ∧ Kp [] w w' ∧ ∀ k, v.ownBlock = some k → w.heap.size ≤ k := by
  obtain ⟨l, clock, hm, _, hp, rfl, hn⟩ := h
  have hnm : ∀ x ∈ l, x.nm.size ≤ 32 := fun x hx => dnm_len (hr.2 x.p (hp.mem_iff.1 (List.mem_map.2 ⟨x, hx, rfl⟩)))
  have hlen : l.length ≤ 64 := by have := hp.length_eq; rw [List.length_map] at this; rw [this]; exact hr.1.2
  obtain ⟨D, hown, hsz, hpk⟩ := hm.owns (fun x hx => by have := hnm x hx; unfold maxLen; omega) (by unfold maxLen; omega)
  have hkeys : ∀ ss : List (List UInt8), ss.Perm (strKeys D) → (ss.mergeSort (fun x y => decide (x ≤ y))).map encStr = (nmL fs).map Value.string ∧ ss.length = (nmL fs).length := fun ss hs => by
    have hpp : ss.Perm (fs.map fun p => p.1.data.toList) := (hs.trans hpk).trans (by
      have := hp.map fun p : ByteArray × List UInt8 => p.1.data.toList
      rw [List.map_map] at this
      exact this)
    refine ⟨?_, by rw [nmL_len, hpp.length_eq, List.length_map]⟩
    unfold nmL
    rw [sort_unique hpp, List.map_map]; rfl
  have hnl : ∀ s ∈ nmL fs, s.size ≤ 32 := fun s hs => by
    obtain ⟨d, hd⟩ := nmL_mem hs
    exact dnm_len (hr.2 _ hd)
  have cK := fun W => callsIn_wide.1 (Tryz.maps_Keys_87 (some b) W)
  have cS := callsIn_wide.1 (Tryz.slices_Sorted_keys_86_87 b l.length D R0 w hown (by rw [hsz]; unfold maxLen; omega) (by rw [hsz]; omega))
  have hk0 := Kp.alloc w (.cells #[.map (some b)] 55)
  have hl64 : (nmL fs).length ≤ 64 := by rw [nmL_len]; exact hr.1.2
  generalize nmL fs = NS at *
  have CK := hide cK
  have CS := hide cS
  have HKY := hide hkeys
  have HNL := hide hnl
  have HK0 := hide hk0
  clear cK cS hkeys hnl hown hsz hpk hm hp hn hnm hr hk0
  go_enter Tryz.func55, Tryz.ntmps55
  go_wp2_with fail
  refine (unhide CK w).mono ?_
  rintro e w1 ⟨rfl, rfl⟩
  go_wp2_with fail
  refine (unhide CS).mono ?_
  rintro e w2 ⟨v, ss, rfl, hS, hrow, hnil, hb2⟩
  obtain ⟨q1, q2⟩ := unhide HKY ss hS
  rw [q1, q2] at hrow
  have hkk : Kp [] w w2 := (unhide HK0).trans (Kp.ofBelow hb2) (by simp)
  have hvb : ∀ k, v.ownBlock = some k → w.heap.size ≤ k := fun k hk => by
    have := (World.ownsRow.lt hrow k hk).1
    simp at this
    omega
  have htx : TxRow w2 v NS := by
    obtain ⟨x1, x2 | ⟨g, cp, cur, rfl, hb, r⟩⟩ := hrow
    · exact ⟨x1, Or.inl x2⟩
    · exact ⟨x1, Or.inr ⟨g, cp, cur, rfl, Nat.zero_le _, r⟩⟩
  have HVB := hide hvb
  have HTX := hide htx
  clear hS hrow hnil hb2 q1 q2 hvb
  obtain ⟨_, ⟨rfl, h0⟩ | ⟨g, cap, cur, rfl, _, hh, hnc, hcm, hcs, htk⟩⟩ := htx
  · obtain rfl : NS = [] := List.eq_nil_of_length_eq_zero h0
    go_wp2
    go_loopw [11, 4, 5] (fun i _ _ wr => i = .int .i64 0 ∧ wr = w2) (fun _ _ _ _ => 0)
    case atStart => exact ⟨rfl, rfl⟩
    case round =>
      obtain ⟨rfl, rfl⟩ := hrel
      go_wp2
      go_ret
      exact ⟨_, rfl, unhide HTX, hkk, unhide HVB⟩
  · unfold maxLen at hcm
    clear hh hcs htk
    go_wp2
    go_loopw [11, 4, 5] (fun i _ _ wr => ∃ k : Nat, k ≤ NS.length ∧ i = .int .i64 (k : Int) ∧ Hid (TxRow wr (.slice (some ⟨g, 0, none⟩) NS.length cap) NS) ∧ Kp [] w wr) (fun i _ _ _ => NS.length - (intOf i).toNat)
    case atStart => exact ⟨0, by omega, rfl, HTX, hkk⟩
    case round =>
      clear hkk
      obtain ⟨k, hk, rfl, HT, hkk⟩ := hrel
      by_cases hlt : k < NS.length
      · have hli : (k : Int) < (NS.length : Int) := by omega
        have c1 := (unhide HT).cell k hlt
        have cl := fun W => clone_any NS[k] W (by have := unhide HNL NS[k] (List.getElem_mem hlt); omega)
        have hself : ∀ W, TxRow W (.slice (some ⟨g, 0, none⟩) NS.length cap) NS → W.setCell ⟨g, k, none⟩ (.string NS[k]) = W ∧ W.frozen? ⟨g, k, none⟩ = false ∧ W.cell? ⟨g, k, none⟩ = some (.string NS[k]) := fun W hT => by
          have hc := hT.cell k hlt
          obtain ⟨_, ⟨e, _⟩ | ⟨g2, cp2, cur2, e, _, hb2, r2⟩⟩ := hT
          · cases e
          · simp only [Value.slice.injEq, Option.some.injEq, Addr.mk.injEq, and_true, true_and] at e
            obtain ⟨rfl, rfl⟩ := e
            have hcc : cur2[k]? = some (.string NS[k]) := by simpa [World.cell?, hb2] using hc
            exact ⟨setCell_self hb2 hcc, by simp [World.frozen?, hb2], hc⟩
        have CL := hide cl
        have HSF := hide hself
        clear cl hself
        generalize NS[k] = s at *
        go_wp2_with fail
        refine (unhide CL wr).mono ?_
        rintro e w3 ⟨rfl, hb3⟩
        have hT3 := (unhide HT).kp (Kp.ofBelow hb3) (by simp)
        obtain ⟨e3, f3, c3⟩ := unhide HSF w3 hT3
        have hk3 := hkk.trans (Kp.ofBelow hb3) (by simp)
        have HT3 := hide hT3
        have HE3 := hide e3
        clear c1 hb3 hT3 HT hkk e3
        go_wp2
        go_roundw
        case rel =>
          rw [unhide HE3]
          exact ⟨k + 1, by omega, by go_num, HT3, hk3⟩
        case measure => simp [intOf]; omega
      · go_wp2
        go_ret
        exact ⟨_, rfl, unhide HT, hkk, unhide HVB⟩
end Go.Proofs.YtdmckgcbmbhmmaaGreatDoor
