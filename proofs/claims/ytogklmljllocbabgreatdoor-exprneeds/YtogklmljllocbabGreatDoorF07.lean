/-
  Rows of bytes of the call's own; such a row as a string; strings.Clone returns the same bytes.
  Plain facts on worlds: what stays but for some blocks, a block of cells, append to a row of the call's own and where the new row lies. Of no program.
  The table of bytes; setOf, span and upTo.
  The words of fields; letters and digits; which stages' names and fields' kinds there are.
-/
import Derived.Test.YtogklmljllocbabGreatDoorChecked
import Derived.Test.YtogklmljllocbabGreatDoorF01
import Derived.Test.YtogklmljllocbabGreatDoorF06
import Derived.WalkLawsBesides
import Derived.Laws.DeepNot64
import Derived.SliceStrings
import Derived.Deep.AppendLies
import Derived.Test.YtogklmljllocbabGreatDoorF02
import Derived.Lib.LaidTab
import Derived.Lib.ItoaNum
import Derived.Test.YtogklmljllocbabGreatDoorF05
namespace Go.Proofs.YtogklmljllocbabGreatDoor
open Go.RowKit

theorem info_u8 : (Tryz.prog.info? 5).map (fun i => (i.zero, i.size, i.bytes)) = some (some (.int .u8 0), 1, 1) := by kernel_rfl
/-- A row of bytes of the call's own. -/
def Owns (B : Nat) (w : World) (v : Value) (l : List UInt8) : Prop := w.ownsRow B 5 1 v l.length (byteC l)
theorem Owns.nil (B : Nat) (w : World) : Owns B w (.slice none 0 0) [] := World.ownsRow_nil _ _ _ _
theorem Owns.alloc {B : Nat} {w : World} {v : Value} {l : List UInt8} (h : Owns B w v l) (o : Obj) : Owns B (w.alloc o) v l := World.ownsRow.alloc h o
theorem Owns.drew {B : Nat} {w : World} {v : Value} {l : List UInt8} (h : Owns B w v l) : Owns B w.drew v l := h
theorem Owns.form {B : Nat} {w : World} {v : Value} {l : List UInt8} (h : Owns B w v l) : ∃ ad cp, v = .slice ad l.length cp := by
  obtain ⟨_, ⟨rfl, h0⟩ | ⟨g, cp, cur, rfl, _⟩⟩ := h
  · exact ⟨_, _, by rw [h0]⟩
  · exact ⟨_, _, rfl⟩
theorem strOf_bytes (l : List UInt8) : strOfNums (l.map fun b => (b.toNat : Int)) = ⟨l.toArray⟩ := by
  unfold strOfNums; congr 1; simp [List.map_map, Function.comp_def]
/-- The row's bytes as a string. -/
theorem Owns.string {B : Nat} {w : World} {v : Value} {l : List UInt8} (h : Owns B w v l) : (convert 173 9 v).run Tryz.prog w = .ok (.string ⟨l.toArray⟩) w := by
  obtain ⟨hl, ⟨rfl, h0⟩ | ⟨g, cp, cur, rfl, hb, hh, r⟩⟩ := id h
  · obtain rfl : l = [] := List.eq_nil_of_length_eq_zero h0
    exact run_convert_bytes_nil w 173 5 Tryz.underlying173 Tryz.underlying5 0 0 9 Tryz.underlying9
  · have := run_convert_bytes_arg (P := Tryz.prog) w 173 5 Tryz.underlying173 Tryz.underlying5 g 0 l.length cp (l.map fun b => (b.toNat : Int)) (by simp) (fun i hi => by
      rw [Nat.zero_add]
      have c := World.ownsRow.cellAt h i (by omega)
      rw [c]
      unfold byteC
      simp [List.getElem?_eq_getElem hi, List.getD]) 9 Tryz.underlying9
    rw [strOf_bytes] at this
    exact this
theorem drop_get (b : ByteArray) (i : Nat) (h : i < b.size) : b.data.toList.drop i = b[i] :: b.data.toList.drop (i + 1) := by
  rw [List.drop_eq_getElem_cons (by simpa using h)]; rfl
theorem take_snoc (s : ByteArray) (k : Nat) (h : k < s.size) : s.data.toList.take (k + 1) = s.data.toList.take k ++ [s[k]] := by
  rw [List.take_succ_eq_append_getElem (by simpa using h)]; rfl
set_option maxHeartbeats 400000 in
theorem clone_any (b : ByteArray) (w : World) (hb : b.size ≤ 281474976710656) :
    Calls Tryz.prog 25 #[.string b] w fun e w' => e = .returned (.string b) ∧ Below w.heap.size w w' := by
  go_enter Tryz.func25, Tryz.ntmps25
  go_wp2_with fail
  refine (Tryz.stringslite_Clone b _ hb).mono ?_
  rintro e w' ⟨rfl, h⟩
  go_wp2
  go_ret
  exact ⟨rfl, h⟩
end Go.Proofs.YtogklmljllocbabGreatDoor
namespace Go.Proofs.YtogklmljllocbabGreatDoor
open Go.RowKit

/-- What stays: all blocks but some. -/
structure Kp (F : List Nat) (w w' : World) : Prop where
  os : w'.os = w.os
  tape : w'.tape = w.tape
  output : w'.output = w.output
  size : w.heap.size ≤ w'.heap.size
  block : ∀ k, k < w.heap.size → k ∉ F → w'.heap[k]? = w.heap[k]?
theorem Kp.refl (F : List Nat) (w : World) : Kp F w w := ⟨rfl, rfl, rfl, Nat.le_refl _, fun _ _ _ => rfl⟩
theorem Kp.trans {F G : List Nat} {a b c : World} (h : Kp F a b) (k : Kp G b c) (hG : ∀ x ∈ G, x ∈ F ∨ a.heap.size ≤ x) : Kp F a c :=
  ⟨k.os.trans h.os, k.tape.trans h.tape, k.output.trans h.output, Nat.le_trans h.size k.size, fun i hi hn =>
    (k.block i (Nat.lt_of_lt_of_le hi h.size) (fun hm => (hG i hm).elim hn (fun h1 => by omega))).trans (h.block i hi hn)⟩
theorem Kp.mono {F G : List Nat} {a b : World} (h : Kp F a b) (hG : ∀ x ∈ F, x ∈ G) : Kp G a b := ⟨h.os, h.tape, h.output, h.size, fun i hi hn => h.block i hi (fun hm => hn (hG i hm))⟩
theorem Kp.of {w w' : World} {row : Option Nat} (h : w.grownBy w' row) : Kp row.toList w w' := ⟨h.os, h.tape, h.output, h.size, fun i hi hn => h.block i hi (fun e => hn (by rw [← e]; simp))⟩
theorem Kp.alloc (w : World) (o : Obj) : Kp [] w (w.alloc o) := Kp.of (World.grownBy_alloc w o none)
theorem Kp.drew (w : World) : Kp [] w w.drew := ⟨rfl, rfl, rfl, Nat.le_refl _, fun _ _ _ => rfl⟩
theorem Kp.below {F : List Nat} {B : Nat} {w w' : World} (h : Kp F w w') (hB : B ≤ w.heap.size) (hF : ∀ k ∈ F, B ≤ k) : Below B w w' :=
  ⟨h.os, h.tape, h.output, h.size, fun k hk => h.block k (by omega) (fun hm => by have := hF k hm; omega)⟩
theorem Kp.ofBelow {w w' : World} (h : Below w.heap.size w w') : Kp [] w w' := ⟨h.os, h.tape, h.output, h.size, fun k hk _ => h.block k hk⟩
theorem Kp.cell {F : List Nat} {w w' : World} (h : Kp F w w') {p : Addr} {v : Value} (hc : w.cell? p = some v) (hp : p.block ∉ F) : w'.cell? p = some v :=
  (World.cell?_of_block (h.block p.block (World.block_lt_of_cell? w p hc) hp)).trans hc
/-- The box of a change lies there. -/
def CBox (g : Nat) (cs : Array Value) (t : TypeId) (w : World) : Prop := w.heap[g]? = some (.cells cs t (0, 0))
theorem CBox.cell {g : Nat} {cs : Array Value} {t : TypeId} {w : World} (h : CBox g cs t w) {i : Nat} {v : Value} (hv : cs[i]? = some v) : w.cell? ⟨g, i, none⟩ = some v := by
  unfold CBox at h
  simp [World.cell?, h, hv]
theorem CBox.kp {g : Nat} {cs : Array Value} {t : TypeId} {w w' : World} {F : List Nat} (h : CBox g cs t w) (hk : Kp F w w') (hF : g ∉ F) : CBox g cs t w' := (hk.block g (Array.getElem?_eq_some_iff.1 h).1 hF).trans h
theorem CBox.new (w : World) (cs : Array Value) (t : TypeId) : CBox w.heap.size cs t (w.alloc (.cells cs t)) := heap_alloc_new w _
theorem CBox.set {g : Nat} {cs : Array Value} {t : TypeId} {w : World} (h : CBox g cs t w) (i : Nat) (v : Value) : CBox g (cs.setIfInBounds i v) t (w.setCell ⟨g, i, none⟩ v) := by
  unfold CBox at *
  unfold World.setCell
  simp [h, Array.getElem?_modify]
theorem CBox.froz {g : Nat} {cs : Array Value} {t : TypeId} {w : World} (h : CBox g cs t w) (i : Nat) : w.frozen? ⟨g, i, none⟩ = false := by
  unfold CBox at h
  simp [World.frozen?, h]
theorem Kp.set (w : World) (p i : Nat) (v : Value) : Kp [p] w (w.setCell ⟨p, i, none⟩ v) :=
  ⟨rfl, rfl, rfl, by simp [World.setCell], fun k _ hn => Below.heap_setCell _ _ _ _ (by simpa using hn)⟩
theorem Kp.drewQ (w : World) (n : Nat) : Kp [] w (w.drewN n) := ⟨rfl, rfl, rfl, Nat.le_refl _, fun _ _ _ => rfl⟩
/-- append to a row of the call's own, as one step of a statement whose order is drawn; where the new row lies. -/
theorem step_append_lies {P : Program} {ops : Array Oper} {o : Oper} {a : Act} {w : World} {K : Act → World → Prop} {Q : Exit → Act → World → Prop} {E : Prop}
    (hg : o.guard = none) (s x : Operand) (t : TypeId) (hop : o.op = Op.call { callee := Callee.builtin Builtin.append, args := #[s, x], argTypes := #[t, t] })
    (base : Nat) (e : TypeId) (i : TypeInfo) (z : Value) (size bytes : Nat) (h1 : P.underlying t = some (.slice e)) (h2 : P.info? e = some i) (h3 : i.zero = some z) (h4 : i.size = size) (h5 : i.bytes = bytes) (h6 : z.cells.size = size) (h7 : 0 < size)
    (v : Value) (n : Nat) (xs : List Value) (hs : a.eval s = v) (hown : w.ownsRow base e size v n xs)
    (ad : Addr) (m c : Nat) (news : List Value) (hx : a.eval x = .slice (some ad) m c) (hn : news.length = m * size) (hc : ∀ j u, news[j]? = some u → w.cell? (ad.add j) = some u) (h1c : ∀ u ∈ news, u.oneCell' = true) (hm : 0 < m)
    (b1 : n + m ≤ maxLen) (b2 : (n + m) * bytes ≤ 140737488355328) (hb : base ≤ w.heap.size)
    (hK : ∀ g cap w', w'.ownsRow base e size (.slice (some ⟨g, 0, none⟩) (n + m) cap) (n + m) (xs ++ news) → w.grownBy w' v.ownBlock → (v.ownBlock = some g ∨ g = w.heap.size) → K (a.put o.dst (.slice (some ⟨g, 0, none⟩) (n + m) cap)) w') :
    if Region.wanted o (yielded ops a.tmps) = true then Oper.wp P o a w K Q else E := by
  have hw : Region.wanted o (yielded ops a.tmps) = true := by simp [Region.wanted, hg]
  rw [if_pos hw]
  obtain ⟨g, cap, w', hrun, r1, r2, r3, _⟩ := run_append_lies (P := P) (w := w) t o.type base e i z size bytes h1 h2 h3 h4 h5 h6 h7 v n xs hown ad m c news hn hc h1c hm b1 b2 hb _ rfl
  unfold Oper.wp
  simp [execOp, hop, resolve, invoke, builtin, hs, hx, hrun, Result.andThen]
  exact hK g cap w' r1 r2 r3
theorem one_new (w : World) (x : Value) (t : TypeId) : ∀ (j : Nat) (u : Value), [x][j]? = some u → (w.alloc (.cells #[x] t)).cell? ((⟨w.heap.size, 0, none⟩ : Addr).add j) = some u := fun j u hj => by
  match j, hj with
  | 0, hj =>
    simp at hj
    subst hj
    exact (CBox.new w #[x] t).cell rfl
end Go.Proofs.YtogklmljllocbabGreatDoor
namespace Go.Proofs.YtogklmljllocbabGreatDoor
open Go.RowKit

/-- What the table of bytes holds. -/
def tabT : List Nat := [0, 0, 0, 0, 0, 0, 0, 0, 0, 0, 3, 0, 0, 0, 0, 0, 0, 0, 0, 0, 0, 0, 0, 0, 0, 0, 0, 0, 0, 0, 0, 0, 1, 128, 0, 0, 0, 0, 0, 16, 32, 32, 32, 32, 0, 32, 32, 0, 8, 8, 8, 8, 8, 8, 8, 8, 8, 8, 32, 32, 64, 64, 0, 0, 0, 0, 0, 0, 0, 0, 0, 0, 0, 0, 0, 0, 0, 0, 0, 0, 0, 0, 0, 0, 0, 0, 0, 0, 0, 0, 0, 0, 0, 0, 0, 0, 0, 4, 4, 4, 4, 4, 4, 4, 4, 4, 4, 4, 4, 4, 4, 4, 4, 4, 4, 4, 4, 4, 4, 4, 4, 4, 4, 0, 0, 0, 0, 0]
def cls (b : Nat) : Nat := tabT.getD b 0
/-- The package's variables hold what their own texts lay. -/
structure TbW (w : World) : Prop where
  low : 9 ≤ w.heap.size
  sets : ∀ i, i < 128 → w.cell? ⟨1, i, none⟩ = some (.int .u8 (cls i : Int))
  pow : Lib.TabIs Tryz.prog w "internal/strconv.uint64pow10" .u64 Lib.pow10Tab
  rng : ∃ tp p, w.cell? ⟨5, 0, none⟩ = some (.iface tp p)
theorem gPow : Tryz.prog.globalNamed "internal/strconv.uint64pow10" = some 6 := by kernel_rfl
theorem TbW.same {w w' : World} (h : TbW w) (hs : w.heap.size ≤ w'.heap.size) (hb : ∀ k, k < 9 → w'.heap[k]? = w.heap[k]?) : TbW w' := by
  refine ⟨Nat.le_trans h.low hs, fun i hi => ?_, ?_, ?_⟩
  · rw [World.cell?_of_block (hb 1 (by omega))]; exact h.sets i hi
  · have := h.pow
    unfold Lib.TabIs World.var? at this ⊢
    rw [gPow] at this ⊢
    simp only [Option.bind_some] at this ⊢
    rw [hb 6 (by omega)]
    exact this
  · obtain ⟨tp, p, hc⟩ := h.rng
    exact ⟨tp, p, by rw [World.cell?_of_block (hb 5 (by omega))]; exact hc⟩
theorem TbW.below {B : Nat} {w w' : World} (h : TbW w) (hb : Below B w w') (hB : 9 ≤ B) : TbW w' := h.same hb.size fun k hk => hb.block k (by omega)
theorem TbW.kp {w w' : World} {F : List Nat} (h : TbW w) (hk : Kp F w w') (hF : ∀ k ∈ F, 9 ≤ k) : TbW w' := h.same hk.size fun k hk6 => hk.block k (by have := h.low; omega) (fun hm => by have := hF k hm; omega)
theorem TbW.drew {w : World} (h : TbW w) : TbW w.drew := h.same (Nat.le_refl _) fun _ _ => rfl
theorem TbW.alloc {w : World} (h : TbW w) (o : Obj) : TbW (w.alloc o) := h.kp (Kp.alloc w o) (by simp)
theorem cls_fin : ∀ b : Fin 256, (bits .and .u8 (cls b.val : Int) 12 != 0) = isAln (UInt8.ofNat b.val) ∧ (bits .and .u8 (cls b.val : Int) 8 != 0) = isDig (UInt8.ofNat b.val) ∧ (bits .and .u8 (cls b.val : Int) 1 != 0) = isBlk (UInt8.ofNat b.val) ∧ (bits .and .u8 (cls b.val : Int) 18 == 0) = isIn (UInt8.ofNat b.val) := by decide +kernel
theorem cls_aln (b : UInt8) : (bits .and .u8 (cls b.toNat : Int) 12 != 0) = isAln b := by have := (cls_fin ⟨b.toNat, b.toNat_lt⟩).1; simpa using this
theorem cls_dig (b : UInt8) : (bits .and .u8 (cls b.toNat : Int) 8 != 0) = isDig b := by have := (cls_fin ⟨b.toNat, b.toNat_lt⟩).2.1; simpa using this
theorem cls_blk (b : UInt8) : (bits .and .u8 (cls b.toNat : Int) 1 != 0) = isBlk b := by have := (cls_fin ⟨b.toNat, b.toNat_lt⟩).2.2.1; simpa using this
theorem cls_in (b : UInt8) : (bits .and .u8 (cls b.toNat : Int) 18 == 0) = isIn b := by have := (cls_fin ⟨b.toNat, b.toNat_lt⟩).2.2.2; simpa using this
theorem cls_hi (n : Nat) (h : 128 ≤ n) : cls n = 0 := by
  unfold cls
  rw [List.getD_eq_getElem?_getD, List.getElem?_eq_none (by simpa [tabT] using h)]
  rfl
set_option maxRecDepth 100000 in
theorem setOf_any (n : Nat) (hn : n < 256) (w : World) (hT : TbW w) : Calls Tryz.prog 114 #[.int .u8 (n : Int)] w fun e w' => e = .returned (.int .u8 (cls n : Int)) ∧ w' = w := by
  rcases Nat.lt_or_ge n 128 with h | h
  · have c := hT.sets n h
    generalize cls n = C at c ⊢
    clear hT
    go_enter Tryz.func114, Tryz.ntmps114
    go_wp2
    go_ret
    exact ⟨rfl, rfl⟩
  · rw [cls_hi n h]
    clear hT
    go_enter Tryz.func114, Tryz.ntmps114
    go_wp2
    go_ret
    exact ⟨rfl, rfl⟩
theorem list_at (s : ByteArray) (k : Nat) (h : k < s.size) : s.data.toList[k]'(by simpa using h) = s[k] := rfl
set_option maxHeartbeats 1000000 in
theorem span_any (s : ByteArray) (m : Int) (p : UInt8 → Bool) (hp : ∀ b : UInt8, (bits .and .u8 (cls b.toNat : Int) m != 0) = p b) (w : World) (hT : TbW w) (hs : s.size ≤ 9223372036854775807) :
    Calls Tryz.prog 64 #[.string s, .int .u8 m] w fun e w' => e = .returned (.int .i64 (spn p s.data.toList : Nat)) ∧ w' = w := by
  have HP := hide hp
  clear hp
  go_enter Tryz.func64, Tryz.ntmps64
  go_wp2
  go_loop [5] (fun i => ∃ k : Nat, k ≤ s.size ∧ k ≤ spn p s.data.toList ∧ i = .int .i64 k) (fun i => s.size - (intOf i).toNat)
  case atStart => exact ⟨0, Nat.zero_le _, Nat.zero_le _, rfl⟩
  case round =>
    obtain ⟨k, hk, hsp, rfl⟩ := hrel
    have HS := hide hsp
    clear hsp
    by_cases hlt : k < s.size
    · have e := unhide HP s[k]
      by_cases hpk : p s[k] = true
      · rw [hpk] at e
        have HN : Hid (k + 1 ≤ spn p s.data.toList) := hide (spn_more (unhide HS) (by simpa using hlt) hpk)
        go_wp2_with (go_at_call 114; refine (setOf_any (s[k]).toNat (s[k]).toNat_lt _ hT).mono ?_; rintro e w' ⟨rfl, rfl⟩)
        go_round
        case rel => exact ⟨k + 1, by omega, unhide HN, by go_num⟩
        case measure => simp [intOf]; omega
      · rw [show p s[k] = false by simpa using hpk] at e
        have HN : Hid (k = spn p s.data.toList) := hide (spn_stop (unhide HS) (fun _ => Bool.eq_false_iff.2 hpk))
        go_wp2_with (go_at_call 114; refine (setOf_any (s[k]).toNat (s[k]).toNat_lt _ hT).mono ?_; rintro e w' ⟨rfl, rfl⟩)
        go_ret
        exact ⟨ret_int (by rw [← unhide HN]), rfl⟩
    · have HN : Hid (k = spn p s.data.toList) := hide (spn_stop (unhide HS) (fun h => absurd (by simpa using h) hlt))
      go_wp2
      go_ret
      exact ⟨ret_int (by rw [← unhide HN]), rfl⟩
set_option maxHeartbeats 1000000 in
theorem upTo_any (s : ByteArray) (m : Int) (p : UInt8 → Bool) (hp : ∀ b : UInt8, (bits .and .u8 (cls b.toNat : Int) m == 0) = p b) (w : World) (hT : TbW w) (hs : s.size ≤ 9223372036854775807) :
    Calls Tryz.prog 183 #[.string s, .int .u8 m] w fun e w' => e = .returned (.int .i64 (spn p s.data.toList : Nat)) ∧ w' = w := by
  have HP := hide hp
  clear hp
  go_enter Tryz.func183, Tryz.ntmps183
  go_wp2
  go_loop [5] (fun i => ∃ k : Nat, k ≤ s.size ∧ k ≤ spn p s.data.toList ∧ i = .int .i64 k) (fun i => s.size - (intOf i).toNat)
  case atStart => exact ⟨0, Nat.zero_le _, Nat.zero_le _, rfl⟩
  case round =>
    obtain ⟨k, hk, hsp, rfl⟩ := hrel
    have HS := hide hsp
    clear hsp
    by_cases hlt : k < s.size
    · have e := unhide HP s[k]
      by_cases hpk : p s[k] = true
      · rw [hpk] at e
        have HN : Hid (k + 1 ≤ spn p s.data.toList) := hide (spn_more (unhide HS) (by simpa using hlt) hpk)
        go_wp2_with (go_at_call 114; refine (setOf_any (s[k]).toNat (s[k]).toNat_lt _ hT).mono ?_; rintro e w' ⟨rfl, rfl⟩)
        go_round
        case rel => exact ⟨k + 1, by omega, unhide HN, by go_num⟩
        case measure => simp [intOf]; omega
      · rw [show p s[k] = false by simpa using hpk] at e
        have HN : Hid (k = spn p s.data.toList) := hide (spn_stop (unhide HS) (fun _ => Bool.eq_false_iff.2 hpk))
        go_wp2_with (go_at_call 114; refine (setOf_any (s[k]).toNat (s[k]).toNat_lt _ hT).mono ?_; rintro e w' ⟨rfl, rfl⟩)
        go_ret
        exact ⟨ret_int (by rw [← unhide HN]), rfl⟩
    · have HN : Hid (k = spn p s.data.toList) := hide (spn_stop (unhide HS) (fun h => absurd (by simpa using h) hlt))
      go_wp2
      go_ret
      exact ⟨ret_int (by rw [← unhide HN]), rfl⟩
end Go.Proofs.YtogklmljllocbabGreatDoor
namespace Go.Proofs.YtogklmljllocbabGreatDoor
open Go.RowKit

/-- The package's words of fields hold what their own text lays. -/
structure TbE (w : World) : Prop where
  tok : TbW w
  fds : w.cell? ⟨2, 0, none⟩ = some (.string ⟨#[110, 48]⟩) ∧ w.cell? ⟨2, 1, none⟩ = some (.string ⟨#[110, 49]⟩) ∧ w.cell? ⟨2, 2, none⟩ = some (.string ⟨#[110, 50]⟩) ∧ w.cell? ⟨2, 3, none⟩ = some (.string ⟨#[110, 51]⟩) ∧ w.cell? ⟨2, 4, none⟩ = some (.string ⟨#[116, 121, 112, 101]⟩) ∧ w.cell? ⟨2, 5, none⟩ = some (.string ⟨#[116, 101, 120, 116]⟩)
theorem TbE.same {w w' : World} (h : TbE w) (hs : w.heap.size ≤ w'.heap.size) (hb : ∀ k, k < 9 → w'.heap[k]? = w.heap[k]?) : TbE w' := by
  refine ⟨h.tok.same hs hb, ?_⟩
  have e := fun i => World.cell?_of_block (w := w') (w' := w) (a := ⟨2, i, none⟩) (hb 2 (by omega)).symm
  obtain ⟨h0, h1, h2, h3, h4, h5⟩ := h.fds
  exact ⟨(e 0).symm.trans h0, (e 1).symm.trans h1, (e 2).symm.trans h2, (e 3).symm.trans h3, (e 4).symm.trans h4, (e 5).symm.trans h5⟩
theorem TbE.below {B : Nat} {w w' : World} (h : TbE w) (hb : Below B w w') (hB : 9 ≤ B) : TbE w' := h.same hb.size fun k hk => hb.block k (by omega)
theorem TbE.low {w : World} (h : TbE w) : 9 ≤ w.heap.size := h.tok.low
theorem TbE.blw {w w' : World} (h : TbE w) (hb : Below w.heap.size w w') : TbE w' := h.below hb h.low
theorem TbE.kp {w w' : World} {F : List Nat} (h : TbE w) (hk : Kp F w w') (hF : ∀ k ∈ F, 9 ≤ k) : TbE w' := h.same hk.size fun k hk6 => hk.block k (by have := h.low; omega) (fun hm => by have := hF k hm; omega)
theorem TbE.drew {w : World} (h : TbE w) : TbE w.drew := h.same (Nat.le_refl _) fun _ _ => rfl
theorem TbE.alloc {w : World} (h : TbE w) (o : Obj) : TbE (w.alloc o) := h.kp (Kp.alloc w o) (by simp)
theorem isLetter_any (c : UInt8) (w : World) : Calls Tryz.prog 226 #[.int .u8 (c.toNat : Int)] w fun e w' => e = .returned (.bool (isLet c)) ∧ w' = w := by
  unfold isLet
  by_cases h1 : 97 ≤ c.toNat
  · rw [decide_eq_true h1]
    generalize c.toNat = n at *
    go_enter Tryz.func226, Tryz.ntmps226
    go_wp2
    go_ret
    exact ⟨ret_bool (by rw [Bool.true_and]; exact decide_eq_decide.2 (by omega)), rfl⟩
  · rw [decide_eq_false h1]
    generalize c.toNat = n at *
    go_enter Tryz.func226, Tryz.ntmps226
    go_wp2
    go_ret
    exact ⟨rfl, rfl⟩
theorem isDigit_any (c : UInt8) (w : World) : Calls Tryz.prog 227 #[.int .u8 (c.toNat : Int)] w fun e w' => e = .returned (.bool (isDig c)) ∧ w' = w := by
  unfold isDig
  by_cases h1 : 48 ≤ c.toNat
  · rw [decide_eq_true h1]
    generalize c.toNat = n at *
    go_enter Tryz.func227, Tryz.ntmps227
    go_wp2
    go_ret
    exact ⟨ret_bool (by rw [Bool.true_and]; exact decide_eq_decide.2 (by omega)), rfl⟩
  · rw [decide_eq_false h1]
    generalize c.toNat = n at *
    go_enter Tryz.func227, Tryz.ntmps227
    go_wp2
    go_ret
    exact ⟨rfl, rfl⟩
theorem fieldKind_any (f : Int) (w : World) : Calls Tryz.prog 201 #[.int .i64 f] w fun e w' => e = .returned (.int .i64 (fldK f)) ∧ w' = w := by
  unfold fldK
  by_cases h1 : f = 4
  · rw [if_pos (Or.inl h1)]
    subst h1
    go_enter Tryz.func201, Tryz.ntmps201
    go_wp2
    go_ret
    exact ⟨rfl, rfl⟩
  by_cases h2 : f = 5
  · rw [if_pos (Or.inr h2)]
    subst h2
    go_enter Tryz.func201, Tryz.ntmps201
    go_wp2
    go_ret
    exact ⟨rfl, rfl⟩
  rw [if_neg (by omega)]
  by_cases h3 : 0 ≤ f
  · by_cases h4 : f < 4
    · rw [if_pos ⟨h3, h4⟩]
      go_enter Tryz.func201, Tryz.ntmps201
      go_wp2
      go_ret
      exact ⟨rfl, rfl⟩
    · rw [if_neg (by omega)]
      go_enter Tryz.func201, Tryz.ntmps201
      go_wp2
      go_ret
      exact ⟨rfl, rfl⟩
  · rw [if_neg (by omega)]
    go_enter Tryz.func201, Tryz.ntmps201
    go_wp2
    go_ret
    exact ⟨rfl, rfl⟩
theorem toList_data (s : ByteArray) : s.toList = s.data.toList := Lib.toList_data s
theorem index6 (w : World) : (Instr.index 275 (.agg #[.string ⟨#[110, 48]⟩, .string ⟨#[110, 49]⟩, .string ⟨#[110, 50]⟩, .string ⟨#[110, 51]⟩, .string ⟨#[116, 121, 112, 101]⟩, .string ⟨#[116, 101, 120, 116]⟩]) (.int .i64 0)).run Tryz.prog w = .ok (.string ⟨#[110, 48]⟩) w ∧ (Instr.index 275 (.agg #[.string ⟨#[110, 48]⟩, .string ⟨#[110, 49]⟩, .string ⟨#[110, 50]⟩, .string ⟨#[110, 51]⟩, .string ⟨#[116, 121, 112, 101]⟩, .string ⟨#[116, 101, 120, 116]⟩]) (.int .i64 1)).run Tryz.prog w = .ok (.string ⟨#[110, 49]⟩) w ∧ (Instr.index 275 (.agg #[.string ⟨#[110, 48]⟩, .string ⟨#[110, 49]⟩, .string ⟨#[110, 50]⟩, .string ⟨#[110, 51]⟩, .string ⟨#[116, 121, 112, 101]⟩, .string ⟨#[116, 101, 120, 116]⟩]) (.int .i64 2)).run Tryz.prog w = .ok (.string ⟨#[110, 50]⟩) w ∧ (Instr.index 275 (.agg #[.string ⟨#[110, 48]⟩, .string ⟨#[110, 49]⟩, .string ⟨#[110, 50]⟩, .string ⟨#[110, 51]⟩, .string ⟨#[116, 121, 112, 101]⟩, .string ⟨#[116, 101, 120, 116]⟩]) (.int .i64 3)).run Tryz.prog w = .ok (.string ⟨#[110, 51]⟩) w ∧ (Instr.index 275 (.agg #[.string ⟨#[110, 48]⟩, .string ⟨#[110, 49]⟩, .string ⟨#[110, 50]⟩, .string ⟨#[110, 51]⟩, .string ⟨#[116, 121, 112, 101]⟩, .string ⟨#[116, 101, 120, 116]⟩]) (.int .i64 4)).run Tryz.prog w = .ok (.string ⟨#[116, 121, 112, 101]⟩) w ∧ (Instr.index 275 (.agg #[.string ⟨#[110, 48]⟩, .string ⟨#[110, 49]⟩, .string ⟨#[110, 50]⟩, .string ⟨#[110, 51]⟩, .string ⟨#[116, 121, 112, 101]⟩, .string ⟨#[116, 101, 120, 116]⟩]) (.int .i64 5)).run Tryz.prog w = .ok (.string ⟨#[116, 101, 120, 116]⟩) w := by
  simp [Instr.index, run_underlying Tryz.underlying275, part, Tryz.sizeOf9, go_sem]
/-- No word of a field ahead of that place. -/
def noFd (l : List UInt8) (k : Nat) : Prop := ∀ j, j < k → l ≠ fldW.getD j []
theorem noFd_next {l : List UInt8} {k : Nat} (h : noFd l k) (hk : l ≠ fldW.getD k []) : noFd l (k + 1) := fun j hj => by
  rcases Nat.lt_or_ge j k with h1 | h1
  · exact h j h1
  · obtain rfl : j = k := by omega
    exact hk
theorem fldOf_no {l : List UInt8} (h : noFd l 6) : fldOf l = -1 := by
  unfold fldOf
  rw [if_neg (show l ≠ [110, 48] from h 0 (by omega))]
  rw [if_neg (show l ≠ [110, 49] from h 1 (by omega))]
  rw [if_neg (show l ≠ [110, 50] from h 2 (by omega))]
  rw [if_neg (show l ≠ [110, 51] from h 3 (by omega))]
  rw [if_neg (show l ≠ [116, 121, 112, 101] from h 4 (by omega))]
  rw [if_neg (show l ≠ [116, 101, 120, 116] from h 5 (by omega))]
theorem fldOf_0 : fldOf [110, 48] = 0 := by decide
theorem fldOf_1 : fldOf [110, 49] = 1 := by decide
theorem fldOf_2 : fldOf [110, 50] = 2 := by decide
theorem fldOf_3 : fldOf [110, 51] = 3 := by decide
theorem fldOf_4 : fldOf [116, 121, 112, 101] = 4 := by decide
theorem fldOf_5 : fldOf [116, 101, 120, 116] = 5 := by decide
set_option maxHeartbeats 1000000 in
set_option maxRecDepth 100000 in
theorem fieldOf_any (s : ByteArray) (w : World) (hT : TbE w) : Calls Tryz.prog 242 #[.string s] w fun e w' => e = .returned (.int .i64 (fldOf s.data.toList)) ∧ w' = w := by
  obtain ⟨f0, f1, f2, f3, f4, f5⟩ := hT.fds
  clear hT
  have tl := toList_data s
  generalize hl : s.data.toList = l at tl ⊢
  clear hl
  generalize hF : fldOf l = F
  have HF := hide hF
  clear hF
  go_enter Tryz.func242, Tryz.ntmps242
  go_wp2
  go_loop [6] (fun i => ∃ k : Nat, k ≤ 6 ∧ Hid (noFd l k) ∧ i = .int .i64 (k : Int)) (fun i => 6 - (intOf i).toNat)
  case atStart => exact ⟨0, by omega, hide (fun j hj => by omega), rfl⟩
  case round =>
    obtain ⟨k, hk, HN, rfl⟩ := hrel
    have ix := fun w => index6 w
    rcases (show k = 0 ∨ k = 1 ∨ k = 2 ∨ k = 3 ∨ k = 4 ∨ k = 5 ∨ k = 6 by omega) with rfl | rfl | rfl | rfl | rfl | rfl | rfl
    · by_cases e : l = [110, 48]
      · have g1 : ([110, 48] = s.toList) = True := by rw [tl, e]; simp
        have g2 : ([110, 48] == s.toList) = true := by rw [tl, e]; decide
        have E : Hid (F = 0) := hide (by rw [← unhide HF, e]; exact fldOf_0)
        clear tl e HF
        go_wp2
        go_ret
        exact ⟨ret_int (unhide E).symm, rfl⟩
      · have g1 : ([110, 48] = s.toList) = False := by rw [tl]; simp; exact fun h => e h.symm
        have g2 : ([110, 48] == s.toList) = false := by rw [tl]; simp; exact fun h => e h.symm
        have HN2 : Hid (noFd l 1) := hide (noFd_next (unhide HN) e)
        clear tl e
        go_wp2
        go_round
        case rel => exact ⟨1, by omega, HN2, by go_num⟩
        case measure => simp [intOf]
    · by_cases e : l = [110, 49]
      · have g1 : ([110, 49] = s.toList) = True := by rw [tl, e]; simp
        have g2 : ([110, 49] == s.toList) = true := by rw [tl, e]; decide
        have E : Hid (F = 1) := hide (by rw [← unhide HF, e]; exact fldOf_1)
        clear tl e HF
        go_wp2
        go_ret
        exact ⟨ret_int (unhide E).symm, rfl⟩
      · have g1 : ([110, 49] = s.toList) = False := by rw [tl]; simp; exact fun h => e h.symm
        have g2 : ([110, 49] == s.toList) = false := by rw [tl]; simp; exact fun h => e h.symm
        have HN2 : Hid (noFd l 2) := hide (noFd_next (unhide HN) e)
        clear tl e
        go_wp2
        go_round
        case rel => exact ⟨2, by omega, HN2, by go_num⟩
        case measure => simp [intOf]
    · by_cases e : l = [110, 50]
      · have g1 : ([110, 50] = s.toList) = True := by rw [tl, e]; simp
        have g2 : ([110, 50] == s.toList) = true := by rw [tl, e]; decide
        have E : Hid (F = 2) := hide (by rw [← unhide HF, e]; exact fldOf_2)
        clear tl e HF
        go_wp2
        go_ret
        exact ⟨ret_int (unhide E).symm, rfl⟩
      · have g1 : ([110, 50] = s.toList) = False := by rw [tl]; simp; exact fun h => e h.symm
        have g2 : ([110, 50] == s.toList) = false := by rw [tl]; simp; exact fun h => e h.symm
        have HN2 : Hid (noFd l 3) := hide (noFd_next (unhide HN) e)
        clear tl e
        go_wp2
        go_round
        case rel => exact ⟨3, by omega, HN2, by go_num⟩
        case measure => simp [intOf]
    · by_cases e : l = [110, 51]
      · have g1 : ([110, 51] = s.toList) = True := by rw [tl, e]; simp
        have g2 : ([110, 51] == s.toList) = true := by rw [tl, e]; decide
        have E : Hid (F = 3) := hide (by rw [← unhide HF, e]; exact fldOf_3)
        clear tl e HF
        go_wp2
        go_ret
        exact ⟨ret_int (unhide E).symm, rfl⟩
      · have g1 : ([110, 51] = s.toList) = False := by rw [tl]; simp; exact fun h => e h.symm
        have g2 : ([110, 51] == s.toList) = false := by rw [tl]; simp; exact fun h => e h.symm
        have HN2 : Hid (noFd l 4) := hide (noFd_next (unhide HN) e)
        clear tl e
        go_wp2
        go_round
        case rel => exact ⟨4, by omega, HN2, by go_num⟩
        case measure => simp [intOf]
    · by_cases e : l = [116, 121, 112, 101]
      · have g1 : ([116, 121, 112, 101] = s.toList) = True := by rw [tl, e]; simp
        have g2 : ([116, 121, 112, 101] == s.toList) = true := by rw [tl, e]; decide
        have E : Hid (F = 4) := hide (by rw [← unhide HF, e]; exact fldOf_4)
        clear tl e HF
        go_wp2
        go_ret
        exact ⟨ret_int (unhide E).symm, rfl⟩
      · have g1 : ([116, 121, 112, 101] = s.toList) = False := by rw [tl]; simp; exact fun h => e h.symm
        have g2 : ([116, 121, 112, 101] == s.toList) = false := by rw [tl]; simp; exact fun h => e h.symm
        have HN2 : Hid (noFd l 5) := hide (noFd_next (unhide HN) e)
        clear tl e
        go_wp2
        go_round
        case rel => exact ⟨5, by omega, HN2, by go_num⟩
        case measure => simp [intOf]
    · by_cases e : l = [116, 101, 120, 116]
      · have g1 : ([116, 101, 120, 116] = s.toList) = True := by rw [tl, e]; simp
        have g2 : ([116, 101, 120, 116] == s.toList) = true := by rw [tl, e]; decide
        have E : Hid (F = 5) := hide (by rw [← unhide HF, e]; exact fldOf_5)
        clear tl e HF
        go_wp2
        go_ret
        exact ⟨ret_int (unhide E).symm, rfl⟩
      · have g1 : ([116, 101, 120, 116] = s.toList) = False := by rw [tl]; simp; exact fun h => e h.symm
        have g2 : ([116, 101, 120, 116] == s.toList) = false := by rw [tl]; simp; exact fun h => e h.symm
        have HN2 : Hid (noFd l 6) := hide (noFd_next (unhide HN) e)
        clear tl e
        go_wp2
        go_round
        case rel => exact ⟨6, by omega, HN2, by go_num⟩
        case measure => simp [intOf]
    · have E : Hid (F = -1) := hide (by rw [← unhide HF]; exact fldOf_no (unhide HN))
      go_wp2
      go_ret
      exact ⟨ret_int (unhide E).symm, rfl⟩
end Go.Proofs.YtogklmljllocbabGreatDoor
