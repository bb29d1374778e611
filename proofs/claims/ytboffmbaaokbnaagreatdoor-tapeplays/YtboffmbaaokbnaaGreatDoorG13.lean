/-
  Append: a text is put at a tape's end, or it is told why not.
  A tape's file, plain: frames that are put at its end; what is opened; a byte that rots.
  TapePlays: plain facts on a tape's file.
  The document's disk: rows of files; a name; a file's place; how many bytes there are.
  The document's disk: may a name be; files but one name's.
-/
import Derived.Test.YtboffmbaaokbnaaGreatDoorG12
import Derived.Test.YtboffmbaaokbnaaGreatDoorG08
namespace Go.Proofs.YtboffmbaaokbnaaGreatDoor
open Go.RowKit

theorem tadd_any (t p : Nat) (n : ByteArray) (v : Value) (ts : List (List UInt8)) (s : ByteArray) (d : Dk) (F : List Nat) (w : World) (h : TpAt w t p n v ts) (hd : DiskAt w p d F) (hT : TabW w) (hts : ts.length ≤ 1000000) (hs : s.size ≤ 9223372036854775807) :
    Calls Tryz.prog 48 #[.pointer (some ⟨t, 0, none⟩), .string s] w fun r w' =>
      (d.apE n s = 0 ∧ r = .returned (.tuple #[]) ∧ Added w F p (d.apD n s) n t v (ts ++ [s.data.toList]) w') ∨ (d.apE n s ≠ 0 ∧ r = .panicked (pan (d.apE n s)) ∧ Did w F p (d.apD n s) w') := by
  unfold Dk.apE Dk.apD
  by_cases hl : 65536 < s.size
  · rw [if_pos hl, if_pos hl]
    exact (add_long t s w hs hl hT).mono fun r w' ⟨h1, h2⟩ => Or.inr ⟨by decide, h1, hd.did' h2⟩
  · rw [if_neg hl, if_neg hl]
    by_cases he : d.wrE n ((hasF d.now n).length : Int) (frS s) = 0
    · exact (add_ok t p n v ts s d F w h hd hl hT hts he).mono fun r w' ⟨h1, h2⟩ => Or.inl ⟨he, h1, h2⟩
    · exact (add_not t p n v ts s d F w h hd hl hT he).mono fun r w' ⟨h1, h2⟩ => Or.inr ⟨he, h1, h2⟩
set_option maxHeartbeats 1000000 in
set_option maxRecDepth 100000 in
theorem tappend_any (t p : Nat) (n : ByteArray) (v : Value) (ts : List (List UInt8)) (s : ByteArray) (d : Dk) (F : List Nat) (w : World) (h : TpAt w t p n v ts) (hd : DiskAt w p d F) (hT : TabW w) (hts : ts.length ≤ 1000000) (hs : s.size ≤ 9223372036854775807) :
    Calls Tryz.prog 16 #[.pointer (some ⟨t, 0, none⟩), .string s] w fun r w' =>
      (d.apE n s = 0 ∧ r = .returned (.int .i64 0) ∧ Added w F p (d.apD n s) n t v (ts ++ [s.data.toList]) w') ∨ (d.apE n s ≠ 0 ∧ r = .returned (.int .i64 (d.apE n s)) ∧ Did w F p (d.apD n s) w') := by
  have mf := hmf
  have bx := CBox.new w #[.int .i64 0] 24
  have hka := Kp.alloc w (.cells #[.int .i64 0] 24)
  have hd0 := hd.kp hka (by simp)
  have h0 := h.kp hka (by simp) (by simp)
  have AD := hide (tadd_any t p n v ts s d F _ h0 hd0 (hT.kp hka (by simp)) hts hs)
  have hlt := h.lt
  have hvl : ∀ k, v.ownBlock = some k → k < w.heap.size := fun k hk => (h.row.block hk).2.1
  have HN := hide (CBox.outD (p := p) (d := d) bx F hd0)
  have hz : (w.alloc (.cells #[.int .i64 0] 24)).heap.size = w.heap.size + 1 := by simp
  have BX := hide bx
  have KA := hide hka
  have HZ := hide hz
  have HL := hide hlt
  have HV := hide hvl
  clear hd hT bx hka hd0 hz h h0 hlt hvl hts
  generalize d.apD n s = d2 at *
  generalize d.apE n s = e2 at *
  go_enter_defers Tryz.func16, Tryz.ntmps16
  go_wp2_with fail
  refine (unhide AD).mono ?_
  rintro r w1 (⟨rfl, rfl, ho⟩ | ⟨he, rfl, hd1⟩)
  · obtain ⟨F1, v1, hD1, hT1, hk1, hF1, hv1⟩ := ho
    have hz := unhide HZ
    have hlt := unhide HL
    have b1 := (unhide BX).kp hk1 (by
      rw [List.mem_cons, List.mem_append]
      rintro (e | e | e)
      · omega
      · have := unhide HV w.heap.size (by simpa using e); omega
      · exact unhide HN e)
    have c0 : w1.cell? ⟨w.heap.size, 0, none⟩ = some (.int .i64 0) := b1.cell rfl
    have f0 := b1.froz 0
    have c9 : (w1.setCell ⟨w.heap.size, 0, none⟩ (.int .i64 0)).cell? ⟨w.heap.size, 0, none⟩ = some (.int .i64 0) := (b1.set 0 (.int .i64 0)).cell rfl
    have HA : Hid (Added w F p d2 n t v (ts ++ [s.data.toList]) (w1.setCell ⟨w.heap.size, 0, none⟩ (.int .i64 0))) := hide (by
      have hks := Kp.set w1 w.heap.size 0 (.int .i64 0)
      refine ⟨F1, v1, hD1.kp hks (fun k hk hm => by simp at hm; subst hm; exact CBox.outD b1 F1 hD1 hk), hT1.kp hks (by simp; omega) (fun k hk hm => ?_), (((unhide KA).mono (by simp)).trans hk1 (fun x hx => Or.inl hx)).trans hks (fun x hx => by simp at hx; subst hx; exact Or.inr (Nat.le_refl _)), fun k hk => ?_, ?_⟩
      · simp at hm
        subst hm
        obtain ⟨_, _, cur, hc⟩ := hT1.row.block hk
        have hb : w1.heap[w.heap.size]? = _ := b1
        rw [hc] at hb
        injection hb with e; injection e with _ e; exact absurd e (by decide)
      · rcases hF1 k hk with h1 | h1
        · exact Or.inl h1
        · exact Or.inr (by omega)
      · rcases hv1 with h1 | h1
        · exact Or.inl h1
        · exact Or.inr (fun k hk => by have := h1 k hk; omega))
    clear hD1 hT1 hk1 hF1 hv1 b1 hz hlt
    go_wp2
    refine leaves_cons (f := 47) (args := #[.pointer (some ⟨w.heap.size, 0, none⟩)]) (by simp) (by simp [go_sem]) ?_
    refine (append_idle ⟨w.heap.size, 0, none⟩ _).mono ?_
    rintro e u' w'' ⟨rfl, rfl, rfl⟩
    simp [Leaves, settle, results, Tryz.results16, go_sem, c9]
    exact unhide HA
  · have hk1 : Kp F _ w1 := let ⟨_, _, a, _⟩ := hd1; a
    have b1 := (unhide BX).kp hk1 (unhide HN)
    refine leaves_cons (f := 47) (args := #[.pointer (some ⟨w.heap.size, 0, none⟩)]) (by simp) (by simp [go_sem]) ?_
    refine (append_caught w.heap.size 0 e2 _ b1).mono ?_
    rintro e u' w'' ⟨rfl, rfl, hc⟩
    obtain ⟨c9, hk9⟩ := hc.out b1
    have HD2 := hide ((Did.pre (unhide KA) hd1).post hk9 (Nat.le_refl _) (CBox.outD b1))
    clear hk9 hc hd1 hk1 b1
    simp [Leaves, settle, results, Tryz.results16, go_sem, c9]
    exact Or.inr ⟨he, unhide HD2⟩
end Go.Proofs.YtboffmbaaokbnaaGreatDoor
namespace Go.Proofs.YtboffmbaaokbnaaGreatDoor
open Go.RowKit

theorem allF_append (a b : List (List UInt8)) : allF (a ++ b) = allF a ++ allF b := by unfold allF; rw [List.flatMap_append]
theorem allF_one (x : List UInt8) : allF [x] = frameL x := by unfold allF; simp
theorem frS_data (s : ByteArray) (h : s.size ≤ 65536) : (frS s).data.toList = frameL s.data.toList := by
  unfold frS
  rw [if_neg (by omega)]
theorem frS_len (s : ByteArray) (h : s.size ≤ 65536) : (frS s).size = s.size + 10 := by
  have e : (frS s).size = (frS s).data.toList.length := Array.length_toList.symm
  rw [e, frS_data s h, frameL_len, Array.length_toList]
  rfl
theorem over_end (h d : List UInt8) : over h h.length d = h ++ d := by
  unfold over
  rw [List.take_length, List.drop_of_length_le (by omega), List.append_nil]
/-- A disk to which texts are appended, all going well. -/
structure Gd (d : Dk) (j : Nat) : Prop where
  left : d.left = -1
  down : d.down = false
  few : d.wait.length ≤ j
  tot : total d.now ≤ 510 * j
  len : d.now.length ≤ j
theorem Gd.new : Gd Dk.new 0 := ⟨rfl, rfl, by decide, by decide, by decide⟩
theorem Gd.more {d : Dk} {j : Nat} (h : Gd d j) : Gd d (j + 1) := ⟨h.left, h.down, by have := h.few; omega, by have := h.tot; omega, by have := h.len; omega⟩
theorem Gd.ready {d : Dk} {j : Nat} (h : Gd d j) : d.readyB = true ∧ d.ready = d := by
  have e1 : d.readyB = true := by unfold Dk.readyB; rw [h.down, h.left]; rfl
  refine ⟨e1, ?_⟩
  unfold Dk.ready
  rw [if_pos e1]
  obtain ⟨a, b, c, e, f⟩ := d
  have := h.left
  dsimp only at this ⊢
  subst this
  rfl
theorem hasF_with {fs : Fs} (hn : (fs.map (·.1)).Nodup) (m n : ByteArray) (d : List UInt8) : hasF (withF fs m d) n = if n = m then d else hasF fs n := by
  unfold hasF
  rw [getF_with hn]
  split <;> rfl
theorem Gd.append {d : Dk} {j : Nat} (h : Gd d j) (hj : j < 60) (hn : (d.now.map (·.1)).Nodup) {n : ByteArray} (hd : dnm n = true) (s : ByteArray) (hs : s.size ≤ 500) :
    d.apE n s = 0 ∧ Gd (d.apD n s) (j + 1) ∧ (d.apD n s).now = withF d.now n (hasF d.now n ++ frameL s.data.toList) ∧ (d.apD n s).safe = d.safe := by
  obtain ⟨r1, r2⟩ := h.ready
  have hl := hasF_le (fs := d.now) n
  have ht := h.tot
  have hf := frS_len s (by omega)
  have hlen := h.len
  have hfew := h.few
  have hbad : d.badW n ((hasF d.now n).length : Int) (frS s) = 0 := by
    unfold Dk.badW
    rw [if_neg (by simp [hd]), if_neg (by omega)]
    have : d.fullW n ((hasF d.now n).length : Int) (frS s) = false := by
      unfold Dk.fullW Dk.grows
      rw [hf, Bool.or_eq_false_iff]
      refine ⟨decide_eq_false (by omega), ?_⟩
      rw [Bool.and_eq_false_iff]
      exact Or.inr (decide_eq_false (by omega))
    rw [if_neg (by simp [this])]
  have hdo : d.doE = 0 ∧ d.doD (.wr n (hasF d.now n).length (frS s)) = ⟨d.safe, made d.now (.wr n (hasF d.now n).length (frS s)), d.wait ++ [.wr n (hasF d.now n).length (frS s)], d.left, d.down⟩ := by
    have hw : ¬ 1024 ≤ d.wait.length := by omega
    unfold Dk.doE Dk.doD
    rw [if_neg hw, if_neg hw, if_pos r1, if_pos r1, r2]
    exact ⟨rfl, rfl⟩
  have hmade : made d.now (.wr n (hasF d.now n).length (frS s)) = withF d.now n (hasF d.now n ++ frameL s.data.toList) := by
    show withF _ _ _ = _
    rw [over_end, frS_data s (by omega)]
  have hapE : d.apE n s = 0 := by
    unfold Dk.apE Dk.wrE
    rw [if_neg (by omega), if_pos hbad, hdo.1]
  have hapD : d.apD n s = ⟨d.safe, withF d.now n (hasF d.now n ++ frameL s.data.toList), d.wait ++ [.wr n (hasF d.now n).length (frS s)], d.left, d.down⟩ := by
    unfold Dk.apD Dk.wrD
    rw [if_neg (by omega), if_pos hbad, Int.toNat_natCast, hdo.2, hmade]
  rw [hapD]
  refine ⟨hapE, ⟨h.left, h.down, by dsimp only; rw [List.length_append, List.length_singleton]; omega, ?_, ?_⟩, rfl, rfl⟩
  · dsimp only
    have h1 := total_with hn n (hasF d.now n ++ frameL s.data.toList)
    have hsl : s.data.toList.length = s.size := Array.length_toList
    rw [List.length_append, frameL_len, hsl] at h1
    omega
  · dsimp only
    rw [len_with]
    have := len_without d.now n
    omega
/-- A file of whole frames is opened as their bodies. -/
theorem op_whole {d : Dk} {n : ByteArray} {ts : List (List UInt8)} (hd : dnm n = true) (h : hasF d.now n = allF ts) (hs : ∀ x ∈ ts, x.length ≤ 65536) : d.opE n = 0 ∧ d.opD n = d ∧ d.opL n = ts := by
  have e := frsS_all ts [] hs body_none
  rw [List.append_nil] at e
  have he : d.fEnd n = (hasF d.now n).length := by unfold Dk.fEnd; rw [h, e]
  refine ⟨?_, ?_, by unfold Dk.opL; rw [h, e]⟩
  · unfold Dk.opE
    rw [if_neg (by simp [hd]), if_neg (by omega)]
  · unfold Dk.opD
    rw [if_neg (by simp [hd]), if_neg (by omega)]
theorem bodyS_ten (l r : List UInt8) (h : (bodyS l).2 = 10) : (bodyS (l ++ r)).2 = 10 := by
  unfold bodyS at h
  split at h
  · simp at h
  rename_i h1
  split at h
  · simp at h
  rename_i h2
  split at h
  · simp at h
  rename_i h3
  split at h
  · simp at h
  rename_i h4
  split at h
  · simp at h
  rename_i h5
  split at h
  · rename_i h6
    have hl : 10 ≤ l.length := by omega
    have hp : Lib.hasPrefix (l ++ r) [87, 70] = true := by
      have : Lib.hasPrefix l [87, 70] = true := by simpa using h2
      unfold Lib.hasPrefix at this ⊢
      rw [List.isPrefixOf_iff_prefix] at this ⊢
      exact this.trans (List.prefix_append _ _)
    have u2 : unw4 ((l ++ r).drop 2) = unw4 (l.drop 2) := by
      rw [List.drop_append_of_le_length (by omega), take4_unw4, List.take_append_of_le_length (by rw [List.length_drop]; omega), ← take4_unw4]
    have u6 : unw4 ((l ++ r).drop 6) = unw4 (l.drop 6) := by
      rw [List.drop_append_of_le_length (by omega), take4_unw4, List.take_append_of_le_length (by rw [List.length_drop]; omega), ← take4_unw4]
    have d10 : (l ++ r).drop 10 = l.drop 10 ++ r := List.drop_append_of_le_length (by omega)
    have t6 : (l ++ r).take 6 = l.take 6 := List.take_append_of_le_length (by omega)
    unfold bodyS
    rw [if_neg (fun h => by have := h.1; rw [List.length_append] at this; omega), if_neg (by rw [hp]; simp), if_neg (by rw [List.length_append]; omega), u2, if_neg h4, d10, if_neg (by rw [List.length_append]; omega), t6, u6, List.take_append_of_le_length (by omega), if_pos h6]
  · simp at h
/-- A byte of a frame behind its number that is another one. -/
theorem op_rot {d : Dk} {n : ByteArray} {ts us : List (List UInt8)} {x : List UInt8} {k : Nat} {c : UInt8} (hd : dnm n = true) (hs : ∀ y ∈ ts, y.length ≤ 65536) (hx : x.length ≤ 65536) (h6 : 6 ≤ k) (hk : k < x.length + 10) (hc : (frameL x)[k]? ≠ some c)
    (h : hasF d.now n = allF ts ++ ((frameL x).set k c ++ allF us)) : d.opE n = 40 := by
  have hb : (bodyS ((frameL x).set k c ++ allF us)).2 = 10 := bodyS_ten _ _ (by rw [torn_byte x k c hx h6 hk hc])
  have e := frsS_all ts ((frameL x).set k c ++ allF us) hs (by rw [hb]; decide)
  have hE : d.fEnd n = (allF ts).length := by unfold Dk.fEnd; rw [h, e]
  have hC : d.fCode n = 10 := by unfold Dk.fCode; rw [hE, h, List.drop_left, hb]
  unfold Dk.opE
  rw [if_neg (by simp [hd]), if_pos (by rw [hE, h, List.length_append, List.length_append, List.length_set, frameL_len]; omega), if_neg (by rw [hC]; decide)]
end Go.Proofs.YtboffmbaaokbnaaGreatDoor
namespace Go.Proofs.YtboffmbaaokbnaaGreatDoor
open Go.RowKit

theorem frsF_cnt : ∀ (f : Nat) (l : List UInt8) (e : Nat), (frsF f l e).1.length ≤ f
  | 0, _, _ => by simp [frsF]
  | f + 1, l, e => by
    rw [frsF]
    split
    · simp
    · simp only [List.length_cons]
      have := frsF_cnt f l (e + 10 + (bodyS (l.drop e)).1.length)
      omega
theorem frsF_end : ∀ (f : Nat) (l : List UInt8) (e : Nat), e ≤ l.length → (frsF f l e).2 ≤ l.length
  | 0, _, _, h => h
  | f + 1, l, e, h => by
    rw [frsF]
    split
    · exact h
    · rename_i hb
      have hb0 : (bodyS (l.drop e)).2 = 0 := by simpa using hb
      have := (bodyS_ok _ hb0).1
      rw [List.length_drop] at this
      exact frsF_end f l _ (by omega)
theorem opL_cnt (d : Dk) (n : ByteArray) : (d.opL n).length ≤ (hasF d.now n).length + 1 := frsF_cnt _ _ _
theorem fEnd_le (d : Dk) (n : ByteArray) : d.fEnd n ≤ (hasF d.now n).length := frsF_end _ _ _ (Nat.zero_le _)
theorem do_now {d : Dk} {c : Chg} (h : d.doE = 0) : (d.doD c).now = made d.now c := by
  unfold Dk.doE at h
  split at h
  · omega
  · rename_i h1
    split at h
    · rename_i h2
      unfold Dk.doD
      rw [if_neg h1, if_pos h2]
    · omega
theorem op_dnm {d : Dk} {n : ByteArray} (h : d.opE n = 0) : dnm n = true := by
  unfold Dk.opE at h
  cases hd : dnm n with
  | true => rfl
  | false => rw [if_pos hd] at h; omega
theorem op_len {d : Dk} (hn : (d.now.map (·.1)).Nodup) {n : ByteArray} (h : d.opE n = 0) : (hasF (d.opD n).now n).length = d.fEnd n := by
  have hd := op_dnm h
  have hle := fEnd_le d n
  unfold Dk.opE at h
  unfold Dk.opD
  rw [if_neg (by simp [hd])] at h ⊢
  split at h
  · rename_i h1
    rw [if_pos h1]
    split at h
    · rename_i h2
      rw [if_pos h2]
      unfold Dk.ctE at h
      split at h
      · rename_i h3
        unfold Dk.ctD
        rw [if_pos h3, do_now h]
        unfold made
        rw [hasF_with hn, if_pos rfl, List.length_take, Int.toNat_natCast]
        omega
      · rename_i h3
        exact absurd h h3
    · omega
  · rename_i h1
    rw [if_neg h1]
    omega
theorem ap_len {d : Dk} (hn : (d.now.map (·.1)).Nodup) {n s : ByteArray} (h : d.apE n s = 0) : (hasF (d.apD n s).now n).length = (hasF d.now n).length + (frS s).size := by
  unfold Dk.apE at h
  unfold Dk.apD
  split at h
  · omega
  · rename_i h1
    rw [if_neg h1]
    unfold Dk.wrE at h
    split at h
    · rename_i h3
      unfold Dk.wrD
      rw [if_pos h3, do_now h]
      unfold made
      rw [hasF_with hn, if_pos rfl, Int.toNat_natCast, over_end, List.length_append]
      simp
    · rename_i h3
      exact absurd h h3
end Go.Proofs.YtboffmbaaokbnaaGreatDoor
namespace Go.Proofs.YtboffmbaaokbnaaGreatDoor
open Go.RowKit

theorem strNe {a b : ByteArray} (h : a ≠ b) : (a.toList == b.toList) = false := beq_eq_false_iff_ne.2 fun e => h (by
  rw [ByteArray.toList_eq, ByteArray.toList_eq] at e
  exact Go.WideShapes.bytes_inj e)
def fcell (p : ByteArray × List UInt8) : List Value := [.string p.1, .string ⟨p.2.toArray⟩]
/-- Files lie in a row of their own. -/
def FlRow (w : World) (v : Value) (fs : Fs) : Prop := w.ownsRow 0 68 2 v fs.length (fs.flatMap fcell)
theorem FlRow.nil (w : World) : FlRow w (.slice none 0 0) [] := World.ownsRow_nil _ _ _ _
theorem FlRow.kp {F : List Nat} {w w' : World} {v : Value} {fs : Fs} (h : FlRow w v fs) (hk : Kp F w w') (hF : ∀ k, v.ownBlock = some k → k ∉ F) : FlRow w' v fs := by
  obtain ⟨h1, h2 | ⟨g, cp, cur, rfl, hb, hh, r⟩⟩ := h
  · exact ⟨h1, Or.inl h2⟩
  · exact ⟨h1, Or.inr ⟨g, cp, cur, rfl, hb, (hk.block g (Array.getElem?_eq_some_iff.1 hh).1 (hF g rfl)).trans hh, r⟩⟩
theorem FlRow.lt {w : World} {v : Value} {fs : Fs} (h : FlRow w v fs) {k : Nat} (hk : v.ownBlock = some k) : k < w.heap.size := (World.ownsRow.lt h k hk).2
theorem fcells_at : ∀ (fs : Fs) (i : Nat) (h : i < fs.length), (fs.flatMap fcell)[i * 2]? = some (.string fs[i].1) ∧ (fs.flatMap fcell)[i * 2 + 1]? = some (.string ⟨fs[i].2.toArray⟩)
  | [], i, h => absurd h (by simp)
  | p :: fs, 0, _ => ⟨rfl, rfl⟩
  | p :: fs, i + 1, h => by
    have := fcells_at fs i (by simpa using h)
    rw [List.flatMap_cons, List.getElem?_append_right (by simp [fcell]; omega), List.getElem?_append_right (by simp [fcell]; omega)]
    have e1 : (i + 1) * 2 - (fcell p).length = i * 2 := by simp [fcell]; omega
    have e2 : (i + 1) * 2 + 1 - (fcell p).length = i * 2 + 1 := by simp [fcell]; omega
    rw [e1, e2]
    exact this
theorem FlRow.cell {w : World} {g cap : Nat} {fs : Fs} (h : FlRow w (.slice (some ⟨g, 0, none⟩) fs.length cap) fs) (i : Nat) (hi : i < fs.length) : w.cell? ⟨g, i * 2, none⟩ = some (.string fs[i].1) ∧ w.cell? ⟨g, i * 2 + 1, none⟩ = some (.string ⟨fs[i].2.toArray⟩) := by
  rw [World.ownsRow.cellAt h (i * 2) (by omega), World.ownsRow.cellAt h (i * 2 + 1) (by omega)]
  exact fcells_at fs i hi
theorem FlRow.shape {w : World} {v : Value} {fs : Fs} (h : FlRow w v fs) : (v = .slice none 0 0 ∧ fs = []) ∨ ∃ g cap, v = .slice (some ⟨g, 0, none⟩) fs.length cap ∧ fs.length ≤ cap ∧ cap ≤ 9223372036854775807 := by
  obtain ⟨_, ⟨rfl, h0⟩ | ⟨g, cap, cur, rfl, _, _, hn, hm, _⟩⟩ := h
  · exact Or.inl ⟨rfl, List.eq_nil_of_length_eq_zero h0⟩
  · exact Or.inr ⟨g, cap, rfl, hn, by unfold maxLen at hm; omega⟩
set_option maxHeartbeats 2000000 in
set_option maxRecDepth 100000 in
theorem find_any (v : Value) (fs : Fs) (n : ByteArray) (w : World) (h : FlRow w v fs) :
    Calls Tryz.prog 64 #[v, .string n] w fun e w' => ∃ r, e = .returned (.int .i64 r) ∧ w' = w ∧ ((∃ k : Nat, ∃ hk : k < fs.length, r = (k : Int) ∧ fs[k].1 = n ∧ getF fs n = some fs[k].2) ∨ (r = -1 ∧ getF fs n = none)) := by
  have HH := hide h
  obtain ⟨rfl, rfl⟩ | ⟨g, cap, rfl, hc, hm⟩ := h.shape
  · clear HH h
    go_enter Tryz.func64, Tryz.ntmps64
    go_wp2
    go_loopw [5] (fun i wr => i = .int .i64 0 ∧ wr = w) (fun _ _ => 0)
    case atStart => exact ⟨rfl, rfl⟩
    case round =>
      obtain ⟨rfl, rfl⟩ := hrel
      go_wp2
      go_ret
      exact ⟨_, rfl, rfl, Or.inr ⟨rfl, rfl⟩⟩
  · clear h
    go_enter Tryz.func64, Tryz.ntmps64
    go_wp2
    go_loopw [5] (fun i wr => ∃ k : Nat, k ≤ fs.length ∧ i = .int .i64 (k : Int) ∧ wr = w ∧ Hid (∀ p ∈ fs.take k, p.1 ≠ n)) (fun i _ => fs.length - (intOf i).toNat)
    case atStart => exact ⟨0, Nat.zero_le _, rfl, rfl, hide (by simp)⟩
    case round =>
      obtain ⟨k, hk, rfl, rfl, HN⟩ := hrel
      by_cases hlt : k < fs.length
      · have hli : (k : Int) < (fs.length : Int) := by omega
        have c1 := ((unhide HH).cell k hlt).1
        have hgen : ∃ s, fs[k].1 = s := ⟨_, rfl⟩
        obtain ⟨s, hs⟩ := hgen
        rw [hs] at c1
        have HS := hide hs
        clear hs
        by_cases he : s = n
        · subst he
          have HF : Hid (getF fs s = some fs[k].2) := hide (by
            unfold getF
            have hsp : fs = fs.take k ++ fs[k] :: fs.drop (k + 1) := by
              rw [← List.drop_eq_getElem_cons hlt, List.take_append_drop]
            have hf : fs.find? (fun p => decide (p.1 = s)) = some fs[k] := by
              refine List.find?_eq_some_iff_append.2 ⟨by simpa using unhide HS, fs.take k, fs.drop (k + 1), hsp, fun p hp => by simpa using unhide HN p hp⟩
            rw [hf]; rfl)
          go_wp2
          go_ret
          exact ⟨_, rfl, rfl, Or.inl ⟨k, hlt, rfl, unhide HS, unhide HF⟩⟩
        · have heb := strNe he
          go_wp2
          go_roundw
          case rel => exact ⟨k + 1, by omega, by go_num, by trivial, hide (fun p hp => by
            rw [List.take_succ_eq_append_getElem hlt, List.mem_append, List.mem_singleton] at hp
            rcases hp with hp | rfl
            · exact unhide HN p hp
            · rw [unhide HS]; exact he)⟩
          case measure => simp [intOf]; omega
      · obtain rfl : k = fs.length := by omega
        rw [List.take_length] at HN
        have HF : Hid (getF fs n = none) := hide (getF_none fun hm => by
          obtain ⟨q, hq, e⟩ := List.mem_map.1 hm
          exact unhide HN q hq e)
        go_wp2
        go_ret
        exact ⟨_, rfl, rfl, Or.inr ⟨rfl, unhide HF⟩⟩
set_option maxHeartbeats 2000000 in
set_option maxRecDepth 100000 in
theorem total_any (v : Value) (fs : Fs) (w : World) (h : FlRow w v fs) (ht : total fs ≤ 1000000000) :
    Calls Tryz.prog 65 #[v] w fun e w' => e = .returned (.int .i64 (total fs : Int)) ∧ w' = w := by
  have HH := hide h
  obtain ⟨rfl, rfl⟩ | ⟨g, cap, rfl, hc, hm⟩ := h.shape
  · clear HH h
    go_enter Tryz.func65, Tryz.ntmps65
    go_wp2
    go_loopw [3, 4] (fun n i wr => n = .int .i64 0 ∧ i = .int .i64 0 ∧ wr = w) (fun _ _ _ => 0)
    case atStart => exact ⟨rfl, rfl, rfl⟩
    case round =>
      obtain ⟨rfl, rfl, rfl⟩ := hrel
      go_wp2
      go_ret
      exact ⟨rfl, rfl⟩
  · clear h
    have hstep : ∀ k (hk : k < fs.length), total (fs.take (k + 1)) = total (fs.take k) + fs[k].2.length := fun k hk => by
      unfold total
      rw [List.take_succ_eq_append_getElem hk, List.map_append, List.sum_append]; simp
    have hle : ∀ k, total (fs.take k) ≤ total fs := fun k => by
      have : total fs = total (fs.take k) + total (fs.drop k) := by
        unfold total
        rw [← List.sum_append, ← List.map_append, List.take_append_drop]
      omega
    have HS := hide hstep
    have HL := hide hle
    clear hstep hle
    go_enter Tryz.func65, Tryz.ntmps65
    go_wp2
    go_loopw [3, 4] (fun n i wr => ∃ k : Nat, k ≤ fs.length ∧ i = .int .i64 (k : Int) ∧ n = .int .i64 (total (fs.take k) : Int) ∧ wr = w) (fun _ i _ => fs.length - (intOf i).toNat)
    case atStart => exact ⟨0, Nat.zero_le _, rfl, rfl, rfl⟩
    case round =>
      obtain ⟨k, hk, rfl, rfl, rfl⟩ := hrel
      by_cases hlt : k < fs.length
      · have hli : (k : Int) < (fs.length : Int) := by omega
        have c1 := ((unhide HH).cell k hlt).2
        have e1 := unhide HS k hlt
        have e2 := unhide HL (k + 1)
        have hsz : (⟨fs[k].2.toArray⟩ : ByteArray).size = fs[k].2.length := by simp [ByteArray.size]
        have E1 := hide e1
        have hb : total (fs.take k) + fs[k].2.length ≤ 1000000000 := by omega
        clear e1 e2
        generalize (⟨fs[k].2.toArray⟩ : ByteArray) = s at *
        rw [← hsz] at E1 hb
        generalize total (fs.take k) = T at *
        clear hsz
        go_wp2
        go_roundw
        case rel => exact ⟨k + 1, by omega, by go_num, by rw [unhide E1]; go_num, by trivial⟩
        case measure => simp [intOf]; omega
      · obtain rfl : k = fs.length := by omega
        rw [List.take_length]
        go_wp2
        go_ret
        exact ⟨rfl, rfl⟩
end Go.Proofs.YtboffmbaaokbnaaGreatDoor
namespace Go.Proofs.YtboffmbaaokbnaaGreatDoor
open Go.RowKit

theorem info_file : (Tryz.prog.info? 68).map (fun i => (i.zero, i.size, i.bytes)) = some (some (.agg #[.string ⟨#[]⟩, .string ⟨#[]⟩]), 2, 32) := by kernel_rfl
theorem two_cellF (W : World) (a b : Value) (t : TypeId) : ∀ j u, [a, b][j]? = some u → (W.alloc (.cells #[a, b] t)).cell? ((⟨W.heap.size, 0, none⟩ : Addr).add j) = some u := by
  intro j u hj
  have hb := CBox.new W #[a, b] t
  rw [Go.WideShapes.add_plain, Nat.zero_add]
  exact hb.cell (by simpa using hj)
theorem without_take {fs : Fs} (n : ByteArray) {k : Nat} (hk : k < fs.length) : without (fs.take (k + 1)) n = without (fs.take k) n ++ (if fs[k].1 = n then [] else [fs[k]]) := by
  unfold without
  rw [List.take_succ_eq_append_getElem hk, List.filter_append]
  by_cases h : fs[k].1 = n
  · rw [if_pos h, List.filter_cons_of_neg (by simpa using h)]; rfl
  · rw [if_neg h, List.filter_cons_of_pos (by simpa using h)]; rfl
theorem without_le (fs : Fs) (n : ByteArray) : (without fs n).length ≤ fs.length := List.length_filter_le _ _
theorem flatMap_snoc (l : Fs) (p : ByteArray × List UInt8) : (l ++ [p]).flatMap fcell = l.flatMap fcell ++ [.string p.1, .string ⟨p.2.toArray⟩] := by
  rw [List.flatMap_append]; simp [fcell]
set_option maxHeartbeats 4000000 in
set_option maxRecDepth 100000 in
theorem without_any (v : Value) (fs : Fs) (n : ByteArray) (w : World) (h : FlRow w v fs) (hl : fs.length ≤ 1000000) :
    Calls Tryz.prog 80 #[v, .string n] w fun e w' => ∃ v', e = .returned v' ∧ FlRow w' v' (without fs n) ∧ Kp [] w w' ∧ ∀ k, v'.ownBlock = some k → w.heap.size ≤ k := by
  obtain ⟨i0, hi, hz0, hz1, hz2⟩ := info_parts info_file
  have HH := hide h
  obtain ⟨rfl, rfl⟩ | ⟨g, cap, rfl, hc, hm⟩ := h.shape
  · clear HH h
    go_enter Tryz.func80, Tryz.ntmps80
    go_wp2
    go_loopw [5, 6] (fun o i wr => o = .slice none 0 0 ∧ i = .int .i64 0 ∧ wr = w) (fun _ _ _ => 0)
    case atStart => exact ⟨rfl, rfl, rfl⟩
    case round =>
      obtain ⟨rfl, rfl, rfl⟩ := hrel
      go_wp2
      go_ret
      exact ⟨_, rfl, FlRow.nil _, Kp.refl _ _, fun k hk => by simp [Value.ownBlock] at hk⟩
  · have hgl : g < w.heap.size := h.lt rfl
    clear h
    go_enter Tryz.func80, Tryz.ntmps80
    go_wp2
    go_loopw [5, 6] (fun o i wr => ∃ (k : Nat) (ov : Value), k ≤ fs.length ∧ i = .int .i64 (k : Int) ∧ ov = o ∧ Hid (FlRow wr (.slice (some ⟨g, 0, none⟩) fs.length cap) fs) ∧ Kp [] w wr ∧ Hid (FlRow wr ov (without (fs.take k) n)) ∧ Hid (∀ j, ov.ownBlock = some j → w.heap.size ≤ j)) (fun _ i _ => fs.length - (intOf i).toNat)
    case atStart => exact ⟨0, _, Nat.zero_le _, rfl, rfl, HH, Kp.refl _ _, hide (FlRow.nil _), hide (fun k hk => by simp [Value.ownBlock] at hk)⟩
    case round =>
      obtain ⟨k, ov, hk, rfl, rfl, HT, hkk, HO, HB⟩ := hrel
      by_cases hlt : k < fs.length
      · have hli : (k : Int) < (fs.length : Int) := by omega
        obtain ⟨c1, c2⟩ := (unhide HT).cell k hlt
        have hst := without_take n hlt
        have hwl := without_le (fs.take k) n
        rw [List.length_take] at hwl
        have hwb : (without (fs.take k) n).length ≤ 1000000 := by omega
        clear hwl
        generalize hfk : fs[k] = q at *
        obtain ⟨qn, qb⟩ := q
        dsimp only at c1 c2 hst
        clear hfk
        generalize hqs : (⟨qb.toArray⟩ : ByteArray) = qs at *
        have HQ := hide hqs
        clear hqs
        by_cases he : qn = n
        · subst he
          rw [if_pos rfl, List.append_nil] at hst
          rw [← hst] at HO
          clear hst hwb
          go_wp2
          go_roundw
          case rel => exact ⟨k + 1, ov, by omega, by go_num, rfl, HT, hkk, HO, HB⟩
          case measure => simp [intOf]; omega
        · have heb := strNe he
          rw [if_neg he] at hst
          have HST := hide hst
          have hown : wr.ownsRow 0 68 2 ov (without (fs.take k) n).length ((without (fs.take k) n).flatMap fcell) := unhide HO
          clear hst he HO
          generalize without (fs.take k) n = TK at *
          go_wp2_with (at_builtin; refine wpList_append_lies _ rfl _ _ 47 rfl 0 68 i0 (.agg #[.string ⟨#[]⟩, .string ⟨#[]⟩]) 2 32 Tryz.underlying47 hi hz0 hz1 hz2 rfl (by decide) ov TK.length (TK.flatMap fcell) rfl (hown.alloc _) ⟨wr.heap.size, 0, none⟩ 1 1 [.string qn, .string qs] rfl rfl (two_cellF _ _ _ _) (by intro u hu; simp at hu; rcases hu with rfl | rfl <;> rfl) (by omega) (by unfold maxLen; omega) (by omega) (by simp) _ rfl ?_; intro g3 cap3 w3 hown' hgrow hat3 hlt3; have HAT := hide hat3; clear hat3)
          have hal := Kp.alloc wr (.cells #[.string qn, .string qs] 68)
          have hz : (wr.alloc (.cells #[.string qn, .string qs] 68)).heap.size = wr.heap.size + 1 := by simp
          have hszw := hkk.size
          have hk3 : Kp [] w w3 := (hkk.trans hal (by simp)).trans (Kp.of hgrow) (fun x hx => Or.inr (unhide HB x (by simpa using hx)))
          have HT3 : Hid (FlRow w3 (.slice (some ⟨g, 0, none⟩) fs.length cap) fs) := hide (((unhide HT).kp hal (by simp)).kp (Kp.of hgrow) (fun k hk hm => by
            have e1 : g = k := by simpa [Value.ownBlock] using hk
            have := unhide HB k (by simpa using hm)
            omega))
          have HO3 : Hid (FlRow w3 (.slice (some ⟨g3, 0, none⟩) (TK.length + 1) cap3) (TK ++ [(qn, qb)])) := hide (by
            unfold FlRow
            rw [List.length_append, flatMap_snoc, unhide HQ]
            exact hown')
          have HB3 : Hid (∀ j, (Value.slice (some ⟨g3, 0, none⟩) (TK.length + 1) cap3).ownBlock = some j → w.heap.size ≤ j) := hide (fun j hj => by
            have e1 : g3 = j := by simpa [Value.ownBlock] using hj
            subst e1
            rcases unhide HAT with h1 | h1
            · exact unhide HB g3 h1
            · rw [hz] at h1; omega)
          rw [← unhide HST] at HO3
          clear hown hown' hgrow HAT hal hz hszw HST
          go_wp2
          go_roundw
          case rel => exact ⟨k + 1, _, by omega, by go_num, rfl, HT3, hk3, HO3, HB3⟩
          case measure => simp [intOf]; omega
      · obtain rfl : k = fs.length := by omega
        rw [List.take_length] at HO
        go_wp2
        go_ret
        exact ⟨_, rfl, unhide HO, hkk, unhide HB⟩
end Go.Proofs.YtboffmbaaokbnaaGreatDoor
