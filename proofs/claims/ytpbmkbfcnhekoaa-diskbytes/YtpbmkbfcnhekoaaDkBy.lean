/-
  A disk of the call's own beside a row of bytes; bytes that are written over one another.
-/
import Derived.Test.YtpbmkbfcnhekoaaAcIn
import Derived.Laws.OwnMore
namespace Go.Proofs.Ytpbmkbfcnhekoaa
open Go.RowKit

/-- A disk of the call's own beside a row of bytes. -/
def OwnB (w0 w : World) (p : Nat) (d : Dk) (v : Value) (bs : List UInt8) : Prop := ∃ F, DiskAt w p d F ∧ Kp [] w0 w ∧ (∀ k ∈ F, w0.heap.size ≤ k) ∧ Row w v bs ∧ ∀ k, v.ownBlock = some k → w0.heap.size ≤ k ∧ k ∉ F
section
variable {w0 w w' : World} {p : Nat} {d d' : Dk} {v : Value} {bs : List UInt8}
theorem OwnB.own (h : OwnB w0 w p d v bs) : OwnD w0 w p d := let ⟨F, a, b, c, _⟩ := h; ⟨F, a, b, c⟩
theorem OwnB.row (h : OwnB w0 w p d v bs) : Row w v bs := let ⟨_, _, _, _, a, _⟩ := h; a
theorem OwnB.kp (h : OwnB w0 w p d v bs) (hk : Kp [] w w') : OwnB w0 w' p d v bs := by
  obtain ⟨F, a, b, c, e, f⟩ := h
  exact ⟨F, a.kp hk (by simp), b.trans hk (by simp), c, e.kp hk (by simp), f⟩
theorem OwnB.step {f : Nat} {args : Array Value} {r : Ending} (h : OwnB w0 w p d v bs) (hc : ∀ F, DiskAt w p d F → Calls Try.prog f args w fun e w' => e = r ∧ Did w F p d' w') : Calls Try.prog f args w fun e w' => e = r ∧ OwnB w0 w' p d' v bs := by
  obtain ⟨F, hd, h1, h2, h6, h7⟩ := h
  refine (hc F hd).mono fun e w' hh => ⟨hh.1, ?_⟩
  obtain ⟨F', hd', h3, h4⟩ := hh.2
  refine ⟨F', hd', h1.trans h3 (fun x hx => Or.inr (h2 x hx)), fun k hk => ?_, h6.kp h3 (fun k hk => (h7 k hk).2), fun k hk => ⟨(h7 k hk).1, fun hm => ?_⟩⟩
  · rcases h4 k hk with h5 | h5
    · exact h2 k h5
    · have := h1.size; omega
  · rcases h4 k hm with h5 | h5
    · exact (h7 k hk).2 h5
    · have := h6.lt hk; omega
theorem byteC_set (l : List UInt8) (j : Nat) (c : UInt8) : byteC (l.set j c) = (byteC l).set j (.int .u8 (c.toNat : Int)) := by
  unfold byteC; exact List.map_set
theorem OwnB.stored {g n cap : Nat} (h : OwnB w0 w p d (.slice (some ⟨g, 0, none⟩) n cap) bs) (hn : n = bs.length) (j : Nat) (c : UInt8) : OwnB w0 (w.setCell ⟨g, j, none⟩ (.int .u8 (c.toNat : Int))) p d (.slice (some ⟨g, 0, none⟩) n cap) (bs.set j c) := by
  subst hn
  obtain ⟨F, hd, h1, h2, h6, h7⟩ := h
  obtain ⟨s1, s2⟩ := World.ownsRow.stored h6 j (.int .u8 (c.toNat : Int))
  have hg := h7 g rfl
  have hk := Kp.of s2
  refine ⟨F, hd.kp hk (fun k hm hn => ?_), h1.trans hk (fun k hm => ?_), h2, ?_, h7⟩
  · simp at hn; subst hn; exact hg.2 hm
  · simp at hm; subst hm; exact Or.inr hg.1
  · unfold Row
    rw [List.length_set, byteC_set]; exact s1
theorem OwnB.pushed {o : Obj} {g m cap : Nat} {c : UInt8} (h : OwnB w0 w p d v bs) (hown : w'.ownsRow 0 5 1 (.slice (some ⟨g, 0, none⟩) m cap) (bs.length + 1) (byteC bs ++ [.int .u8 (c.toNat : Int)])) (hg : (w.alloc o).grownBy w' v.ownBlock) (hat : v.ownBlock = some g ∨ g = (w.alloc o).heap.size) : OwnB w0 w' p d (.slice (some ⟨g, 0, none⟩) m cap) (bs ++ [c]) := by
  obtain ⟨F, hd, h1, h2, h6, h7⟩ := h
  have ha := Kp.alloc w o
  have hz : (w.alloc o).heap.size = w.heap.size + 1 := by simp
  have hk2 := Kp.of hg
  have hs := h1.size
  refine ⟨F, (hd.kp ha (by simp)).kp hk2 (fun k hm hn => (h7 k (by simpa using hn)).2 hm), (h1.trans ha (by simp)).trans hk2 (fun k hm => Or.inr (h7 k (by simpa using hm)).1), h2, ?_, fun k hk => ?_⟩
  · unfold Row
    rw [List.length_append, byteC_append]; exact hown
  · have e1 : g = k := by simpa [Value.ownBlock] using hk
    subst e1
    rcases hat with h3 | h3
    · exact h7 g h3
    · exact ⟨by omega, fun hm => by have := hd.lt g hm; omega⟩
end
/-- A row's first bytes, as a string. -/
theorem Row.stringTo {w : World} {v : Value} {l : List UInt8} (h : Row w v l) (m : Nat) (hm : m ≤ l.length) : (convert 56 9 (toS v m)).run Try.prog w = .ok (.string ⟨(l.take m).toArray⟩) w := by
  obtain ⟨_, ⟨rfl, h0⟩ | ⟨g, cp, cur, rfl, hb, hh, hn, hm1, hs, htk⟩⟩ := id h
  · obtain rfl : l = [] := List.eq_nil_of_length_eq_zero h0
    obtain rfl : m = 0 := by simpa using hm
    exact run_convert_bytes_nil w 56 5 Try.underlying56 Try.underlying5 0 0 9 Try.underlying9
  · have hml : (l.take m).length = m := by simp [hm]
    have := run_convert_bytes_arg (P := Try.prog) w 56 5 Try.underlying56 Try.underlying5 g 0 m cp ((l.take m).map fun b => (b.toNat : Int)) (by simp [hm]) (fun i hi => by
      rw [Nat.zero_add]
      have hil : i < l.length := by omega
      have c := World.ownsRow.cellAt h i (by omega)
      rw [c]
      unfold byteC
      have : i < (l.take m).length := by omega
      simp [List.getD, hi, hil]) 9 Try.underlying9
    rw [strOf_bytes] at this
    exact this
theorem over_zero (l : List UInt8) (pos : Nat) : over l pos [] = l := by unfold over; simp
theorem over_set (l s : List UInt8) (pos k : Nat) (hk : k < s.length) (h : pos + k < l.length) : (over l pos (s.take k)).set (pos + k) s[k] = over l pos (s.take (k + 1)) := by
  have h1 : (s.take k).length = k := by simp; omega
  have h2 : (s.take (k + 1)).length = k + 1 := by simp; omega
  have h3 : (l.take pos).length = pos := by simp; omega
  unfold over
  rw [h1, h2, List.set_append_right _ _ (by simp; omega), List.length_append, h3, h1, Nat.sub_self]
  rw [List.drop_eq_getElem_cons h, List.set_cons_zero, show s.take (k + 1) = s.take k ++ [s[k]] from List.take_succ_eq_append_getElem hk]
  simp only [List.append_assoc, List.singleton_append, Nat.add_assoc]
theorem over_app (l s : List UInt8) (pos k : Nat) (hk : k < s.length) (h : ¬ (pos + k < l.length)) : over l pos (s.take k) ++ [s[k]] = over l pos (s.take (k + 1)) := by
  have h1 : (s.take k).length = k := by simp; omega
  have h2 : (s.take (k + 1)).length = k + 1 := by simp; omega
  unfold over
  rw [h1, h2, List.drop_of_length_le (by omega), List.drop_of_length_le (by omega), List.take_succ_eq_append_getElem hk]
  simp
/-- A disk with no file but a. -/
structure By (d : Dk) (l : List UInt8) (j : Nat) : Prop where
  fine : d.left = -1 ∧ d.down = false
  now : (d.now = [] ∧ d.wait = [] ∧ l = []) ∨ (d.now = [(⟨#[97]⟩, l)] ∧ d.wait ≠ [])
  few : d.wait.length ≤ j
  len : l.length ≤ 200 * j
theorem By.new : By Dk.new [] 0 := ⟨⟨rfl, rfl⟩, Or.inl ⟨rfl, rfl, rfl⟩, Nat.le_refl _, Nat.le_refl _⟩
section
variable {d : Dk} {l : List UInt8} {j : Nat} (h : By d l j)
include h
theorem By.skip : By d l (j + 1) := ⟨h.fine, h.now, by have := h.few; omega, by have := h.len; omega⟩
theorem By.has : hasF d.now ⟨#[97]⟩ = l := by
  rcases h.now with ⟨h1, _, h2⟩ | ⟨h1, _⟩
  · rw [h1, h2]; rfl
  · rw [h1]; rfl
theorem By.tot : total d.now = l.length := by
  rcases h.now with ⟨h1, _, h2⟩ | ⟨h1, _⟩
  · rw [h1, h2]; rfl
  · rw [h1]; simp [total]
theorem By.one : d.now.length ≤ 1 := by
  rcases h.now with ⟨h1, _, h2⟩ | ⟨h1, _⟩ <;> rw [h1] <;> simp
theorem By.ready : d.readyB = true ∧ d.ready = d := by
  obtain ⟨sf, nw, wt, left, down⟩ := d
  obtain ⟨h1, h2⟩ := h.fine
  dsimp only at h1 h2
  subst h1 h2
  exact ⟨rfl, rfl⟩
theorem By.do_ (hj : j ≤ 60) (c : Chg) : d.doE = 0 ∧ d.doD c = ⟨d.safe, made d.now c, d.wait ++ [c], d.left, d.down⟩ := by
  have := h.few
  have h10 : ¬ (1024 ≤ d.wait.length) := by omega
  refine ⟨?_, ?_⟩
  · unfold Dk.doE
    rw [if_neg h10, if_pos h.ready.1]
  · unfold Dk.doD
    rw [if_neg h10, if_pos h.ready.1, h.ready.2]
theorem By.wrote (pos : Nat) (s : ByteArray) : made d.now (.wr ⟨#[97]⟩ pos s) = [(⟨#[97]⟩, over l pos s.data.toList)] := by
  show withF d.now ⟨#[97]⟩ (over (hasF d.now ⟨#[97]⟩) pos s.data.toList) = _
  rw [h.has]
  rcases h.now with ⟨h1, _, h2⟩ | ⟨h1, _⟩ <;> rw [h1] <;> rfl
theorem By.write (hj : j < 60) (pos : Nat) (hp : pos ≤ l.length) (s : ByteArray) (hs : s.size ≤ 200) : d.wrE ⟨#[97]⟩ (pos : Int) s = 0 ∧ By (d.wrD ⟨#[97]⟩ (pos : Int) s) (over l pos s.data.toList) (j + 1) ∧ (d.wrD ⟨#[97]⟩ (pos : Int) s).wait ≠ [] := by
  have hlen := h.len
  have h1 := h.one
  have hbad : d.badW ⟨#[97]⟩ (pos : Int) s = 0 := by
    unfold Dk.badW
    rw [if_neg (by decide), h.has, if_neg (by omega), if_neg]
    unfold Dk.fullW Dk.grows
    rw [h.has, h.tot]
    simp only [Bool.or_eq_true, decide_eq_true_eq, Bool.and_eq_true, not_or, not_and]
    refine ⟨?_, fun _ => ?_⟩
    · rw [Int.not_lt]; omega
    · omega
  obtain ⟨e1, e2⟩ := h.do_ (by omega) (.wr ⟨#[97]⟩ pos s)
  have e3 : d.wrD ⟨#[97]⟩ (pos : Int) s = ⟨d.safe, [(⟨#[97]⟩, over l pos s.data.toList)], d.wait ++ [.wr ⟨#[97]⟩ pos s], d.left, d.down⟩ := by
    unfold Dk.wrD
    rw [if_pos hbad, Int.toNat_natCast, e2, h.wrote]
  refine ⟨by unfold Dk.wrE; rw [if_pos hbad, e1], ?_, by rw [e3]; simp⟩
  rw [e3]
  refine ⟨h.fine, Or.inr ⟨rfl, by simp⟩, by have := h.few; simp; omega, ?_⟩
  rw [over_len l pos _ hp]
  have : s.data.toList.length = s.size := Array.length_toList
  omega
theorem By.file (hw : d.wait ≠ []) : d.now = [(⟨#[97]⟩, l)] := by
  rcases h.now with ⟨_, h1, _⟩ | ⟨h1, _⟩
  · exact absurd h1 hw
  · exact h1
theorem By.badN (hw : d.wait ≠ []) : d.badN ⟨#[97]⟩ = 0 := badN_0 (by decide) (by rw [h.file hw]; rfl)
theorem By.read (hw : d.wait ≠ []) : d.rdE ⟨#[97]⟩ = 0 ∧ d.rdS ⟨#[97]⟩ = ⟨l.toArray⟩ := by
  refine ⟨h.badN hw, ?_⟩
  unfold Dk.rdS
  rw [if_pos (h.badN hw), h.has]
theorem By.cut (hw : d.wait ≠ []) (hj : j ≤ 60) (m : Nat) (hm : m ≤ l.length) : d.ctE ⟨#[97]⟩ (m : Int) = 0 ∧ (d.ctD ⟨#[97]⟩ (m : Int)).rdE ⟨#[97]⟩ = 0 ∧ (d.ctD ⟨#[97]⟩ (m : Int)).rdS ⟨#[97]⟩ = ⟨(l.take m).toArray⟩ := by
  have hbad : d.badC ⟨#[97]⟩ (m : Int) = 0 := by
    unfold Dk.badC
    rw [if_pos (h.badN hw), h.has, if_neg (by omega)]
  obtain ⟨e1, e2⟩ := h.do_ hj (.ct ⟨#[97]⟩ m)
  have hmade : made d.now (.ct ⟨#[97]⟩ m) = [(⟨#[97]⟩, l.take m)] := by
    show withF d.now ⟨#[97]⟩ ((hasF d.now ⟨#[97]⟩).take m) = _
    rw [h.has, h.file hw]; rfl
  have e3 : d.ctD ⟨#[97]⟩ (m : Int) = ⟨d.safe, [(⟨#[97]⟩, l.take m)], d.wait ++ [.ct ⟨#[97]⟩ m], d.left, d.down⟩ := by
    unfold Dk.ctD
    rw [if_pos hbad, Int.toNat_natCast, e2, hmade]
  have b : By (d.ctD ⟨#[97]⟩ (m : Int)) (l.take m) (j + 1) := by
    rw [e3]
    exact ⟨h.fine, Or.inr ⟨rfl, by simp⟩, by have := h.few; simp; omega, by have := h.len; simp; omega⟩
  have hw2 : (d.ctD ⟨#[97]⟩ (m : Int)).wait ≠ [] := by rw [e3]; simp
  exact ⟨by unfold Dk.ctE; rw [if_pos hbad, e1], b.read hw2⟩
end
end Go.Proofs.Ytpbmkbfcnhekoaa
