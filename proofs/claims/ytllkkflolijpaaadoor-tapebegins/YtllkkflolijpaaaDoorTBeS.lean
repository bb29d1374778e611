/-
  TapeBegins: a tape and the law's row of what may be on it.
-/
import Derived.Test.YtllkkflolijpaaaDoorTBeQ
import Derived.Test.YtllkkflolijpaaaDoorGoIn
namespace Go.Proofs.YtllkkflolijpaaaDoor
open Go.RowKit

theorem OwnsS.ne' {w : World} {B : Nat} {v : Value} {ts : List (List UInt8)} (h : OwnsS B w v ts) {t : Nat} {cs : Array Value} {ty : TypeId} (hb : CBox t cs ty w) (hty : ty ≠ 9) : ∀ k, v.ownBlock = some k → k ≠ t := fun k hk e => by
  obtain ⟨_, _, cur, hc⟩ := h.block hk
  subst e
  have hb2 : w.heap[k]? = _ := hb
  rw [hc] at hb2
  injection hb2 with e; injection e with _ e; exact hty e.symm
/-- Within a stretch. -/
structure BgS (w0 w : World) (p t : Nat) (d : Dk) (v mv : Value) (base xs : List (List UInt8)) : Prop where
  own : OwnT w0 w p d t ⟨#[108, 111, 103]⟩ v (base ++ xs)
  row : Txs w mv (base ++ xs)
  bg : Bg d base xs
  low : ∀ k, mv.ownBlock = some k → w0.heap.size ≤ k
  dis : ∀ k, mv.ownBlock = some k → v.ownBlock ≠ some k
  nn : mv ≠ .slice none 0 0
section
variable {w0 w w' : World} {p t : Nat} {d : Dk} {v mv : Value} {base xs : List (List UInt8)}
theorem BgS.kp (h : BgS w0 w p t d v mv base xs) (hk : Kp [] w w') : BgS w0 w' p t d v mv base xs := { h with own := h.own.kp hk, row := h.row.kp hk (by simp) }
theorem BgS.sync (h : BgS w0 w p t d v mv base xs) : Calls Tryd.prog 9 #[.pointer (some ⟨t, 0, none⟩)] w fun r w' => (r = .returned (.int .i64 0) ∧ ∃ d', BgS w0 w' p t d' v mv (base ++ xs) []) ∨ (r = .returned (.int .i64 31) ∧ ∃ d', BgS w0 w' p t d' v mv base xs) := by
  obtain ⟨s1, s2⟩ := h.bg.sync
  refine h.own.sync.mono fun r w' ⟨h1, h2, h3⟩ => ?_
  cases hr : d.readyB with
  | true =>
    obtain ⟨e1, e2⟩ := s1 hr
    rw [e1] at h1
    exact Or.inl ⟨h1, _, by rw [List.append_nil]; exact h2, by rw [List.append_nil]; exact h.row.oth h3 (by simp), e2, h.low, h.dis, h.nn⟩
  | false =>
    obtain ⟨e1, e2⟩ := s2 hr
    rw [e1] at h1
    exact Or.inr ⟨h1, _, h2, h.row.oth h3 (by simp), e2, h.low, h.dis, h.nn⟩
theorem BgS.append (h : BgS w0 w p t d v mv base xs) (hT : TabW w0) (s : ByteArray) (hs : s.size ≤ 500) (hf : (base ++ xs).length < 400) (hx : xs.length < 100) :
    Calls Tryd.prog 13 #[.pointer (some ⟨t, 0, none⟩), .string s] w fun r w' =>
      (r = .returned (.int .i64 0) ∧ ∃ v' d', Txs w' mv (base ++ xs) ∧ (∀ g cap w2, w2.ownsRow 0 9 1 (.slice (some ⟨g, 0, none⟩) ((base ++ xs).length + 1) cap) ((base ++ xs).length + 1) (textC (base ++ xs) ++ [.string s]) → (w'.alloc (.cells #[.string s] 9)).grownBy w2 mv.ownBlock → (mv.ownBlock = some g ∨ g = (w'.alloc (.cells #[.string s] 9)).heap.size) → BgS w0 w2 p t d' v' (.slice (some ⟨g, 0, none⟩) ((base ++ xs).length + 1) cap) base (xs ++ [s.data.toList]))) ∨
      (r = .returned (.int .i64 31) ∧ ∃ d', BgS w0 w' p t d' v mv base xs) := by
  obtain ⟨s1, s2⟩ := h.bg.append s hs hf hx
  refine (h.own.append s hT (by omega) (by omega)).mono fun r w' hh => ?_
  cases hr : d.readyB with
  | true =>
    obtain ⟨e1, e2⟩ := s1 hr
    rcases hh with ⟨_, h1, v', h2, h3, h4⟩ | ⟨h1, _⟩
    · have hrow : Txs w' mv (base ++ xs) := h.row.oth h3 (fun k hk => by
        rw [List.mem_cons]
        rintro (e | e)
        · exact h.row.ne' h.own.at.box (by decide) k hk e
        · exact h.dis k hk (by simpa using e))
      have hv'm : ∀ k, v'.ownBlock = some k → mv.ownBlock ≠ some k := fun k hk he => by
        rcases h4 with h5 | h5
        · exact h.dis k he (by rw [← h5]; exact hk)
        · have := h5 k hk
          have := (h.row.block he).2.1
          omega
      refine Or.inl ⟨h1, v', d.apD ⟨#[108, 111, 103]⟩ s, hrow, fun g cap w2 g1 g2 g3 => ?_⟩
      have hz : (w'.alloc (.cells #[.string s] 9)).heap.size = w'.heap.size + 1 := by simp
      have hk2 : Kp mv.ownBlock.toList w' w2 := ((Kp.alloc w' (.cells #[.string s] 9)).mono (by simp)).trans (Kp.of g2) (fun x hx => Or.inl hx)
      have hown : OwnT w0 w2 p (d.apD ⟨#[108, 111, 103]⟩ s) t ⟨#[108, 111, 103]⟩ v' (base ++ xs ++ [s.data.toList]) := by
        obtain ⟨F, hd, ht, q1, q2, q3⟩ := h2
        refine ⟨F, hd.kp hk2 (fun m hm hx => ?_), ht.kp hk2 (fun hx => ?_) (fun m hm hx => ?_), q1.trans hk2 (fun x hx => Or.inr (h.low x (by simpa using hx))), q2, q3⟩
        · obtain ⟨_, _, cur, hc⟩ := hrow.block (by simpa using hx)
          exact hd.no hc (by decide) (by decide) (by decide) hm
        · exact hrow.ne' ht.box (by decide) t (by simpa using hx) rfl
        · exact hv'm m hm (by simpa using hx)
      refine ⟨by rw [← List.append_assoc]; exact hown, ?_, e2, fun k hk => ?_, fun k hk he => ?_, by simp⟩
      · rw [← List.append_assoc]
        clear hown e1 e2 h2 hv'm hrow hk2 h s1 s2
        generalize base ++ xs = A at *
        unfold Txs OwnsS
        rw [List.length_append, textC_append]
        have e : textC [s.data.toList] = [.string s] := by simp [textC]
        rw [e]
        exact g1
      · have e1 : g = k := by simpa [Value.ownBlock] using hk
        rcases g3 with g4 | g4
        · exact h.low k (by rw [g4, e1])
        · have := h2.bel.size; omega
      · have e1 : g = k := by simpa [Value.ownBlock] using hk
        rcases g3 with g4 | g4
        · exact hv'm k he (by rw [g4, e1])
        · have := (h2.at.row.block he).2.1; omega
    · exact absurd e1 h1
  | false =>
    obtain ⟨e1, e2⟩ := s2 hr
    rcases hh with ⟨h1, _⟩ | ⟨_, h1, h2, h3⟩
    · rw [e1] at h1; exact absurd h1 (by decide)
    · rw [e1] at h1
      exact Or.inr ⟨h1, _, h2, h.row.oth h3 (by simp), e2, h.low, h.dis, h.nn⟩
/-- A stretch's end: the crash. -/
theorem BgS.crash (h : BgS w0 w p t d v mv base xs) (k u : Int) (hu : u ≤ 9223372036854775807) : Calls Tryd.prog 14 #[.pointer (some ⟨p, 0, none⟩), .int .i64 k, .int .i64 u] w fun e w' => e = .returned (.tuple #[]) ∧ OwnD w0 w' p (d.crash k u) ∧ Txs w' mv (base ++ xs) :=
  (h.own.crash k u hu).mono fun e w' ⟨h1, h2, h3⟩ => ⟨h1, h2.own, h.row.oth h3 (by simp)⟩
end
/-- Between two stretches. -/
structure HdS (w0 w : World) (p : Nat) (d : Dk) (hv : Value) (ts : List (List UInt8)) (i : Nat) : Prop where
  own : OwnD w0 w p d
  row : Txs w hv ts
  low : ∀ k, hv.ownBlock = some k → w0.heap.size ≤ k
  st : St d ts i
section
variable {w0 w w' : World} {p t : Nat} {d : Dk} {v hv mv : Value} {ts base xs : List (List UInt8)} {i : Nat}
theorem HdS.open (h : HdS w0 w p d hv ts i) (hT : TabW w0) : Calls Tryd.prog 8 #[.pointer (some ⟨p, 0, none⟩), .string ⟨#[108, 111, 103]⟩] w fun r w' => ∃ t v, r = .returned (.tuple #[.pointer (some ⟨t, 0, none⟩), .int .i64 0]) ∧ OwnT w0 w' p d t ⟨#[108, 111, 103]⟩ v ts ∧ Txs w' hv ts := by
  obtain ⟨o1, o2, o3⟩ := h.st.open
  have := h.own.topenOk (n := ⟨#[108, 111, 103]⟩) hT (by decide) o1
  rw [o2, o3] at this
  exact this.mono fun r w' ⟨t, v, g1, g2, g3, _⟩ => ⟨t, v, g1, g2, h.row.oth g3 (by simp)⟩
/-- The tape behind a crash. -/
theorem BgS.reopen (hb : Bg d base xs) {k u : Int} (ho : OwnD w0 w p (d.crash k u)) (hr : Txs w mv (base ++ xs)) (hlow : ∀ k, mv.ownBlock = some k → w0.heap.size ≤ k) (hT : TabW w0) (hn : (base ++ xs).length ≤ 20 * (i + 1)) :
    Calls Tryd.prog 8 #[.pointer (some ⟨p, 0, none⟩), .string ⟨#[108, 111, 103]⟩] w fun r w' => ∃ t v d2 m, r = .returned (.tuple #[.pointer (some ⟨t, 0, none⟩), .int .i64 0]) ∧ base.length ≤ m ∧ m ≤ (base ++ xs).length ∧ TpAt w' t p ⟨#[108, 111, 103]⟩ v ((base ++ xs).take m) ∧ Txs w' mv (base ++ xs) ∧ HdS w0 w' p d2 (preS mv m) ((base ++ xs).take m) (i + 1) := by
  obtain ⟨k1, hk1, o1, o2, o3⟩ := hb.next k u hn
  have e : base ++ xs.take k1 = (base ++ xs).take (base.length + k1) := by rw [List.take_append, show List.take (base.length + k1) base = base from List.take_of_length_le (by omega), Nat.add_sub_cancel_left]
  have hm : base.length + k1 ≤ (base ++ xs).length := by rw [List.length_append]; omega
  have := ho.topenOk (n := ⟨#[108, 111, 103]⟩) hT (by decide) o1
  rw [o2, e] at this
  rw [e] at o3
  refine this.mono fun r w' ⟨t, v, g1, g2, g3, _⟩ => ⟨t, v, _, base.length + k1, g1, by omega, hm, g2.at, hr.oth g3 (by simp), g2.own, Txs.pre (hr.oth g3 (by simp)) _ hm, fun q hq => hlow q (by rw [preS_block] at hq; exact hq), o3⟩
/-- A stretch's beginning: the row of what may be on the tape is a copy. -/
theorem beg_start {w2 : World} {hv v' : Value} (ho : OwnT w0 w p d t ⟨#[108, 111, 103]⟩ v ts) (hb : Bg d ts []) (_hr : Txs w hv ts)
    (h1 : Txs w2 v' ([] ++ ts)) (h2 : (w.alloc (.cells #[] 9)).grownBy w2 (Value.slice (some ⟨w.heap.size, 0, none⟩) 0 0).ownBlock) (h3 : v'.ownBlock = (Value.slice (some ⟨w.heap.size, 0, none⟩) 0 0).ownBlock ∨ v'.ownBlock = some (w.alloc (.cells #[] 9)).heap.size) (h4 : v' ≠ .slice none 0 0) : BgS w0 w2 p t d v v' ts [] := by
  have hz : (w.alloc (.cells #[] 9)).heap.size = w.heap.size + 1 := by simp
  have hk := ho.bel.size
  have hk2 : Kp [] w w2 := (Kp.alloc w (.cells #[] 9)).trans (Kp.of h2) (fun x hx => Or.inr (by
    have : x = w.heap.size := by simpa [Value.ownBlock] using hx
    omega))
  have hblk : ∀ k, v'.ownBlock = some k → w.heap.size ≤ k := fun k hk => by
    rcases h3 with h5 | h5
    · rw [h5] at hk
      have : w.heap.size = k := by simpa [Value.ownBlock] using hk
      omega
    · rw [h5] at hk
      have := Option.some.inj hk
      omega
  refine ⟨by rw [List.append_nil]; exact ho.kp hk2, by rw [List.append_nil]; exact h1, hb, fun k hk => by have := hblk k hk; omega, fun k hk he => ?_, h4⟩
  have := hblk k hk
  have := (ho.at.row.block he).2.1
  omega
end
end Go.Proofs.YtllkkflolijpaaaDoor
