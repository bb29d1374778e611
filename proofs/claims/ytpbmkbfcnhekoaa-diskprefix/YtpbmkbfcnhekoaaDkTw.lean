/-
  Two disks of the call's own beside a row of rows of texts; what the disk had behind each change.
-/
import Derived.Test.YtpbmkbfcnhekoaaDkGr
namespace Go.Proofs.Ytpbmkbfcnhekoaa
open Go.RowKit

theorem rowKp {F : List Nat} {e n : Nat} {xs : List Value} {w w' : World} {v : Value} (h : w.ownsRow 0 e 1 v n xs) (hk : Kp F w w') (hF : ∀ k, v.ownBlock = some k → k ∉ F) : w'.ownsRow 0 e 1 v n xs := by
  obtain ⟨h1, h2 | ⟨g, cp, cur, rfl, hb, hh, r⟩⟩ := h
  · exact ⟨h1, Or.inl h2⟩
  · exact ⟨h1, Or.inr ⟨g, cp, cur, rfl, hb, (hk.block g (Array.getElem?_eq_some_iff.1 hh).1 (hF g rfl)).trans hh, r⟩⟩
theorem TxRow.form {w : World} {v : Value} {ts : List ByteArray} (h : TxRow w v ts) : ∃ ad cap, v = .slice ad ts.length cap := by
  obtain ⟨_, ⟨rfl, h0⟩ | ⟨g, cap, cur, rfl, _⟩⟩ := h
  · exact ⟨none, 0, by rw [h0]⟩
  · exact ⟨_, _, rfl⟩
/-- Rows of texts lie in a row of their own. -/
structure Rws (w : World) (v : Value) (vs : List Value) (ts : List (List ByteArray)) (R : List Nat) : Prop where
  row : w.ownsRow 0 45 1 v vs.length vs
  len : vs.length = ts.length
  inn : ∀ (j : Nat) (x : Value) (t : List ByteArray), vs[j]? = some x → ts[j]? = some t → TxRow w x t
  bo : ∀ k, v.ownBlock = some k → k ∈ R
  bi : ∀ x ∈ vs, ∀ k, x.ownBlock = some k → k ∈ R ∧ v.ownBlock ≠ some k
  lt : ∀ k ∈ R, k < w.heap.size
theorem Rws.kp {F : List Nat} {w w' : World} {v : Value} {vs : List Value} {ts : List (List ByteArray)} {R : List Nat} (h : Rws w v vs ts R) (hk : Kp F w w') (hF : ∀ k ∈ R, k ∉ F) : Rws w' v vs ts R :=
  ⟨rowKp h.row hk (fun k hv => hF k (h.bo k hv)), h.len, fun j x t hx ht => (h.inn j x t hx ht).kp hk (fun k hv => hF k (h.bi x (List.mem_of_getElem? hx) k hv).1), h.bo, h.bi, fun k hm => Nat.lt_of_lt_of_le (h.lt k hm) hk.size⟩
theorem Rws.cell {w : World} {g cap : Nat} {vs : List Value} {ts : List (List ByteArray)} {R : List Nat} (h : Rws w (.slice (some ⟨g, 0, none⟩) vs.length cap) vs ts R) (i : Nat) (hi : i < vs.length) : w.cell? ⟨g, i, none⟩ = some vs[i] := by
  rw [World.ownsRow.cellAt h.row i (by omega)]
  simp [hi]
theorem Rws.shape {w : World} {v : Value} {vs : List Value} {ts : List (List ByteArray)} {R : List Nat} (h : Rws w v vs ts R) (hv : 0 < vs.length) : ∃ g cap, v = .slice (some ⟨g, 0, none⟩) vs.length cap ∧ cap ≤ 9223372036854775807 := by
  obtain ⟨_, ⟨rfl, h0⟩ | ⟨g, cap, cur, rfl, _, _, _, hm, _⟩⟩ := h.row
  · omega
  · exact ⟨g, cap, rfl, by unfold maxLen at hm; omega⟩
/-- Two disks, and rows of texts. -/
def Two (w0 w : World) (p q : Nat) (d e : Dk) (v : Value) (vs : List Value) (ts : List (List ByteArray)) : Prop :=
  ∃ F G R, DiskAt w p d F ∧ DiskAt w q e G ∧ Rws w v vs ts R ∧ Kp [] w0 w ∧ (∀ k ∈ F, w0.heap.size ≤ k ∧ k ∉ G ∧ k ∉ R) ∧ (∀ k ∈ G, w0.heap.size ≤ k ∧ k ∉ R) ∧ (∀ k ∈ R, w0.heap.size ≤ k)
def TwoX (w0 w : World) (p q : Nat) (d e : Dk) (v : Value) (vs : List Value) (ts : List (List ByteArray)) (x : Value) (t : List ByteArray) : Prop :=
  ∃ F G R, DiskAt w p d F ∧ DiskAt w q e G ∧ Rws w v vs ts R ∧ Kp [] w0 w ∧ (∀ k ∈ F, w0.heap.size ≤ k ∧ k ∉ G ∧ k ∉ R) ∧ (∀ k ∈ G, w0.heap.size ≤ k ∧ k ∉ R) ∧ (∀ k ∈ R, w0.heap.size ≤ k) ∧ TxRow w x t ∧ ∀ k, x.ownBlock = some k → w0.heap.size ≤ k ∧ k ∉ F ∧ k ∉ G ∧ k ∉ R
section
variable {w0 w w' : World} {p q : Nat} {d e : Dk} {v : Value} {vs : List Value} {ts : List (List ByteArray)}
theorem Two.bel (h : Two w0 w p q d e v vs ts) : Kp [] w0 w := let ⟨_, _, _, _, _, _, h1, _⟩ := h; h1
theorem Two.inv (h : Two w0 w p q d e v vs ts) : Inv d := let ⟨_, _, _, h1, _⟩ := h; h1.inv
theorem Two.rows (h : Two w0 w p q d e v vs ts) : ∃ R, Rws w v vs ts R := let ⟨_, _, R, _, _, h1, _⟩ := h; ⟨R, h1⟩
theorem Two.kp (h : Two w0 w p q d e v vs ts) (hk : Kp [] w w') : Two w0 w' p q d e v vs ts := by
  obtain ⟨F, G, R, a, b, c, e1, f, g, i⟩ := h
  exact ⟨F, G, R, a.kp hk (by simp), b.kp hk (by simp), c.kp hk (by simp), e1.trans hk (by simp), f, g, i⟩
theorem Two.waiting (h : Two w0 w p q d e v vs ts) : Calls Try.prog 15 #[.pointer (some ⟨p, 0, none⟩)] w fun e w' => e = .returned (.int .i64 (d.wait.length : Int)) ∧ w' = w := let ⟨F, _, _, hd, _⟩ := h; waiting_any p d F w hd
theorem Two.left {d' : Dk} {f : Nat} {args : Array Value} {r : Ending} (h : Two w0 w p q d e v vs ts) (hc : ∀ F, DiskAt w p d F → Calls Try.prog f args w fun e w' => e = r ∧ Did w F p d' w') : Calls Try.prog f args w fun e1 w' => e1 = r ∧ Two w0 w' p q d' e v vs ts := by
  obtain ⟨F, G, R, hd, he, hr, hk, hF, hG, hR⟩ := h
  refine (hc F hd).mono fun e1 w' hh => ⟨hh.1, ?_⟩
  obtain ⟨F', hd', h3, h4⟩ := hh.2
  refine ⟨F', G, R, hd', he.kp h3 (fun k hk hm => (hF k hm).2.1 hk), hr.kp h3 (fun k hk hm => (hF k hm).2.2 hk), hk.trans h3 (fun x hx => Or.inr (hF x hx).1), fun k hk1 => ?_, hG, hR⟩
  rcases h4 k hk1 with h5 | h5
  · exact hF k h5
  · have := hk.size
    exact ⟨by omega, fun hm => by have := he.lt k hm; omega, fun hm => by have := hr.lt k hm; omega⟩
theorem Two.leftA {d' : Dk} {f : Nat} {args : Array Value} {r : Ending} (cs : Array Value) (t : TypeId) (h : Two w0 w p q d e v vs ts) (hc : ∀ F, DiskAt (w.alloc (.cells cs t)) p d F → Calls Try.prog f args (w.alloc (.cells cs t)) fun e w' => e = r ∧ Did (w.alloc (.cells cs t)) F p d' w') : Calls Try.prog f args (w.alloc (.cells cs t)) fun e1 w' => e1 = r ∧ Two w0 w' p q d' e v vs ts ∧ CBox w.heap.size cs t w' := by
  obtain ⟨F, G, R, hd, he, hr, hk, hF, hG, hR⟩ := h
  have ha := Kp.alloc w (.cells cs t)
  refine (hc F (hd.kp ha (by simp))).mono fun e1 w' hh => ⟨hh.1, ?_⟩
  obtain ⟨F', hd', h3, h4⟩ := hh.2
  have hs := ha.size
  have hk2 := hk.trans ha (by simp)
  refine ⟨⟨F', G, R, hd', (he.kp ha (by simp)).kp h3 (fun k hk hm => (hF k hm).2.1 hk), (hr.kp ha (by simp)).kp h3 (fun k hk hm => (hF k hm).2.2 hk), hk2.trans h3 (fun x hx => Or.inr (hF x hx).1), fun k hk1 => ?_, hG, hR⟩, (CBox.new w cs t).kp h3 (fun hm => by have := hd.lt _ hm; omega)⟩
  rcases h4 k hk1 with h5 | h5
  · exact hF k h5
  · have := hk.size
    exact ⟨by omega, fun hm => by have := he.lt k hm; omega, fun hm => by have := hr.lt k hm; omega⟩
theorem Two.right {e' : Dk} {f : Nat} {args : Array Value} {r : Ending} (h : Two w0 w p q d e v vs ts) (hc : ∀ F, DiskAt w q e F → Calls Try.prog f args w fun e1 w' => e1 = r ∧ Did w F q e' w') : Calls Try.prog f args w fun e1 w' => e1 = r ∧ Two w0 w' p q d e' v vs ts := by
  obtain ⟨F, G, R, hd, he, hr, hk, hF, hG, hR⟩ := h
  refine (hc G he).mono fun e1 w' hh => ⟨hh.1, ?_⟩
  obtain ⟨G', he', h3, h4⟩ := hh.2
  refine ⟨F, G', R, hd.kp h3 (fun k hk hm => (hF k hk).2.1 hm), he', hr.kp h3 (fun k hk hm => (hG k hm).2 hk), hk.trans h3 (fun x hx => Or.inr (hG x hx).1), fun k hk1 => ⟨(hF k hk1).1, fun hm => ?_, (hF k hk1).2.2⟩, fun k hk1 => ?_, hR⟩
  · rcases h4 k hm with h5 | h5
    · exact (hF k hk1).2.1 h5
    · have := hd.lt k hk1; omega
  · rcases h4 k hk1 with h5 | h5
    · exact hG k h5
    · have := hk.size
      exact ⟨by omega, fun hm => by have := hr.lt k hm; omega⟩
theorem Two.all (h : Two w0 w p q d e v vs ts) : Calls Try.prog 23 #[.pointer (some ⟨p, 0, none⟩)] w fun e1 w' => ∃ x, e1 = .returned x ∧ TwoX w0 w' p q d e v vs ts x (alL d.now) := by
  obtain ⟨F, G, R, hd, he, hr, hk, hF, hG, hR⟩ := h
  refine (all_any p d F w hd).mono ?_
  rintro e1 w' ⟨x, rfl, hT, hk1, hx⟩
  refine ⟨x, rfl, F, G, R, hd.kp hk1 (by simp), he.kp hk1 (by simp), hr.kp hk1 (by simp), hk.trans hk1 (by simp), hF, hG, hR, hT, fun k hv => ?_⟩
  have h1 := hx k hv
  have h2 := hk.size
  exact ⟨by omega, fun hm => by have := hd.lt k hm; omega, fun hm => by have := he.lt k hm; omega, fun hm => by have := hr.lt k hm; omega⟩
theorem Two.allR (h : Two w0 w p q d e v vs ts) : Calls Try.prog 23 #[.pointer (some ⟨q, 0, none⟩)] w fun e1 w' => ∃ x, e1 = .returned x ∧ Two w0 w' p q d e v vs ts ∧ TxRow w' x (alL e.now) := by
  obtain ⟨F, G, R, hd, he, hr, hk, hF, hG, hR⟩ := h
  refine (all_any q e G w he).mono ?_
  rintro e1 w' ⟨x, rfl, hT, hk1, hx⟩
  exact ⟨x, rfl, ⟨F, G, R, hd.kp hk1 (by simp), he.kp hk1 (by simp), hr.kp hk1 (by simp), hk.trans hk1 (by simp), hF, hG, hR⟩, hT⟩
theorem Two.cell {g cap : Nat} (h : Two w0 w p q d e (.slice (some ⟨g, 0, none⟩) vs.length cap) vs ts) {m : Nat} {y : Value} (hy : vs[m]? = some y) : w.cell? ⟨g, m, none⟩ = some y := by
  obtain ⟨R, hR⟩ := h.rows
  obtain ⟨hm, rfl⟩ := List.getElem?_eq_some_iff.1 hy
  exact hR.cell m hm
theorem Two.same (h : Two w0 w p q d e v vs ts) {m : Nat} {x y : Value} (hy : vs[m]? = some y) (ht : ts[m]? = some (alL e.now)) (hx : TxRow w x (alL e.now)) :
    Calls Try.prog 24 #[x, y] w fun e w' => e = .returned (.bool true) ∧ Kp [] w w' := by
  obtain ⟨F, G, R, hd, he, hr, _⟩ := h
  refine sameTx_any x y _ w hx (hr.inn m y _ hy ht) ?_
  have h1 : (alL e.now).length = 2 * (nmL e.now).length := alL_len e.now (nmL e.now)
  rw [nmL_len] at h1
  have := he.inv.now.1.2
  omega
theorem TwoX.row {x : Value} {t : List ByteArray} (h : TwoX w0 w p q d e v vs ts x t) : w.ownsRow 0 45 1 v vs.length vs := let ⟨_, _, _, _, _, h1, _⟩ := h; h1.row
theorem TwoX.form {x : Value} {t : List ByteArray} (h : TwoX w0 w p q d e v vs ts x t) : ∃ ad n cap, x = .slice ad n cap := by
  obtain ⟨_, _, _, _, _, _, _, _, _, _, h1, _⟩ := h
  obtain ⟨ad, cap, e⟩ := h1.form
  exact ⟨ad, _, cap, e⟩
theorem TwoX.push {x : Value} {t : List ByteArray} {o : Obj} {g m cap : Nat} (h : TwoX w0 w p q d e v vs ts x t) (hown : w'.ownsRow 0 45 1 (.slice (some ⟨g, 0, none⟩) m cap) (vs.length + 1) (vs ++ [x])) (hg : (w.alloc o).grownBy w' v.ownBlock) (hat : v.ownBlock = some g ∨ g = (w.alloc o).heap.size) (hlt : g < w'.heap.size) : Two w0 w' p q d e (.slice (some ⟨g, 0, none⟩) m cap) (vs ++ [x]) (ts ++ [t]) := by
  obtain ⟨F, G, R, hd, he, hr, hk, hF, hG, hR, hT, hx⟩ := h
  have ha := Kp.alloc w o
  have hz : (w.alloc o).heap.size = w.heap.size + 1 := by simp
  have hk2 := Kp.of hg
  have hsz := hk2.size
  have hk0 := hk.size
  have hvb : ∀ k ∈ v.ownBlock.toList, k ∈ R := fun k hk => hr.bo k (by simpa using hk)
  have hob : ∀ k, (Value.slice (some ⟨g, 0, none⟩) m cap).ownBlock = some k → g = k := fun k hk => by simpa [Value.ownBlock] using hk
  have hxl : ∀ k, x.ownBlock = some k → k < w.heap.size := fun k hk => (World.ownsRow.lt hT k hk).2
  have hgF : g ∉ F ∧ g ∉ G ∧ w0.heap.size ≤ g := by
    rcases hat with h1 | h1
    · have := hr.bo g h1
      exact ⟨fun hm => (hF g hm).2.2 this, fun hm => (hG g hm).2 this, hR g this⟩
    · exact ⟨fun hm => by have := hd.lt g hm; omega, fun hm => by have := he.lt g hm; omega, by omega⟩
  refine ⟨F, G, g :: (x.ownBlock.toList ++ R), (hd.kp ha (by simp)).kp hk2 (fun k hm hv => (hF k hm).2.2 (hvb k hv)), (he.kp ha (by simp)).kp hk2 (fun k hm hv => (hG k hm).2 (hvb k hv)), ⟨?_, ?_, ?_, ?_, ?_, ?_⟩, (hk.trans ha (by simp)).trans hk2 (fun k hv => Or.inr (hR k (hvb k hv))), fun k hm => ⟨(hF k hm).1, (hF k hm).2.1, fun hn => ?_⟩, fun k hm => ⟨(hG k hm).1, fun hn => ?_⟩, fun k hn => ?_⟩
  · rw [List.length_append]; exact hown
  · rw [List.length_append, List.length_append, hr.len]; rfl
  · intro j y u hy hu
    by_cases hj : j < vs.length
    · rw [List.getElem?_append_left hj] at hy
      rw [List.getElem?_append_left (by rw [← hr.len]; exact hj)] at hu
      exact ((hr.inn j y u hy hu).kp ha (by simp)).kp hk2 (fun k hk3 hv => (hr.bi y (List.mem_of_getElem? hy) k hk3).2 (by simpa using hv))
    · have hl := hr.len
      obtain rfl : j = vs.length := by
        have := (List.getElem?_eq_some_iff.1 hy).1
        rw [List.length_append] at this
        simp at this; omega
      rw [List.getElem?_append_right (Nat.le_refl _), Nat.sub_self] at hy
      rw [hl, List.getElem?_append_right (Nat.le_refl _), Nat.sub_self] at hu
      simp at hy hu
      subst hy hu
      exact (hT.kp ha (by simp)).kp hk2 (fun k hk3 hv => (hx k hk3).2.2.2 (hvb k hv))
  · intro k hk3
    rw [hob k hk3]; exact List.mem_cons_self
  · intro y hy k hk3
    rcases List.mem_append.1 hy with h1 | h1
    · have hb := hr.bi y h1 k hk3
      refine ⟨List.mem_cons_of_mem _ (List.mem_append_right _ hb.1), fun hn => ?_⟩
      have e1 := hob k hn
      subst e1
      rcases hat with h2 | h2
      · exact hb.2 h2
      · have := hr.lt g hb.1; omega
    · simp at h1
      subst h1
      refine ⟨List.mem_cons_of_mem _ (List.mem_append_left _ (by simp [hk3])), fun hn => ?_⟩
      have e1 := hob k hn
      subst e1
      rcases hat with h2 | h2
      · exact (hx g hk3).2.2.2 (hr.bo g h2)
      · have := hxl g hk3; omega
  · intro k hm
    rcases List.mem_cons.1 hm with rfl | hm
    · exact hlt
    · rcases List.mem_append.1 hm with h1 | h1
      · have := hxl k (by simpa using h1); omega
      · have := hr.lt k h1; omega
  · rcases List.mem_cons.1 hn with rfl | hn
    · exact hgF.1 hm
    · rcases List.mem_append.1 hn with h1 | h1
      · exact (hx k (by simpa using h1)).2.1 hm
      · exact (hF k hm).2.2 h1
  · rcases List.mem_cons.1 hn with rfl | hn
    · exact hgF.2.1 hm
    · rcases List.mem_append.1 hn with h1 | h1
      · exact (hx k (by simpa using h1)).2.2.1 hm
      · exact (hG k hm).2 h1
  · rcases List.mem_cons.1 hn with rfl | hn
    · exact hgF.2.2
    · rcases List.mem_append.1 hn with h1 | h1
      · exact (hx k (by simpa using h1)).1
      · exact hR k h1
end
/-- A disk behind nothing, or behind one change more. -/
def Next (d d' : Dk) : Prop := d' = d ∨ ∃ c, d' = ⟨d.safe, made d.now c, d.wait ++ [c], d.left, d.down⟩
theorem next_do {d : Dk} (h : Fine d) (c : Chg) : Next d (d.doD c) := by
  unfold Dk.doD
  split
  · exact Or.inl rfl
  · rw [if_pos (fine_ready h).1, (fine_ready h).2]; exact Or.inr ⟨c, rfl⟩
section
variable {d : Dk} (h : Fine d)
include h
theorem next_wr (n : ByteArray) (m : Int) (s : ByteArray) : Next d (d.wrD n m s) := by
  unfold Dk.wrD
  split
  · exact next_do h _
  · exact Or.inl rfl
theorem next_ct (n : ByteArray) (m : Int) : Next d (d.ctD n m) := by
  unfold Dk.ctD
  split
  · exact next_do h _
  · exact Or.inl rfl
theorem next_rn (a b : ByteArray) : Next d (d.rnD a b) := by
  unfold Dk.rnD
  split
  · exact next_do h _
  · exact Or.inl rfl
theorem next_rm (n : ByteArray) : Next d (d.rmD n) := by
  unfold Dk.rmD
  split
  · exact next_do h _
  · exact Or.inl rfl
end
/-- What a row of states holds: the state behind each change. -/
structure Pre (d : Dk) (ts : List (List ByteArray)) : Prop where
  fine : Fine d
  safe : d.safe = []
  now : d.now = playAll [] d.wait
  len : ts.length = d.wait.length + 1
  at_ : ∀ j, j ≤ d.wait.length → ts[j]? = some (alL (playAll [] (d.wait.take j)))
theorem Pre.new : Pre Dk.new [alL Dk.new.now] := ⟨⟨rfl, rfl⟩, rfl, rfl, rfl, fun j hj => by
  obtain rfl : j = 0 := Nat.le_zero.1 hj
  rfl⟩
theorem Pre.grow {d : Dk} {ts : List (List ByteArray)} (h : Pre d ts) (c : Chg) : Pre ⟨d.safe, made d.now c, d.wait ++ [c], d.left, d.down⟩ (ts ++ [alL (made d.now c)]) := by
  refine ⟨h.fine, h.safe, by dsimp only; rw [playAll_snoc, h.now], by rw [List.length_append, h.len]; simp, fun j hj => ?_⟩
  dsimp only at hj ⊢
  rw [List.length_append, List.length_singleton] at hj
  by_cases hj1 : j ≤ d.wait.length
  · rw [List.getElem?_append_left (by rw [h.len]; omega), h.at_ j hj1, List.take_append_of_le_length hj1]
  · obtain rfl : j = d.wait.length + 1 := by omega
    rw [← h.len, List.getElem?_append_right (Nat.le_refl _), Nat.sub_self, h.len, List.take_of_length_le (by simp), playAll_snoc, ← h.now]; rfl
theorem Pre.crash {d : Dk} {ts : List (List ByteArray)} (h : Pre d ts) (k : Nat) (hk : k < ts.length) : ts[k]? = some (alL (d.crash k (-1)).now) := by
  have hk1 : k ≤ d.wait.length := by have := h.len; omega
  rw [h.at_ k hk1]
  have e1 : d.kept (k : Int) = k := by unfold Dk.kept; omega
  have e2 : (d.crash k (-1)).now = playAll [] (d.wait.take k) := by
    show d.left' k (-1) = _
    unfold Dk.left'
    rw [e1, h.safe]
    split
    · rename_i c _
      cases c <;> rfl
    · rfl
  rw [e2]
end Go.Proofs.Ytpbmkbfcnhekoaa
