/-
  Whole or not: what a crash anywhere in Put and Commit leaves, plainly.
  Fuse of a disk.
  append to a row of the call's own, of cells that lie anywhere: what it gives, and where the new row lies. Of no program.
  Cells in the middle of a block written over. Of no program.
-/
import Derived.Test.YtdmckgcbmbhmmaaGreatDoorRw24
import Derived.Test.YtdmckgcbmbhmmaaGreatDoorRw17
import Derived.Test.YtdmckgcbmbhmmaaGreatDoorRw09
import Derived.Laws.AppendOwnNone
namespace Go.Proofs.YtdmckgcbmbhmmaaGreatDoor
open Go.RowKit

def hA : List ByteArray := mNm :: mNew :: (List.range 10).flatMap fun c => (List.range 5).map fun t => sNm (c + 1) t
theorem hA_len : hA.length ≤ 62 := by
  have : hA.length = 52 := by
    unfold hA
    rw [List.length_cons, List.length_cons, List.length_flatMap]
    simp only [List.length_map, List.length_range]
    rfl
  omega
theorem hA_nm {c t : Nat} (h1 : 1 ≤ c) (h2 : c ≤ 10) (ht : t < 5) : sNm c t ∈ hA := by
  unfold hA
  refine List.mem_cons_of_mem _ (List.mem_cons_of_mem _ (List.mem_flatMap.2 ⟨c - 1, List.mem_range.2 (by omega), List.mem_map.2 ⟨t, List.mem_range.2 ht, ?_⟩⟩))
  rw [show c - 1 + 1 = c by omega]
theorem hA_m : mNm ∈ hA := List.mem_cons_self
theorem hA_new : mNew ∈ hA := List.mem_cons_of_mem _ List.mem_cons_self
theorem hA_dnm : ∀ n ∈ hA, dnm n = true := fun n hn => by
  unfold hA at hn
  rw [List.mem_cons, List.mem_cons, List.mem_flatMap] at hn
  rcases hn with rfl | rfl | ⟨k, hk, hn⟩
  · exact dnm_m
  · exact dnm_new
  · obtain ⟨t, ht, rfl⟩ := List.mem_map.1 hn
    exact sNm_dnm _ _ (by have := List.mem_range.1 hk; omega) (by have := List.mem_range.1 ht; omega)
/-- A snapshot is there, whole. -/
def NWg (c n : Nat) (s : ByteArray) (f : Nat → ByteArray) (g : Get) : Prop := g mNm = some (mfB (c : Int) (n : Int) s).data.toList ∧ TkN g c n f
/-- The last one is, or there is none. -/
def SRg (l n : Nat) (s : ByteArray) (f : Nat → ByteArray) (g : Get) : Prop := (l = 0 ∧ g mNm = none) ∨ (1 ≤ l ∧ NWg l n s f g)
theorem frn_tk_m (c n : Nat) (f : Nat → ByteArray) : Frn (fun g => TkN g c n f) mNm := fun _ _ e h t ht => ⟨(e _ (sNm_ne_m _ _)).trans (h t ht).1, (h t ht).2⟩
theorem frn_tk_new (c n : Nat) (f : Nat → ByteArray) : Frn (fun g => TkN g c n f) mNew := fun _ _ e h t ht => ⟨(e _ (sNm_ne_new _ _)).trans (h t ht).1, (h t ht).2⟩
section
variable {l n c t : Nat} {s : ByteArray} {f : Nat → ByteArray}
theorem frn_sr_new : Frn (SRg l n s f) mNew := fun g g' e h => h.imp (fun ⟨a, b⟩ => ⟨a, (e _ mNew_ne_m.symm).trans b⟩) (fun ⟨a, b, k⟩ => ⟨a, (e _ mNew_ne_m.symm).trans b, frn_tk_new l n f g g' e k⟩)
theorem frn_sr_s (hc : l < c ∧ c ≤ 10) (hn : l ≠ 0 → n ≤ 5) (ht : t < 5) : Frn (SRg l n s f) (sNm c t) := fun _ _ e h => h.imp (fun ⟨a, b⟩ => ⟨a, (e _ (sNm_ne_m _ _).symm).trans b⟩) (fun ⟨a, b, k⟩ => ⟨a, (e _ (sNm_ne_m _ _).symm).trans b, fun x hx => ⟨(e _ (fun q => by
    have hn5 := hn (by omega)
    have := (sNm_inj a (by omega) (by omega) (by omega) (by omega) (by omega) q).1
    omega)).trans (k x hx).1, (k x hx).2⟩⟩)
theorem frn_nw (hc : 1 ≤ c ∧ c ≤ 10) (hn : n ≤ 5) (m : ByteArray) (ho : otB c m = true) : Frn (NWg c n s f) m := fun _ _ e ⟨b, k⟩ =>
  ⟨(e _ (fun q => by rw [← q, otB_m] at ho; cases ho)).trans b, fun x hx => ⟨(e _ (fun q => by
    rw [← q, otB_nm ⟨hc.1, by omega⟩ (by omega)] at ho
    simp at ho)).trans (k x hx).1, (k x hx).2⟩⟩
/-- What is known of the last one. -/
def Lok (l n : Nat) (s : ByteArray) : Prop := l ≤ 10 ∧ (l ≠ 0 → (1 ≤ n ∧ n ≤ 5) ∧ s.size ≤ 500)
theorem sr_lt {g : Get} (h : SRg l n s f g) (hb : Lok l n s) : LtN g l := by
  rcases h with a | ⟨a, b, _⟩
  · exact Or.inl a
  · obtain ⟨⟨q1, q2⟩, q3⟩ := hb.2 (by omega)
    exact Or.inr ⟨⟨a, by have := hb.1; omega⟩, n, s, ⟨q1, by omega⟩, q3, b⟩
variable {d : Dk} {j : Nat} {n0 : Nat} {s0 : ByteArray} {f0 : Nat → ByteArray}
theorem wh_put2 (h : Jd hA (SRg l n0 s0 f0) j d) (hb : Lok l n0 s0) (hj : j < 1000) (hc : l < c ∧ c ≤ 10) (ht : t < 5) (hs : (f t).size ≤ 500) (hT : TkN (getF d.now) c t f) :
    ((d.put c t (f t)).1 = 0 ∧ Jd hA (SRg l n0 s0 f0) (j + 2) (d.put c t (f t)).2 ∧ TkN (getF (d.put c t (f t)).2.now) c (t + 1) f) ∨ ((d.put c t (f t)).1 = 31 ∧ Jd hA (SRg l n0 s0 f0) (j + 2) (d.put c t (f t)).2) := by
  rcases h.put hj (by have := hA_len; omega) (c := c) (t := t) (b := f t) ⟨by omega, by omega⟩ (by omega) (hA_nm (by omega) hc.2 ht) hs (frn_sr_s hc (fun h => (hb.2 h).1.2) ht) (by rw [ah_lt (sr_lt h.r hb) (by omega), if_neg (by omega)]) with ⟨a, b, m, _⟩ | ⟨a, b, _⟩
  · refine Or.inl ⟨a, b, ?_⟩
    rw [funext m]
    intro x hx
    by_cases he : x = t
    · subst he
      exact ⟨gSet_eq _ _ _, by omega⟩
    · obtain ⟨p, q⟩ := hT x (by omega)
      refine ⟨?_, q⟩
      rw [gSet_ne (fun e => he (sNm_inj (by omega) (by omega) (by omega) (by omega) (by omega) (by omega) e).2)]
      exact p
  · exact Or.inr ⟨a, b⟩
/-- What holds behind, whatever is kept. -/
def Qw (l n0 : Nat) (s0 : ByteArray) (f0 : Nat → ByteArray) (c n : Nat) (s : ByteArray) (f : Nat → ByteArray) (e : Int) (ok : Bool) (g : Get) : Prop := (ok = true ∧ NWg c n s f g) ∨ (e = 31 ∧ SRg l n0 s0 f0 g)
theorem wh_commit (h : Jd hA (SRg l n0 s0 f0) j d) (hb : Lok l n0 s0) (hj : j ≤ 100) (hc : l < c ∧ c ≤ 10) (hn : 1 ≤ n ∧ n ≤ 5) (hs : s.size ≤ 500) (hT : TkN (getF d.now) c n f) :
    ((d.commit c n s).1 = 0 ∧ Jd hA (NWg c n s f) 0 (d.commit c n s).2) ∨ ((d.commit c n s).1 = 31 ∧ Jd hA (Qw l n0 s0 f0 c n s f 31 true) 103 (d.commit c n s).2) := by
  rw [commit_eq ⟨by omega, by omega⟩ ⟨hn.1, by omega⟩ hs, ah_lt (sr_lt h.r hb) (by omega), if_neg (by omega : ¬ c ≤ l), if_pos rfl, if_pos (allB_fr (f := f) (by omega) (by omega) hT)]
  have hz := mfB_siz (c := (c : Int)) (t := (n : Int)) (s := s) ⟨by omega, by omega⟩ ⟨by omega, by omega⟩ hs
  rcases h.place (K := fun g => TkN g c n f) (b := mfB (c : Int) (n : Int) s) (by omega) hA_m hA_new (by have := hA_len; omega) (by omega) hT frn_sr_new (frn_tk_new _ _ _) (frn_tk_m _ _ _) with ⟨a, b, _, _⟩ | ⟨a, b, _⟩
  · exact Or.inl ⟨a, b⟩
  · exact Or.inr ⟨a, b.mono (fun g q => q.elim (fun q => Or.inr ⟨rfl, q⟩) (fun q => Or.inl ⟨rfl, q⟩)) (by omega)⟩
theorem wh_coll (h : Jd hA (NWg c n s f) j d) (hj : j ≤ 100) (hc : 1 ≤ c ∧ c ≤ 10) (hn : 1 ≤ n ∧ n ≤ 5) (hs : s.size ≤ 500) :
    (d.coll.2.1 = 0 ∨ d.coll.2.1 = 31) ∧ Jd hA (NWg c n s f) 200 d.coll.2.2 := by
  have hlen : ((nmL d.now).filter fun n => otB c n).length ≤ 63 := Nat.le_trans (List.length_filter_le _ _) (by rw [nmL_len]; have := h.sm.len; have := hA_len; omega)
  rcases h.coll (by omega) (by have := hA_len; omega) hA_dnm (l := c) (t := n) (s := s) ⟨by omega, by omega⟩ ⟨by omega, by omega⟩ hs h.r.1 (fun m ho => frn_nw hc hn.2 m ho) with ⟨a, _, b, _⟩ | ⟨a, b, _⟩
  · exact ⟨Or.inl a, b.mono (fun _ => id) (by omega)⟩
  · exact ⟨Or.inr a, b.mono (fun _ => id) (by omega)⟩
/-- What is told and read of a snapshot that is there. -/
theorem nw_told {g : Get} (hg : ∀ m, getF d.now m = g m) (h : NWg c n s f g) (hc : 1 ≤ c ∧ c ≤ 10) (hn : 1 ≤ n ∧ n ≤ 5) (hs : s.size ≤ 500) :
    (d.laE = 0 ∧ d.laM = ⟨(c : Int), (n : Int), s⟩) ∧ ∀ t, t < n → d.reE (c : Int) (t : Int) = 0 ∧ d.reS (c : Int) (t : Int) = f t := by
  refine ⟨la_fr ⟨by omega, by omega⟩ ⟨by omega, by omega⟩ hs ((hg _).trans h.1), fun t ht => ?_⟩
  obtain ⟨e1, e2⟩ := re_eq (d := d) (c := c) (t := t) ⟨hc.1, by omega⟩ (by omega)
  rw [e1, e2]
  exact sn_one (sNm_dnm c t (by omega) (by omega)) ((hg _).trans (h.2 t ht).1) (h.2 t ht).2
end
theorem Jd.zero {A : List ByteArray} {R R' : Get → Prop} {d : Dk} (h : Jd A R 0 d) (hr : R' (getF d.now)) : Jd A R' 0 d := by
  have hw : d.wait = [] := List.eq_nil_of_length_eq_zero (Nat.le_zero.1 h.few)
  refine ⟨h.play, fun i hi t => ?_, h.few⟩
  rw [hw] at hi
  obtain rfl : i = 0 := by simpa using hi
  have e : lfN d.safe d.wait 0 t = d.now := by rw [← h.play, hw]; rfl
  rw [e]
  exact ⟨h.sm, hr⟩
theorem Jd.fuse {A : List ByteArray} {R : Get → Prop} {j : Nat} {d : Dk} (h : Jd A R j d) (n : Int) : Jd A R j (d.fuD n) := by
  unfold Dk.fuD
  split
  · exact h
  · exact h.same rfl rfl rfl
end Go.Proofs.YtdmckgcbmbhmmaaGreatDoor
namespace Go.Proofs.YtdmckgcbmbhmmaaGreatDoor
open Go.RowKit

set_option maxHeartbeats 400000 in
theorem fuse_any (p : Nat) (d : Dk) (F : List Nat) (n : Int) (w : World) (h : DiskAt w p d F) (hn : n ≤ 9223372036854775807) :
    Calls Tryz.prog 17 #[.pointer (some ⟨p, 0, none⟩), .int .i64 n] w fun e w' => e = .returned (.int .i64 (Dk.fuE n)) ∧ Did w F p (d.fuD n) w' := by
  unfold Dk.fuE Dk.fuD
  by_cases h0 : n < 0
  · rw [if_pos h0, if_pos h0]
    have HD := hide h.did
    clear h
    go_enter Tryz.func17, Tryz.ntmps17
    go_wp2
    go_ret
    exact ⟨rfl, unhide HD⟩
  · rw [if_neg h0, if_neg h0]
    have hv := h.inv
    obtain ⟨bs, bn, wv, Ls, Ln, ha, rfl, _⟩ := h
    have hc := ha.cells
    have hf := ha.frozs
    have hi : Inv { d with left := n } := ⟨hv.play, hv.can, hv.room, hv.few, by dsimp only; omega, hn⟩
    have hkp := kp_set w p 3 (.int .i64 n)
    have hbox := ha.box.set 3 (.int .i64 n)
    have hD := ha.setBox hkp (wv' := wv) (l' := n) (dn' := d.down) hbox rfl
    have HD := hide (Did.of hD hi (hkp.mono (by unfold foot; simp)) (fun _ hk => Or.inl hk))
    clear hD hbox hi ha hkp hv
    go_enter Tryz.func17, Tryz.ntmps17
    go_wp2
    go_ret
    exact ⟨rfl, unhide HD⟩
end Go.Proofs.YtdmckgcbmbhmmaaGreatDoor
namespace Go.Proofs.YtdmckgcbmbhmmaaGreatDoor
open Go.RowKit

theorem run_app_any {P : Program} {w : World} (t ty e : TypeId) (i : TypeInfo) (z : Value) (size bytes : Nat) (h1 : P.underlying t = some (.slice e)) (h2 : P.info? e = some i) (h3 : i.zero = some z) (h4 : i.size = size) (h5 : i.bytes = bytes) (h6 : z.cells.size = size) (h7 : 0 < size)
    {g2 n2 cap2 : Nat} {xs : List Value} (ho : w.ownsRow 0 e size (.slice (some ⟨g2, 0, none⟩) n2 cap2) n2 xs)
    (ad : Option Addr) (m c : Nat) (news : List Value) (hn : news.length = m * size) (hnone : ad = none → m = 0 ∧ c = 0) (hsp : ∀ a, ad = some a → a.spot = none) (hc : ∀ a, ad = some a → ∀ j u, news[j]? = some u → w.cell? (a.add j) = some u) (h1c : ∀ u ∈ news, u.oneCell' = true)
    (b1 : n2 + m ≤ maxLen) (b2 : (n2 + m) * bytes ≤ 140737488355328) :
    ∃ g cap w', (Builtin.append_ #[t, t] ty #[.slice (some ⟨g2, 0, none⟩) n2 cap2, .slice ad m c]).run P w = .ok (.slice (some ⟨g, 0, none⟩) (n2 + m) cap) w' ∧ w'.ownsRow 0 e size (.slice (some ⟨g, 0, none⟩) (n2 + m) cap) (n2 + m) (xs ++ news) ∧ w.grownBy w' (some g2) ∧ (g = g2 ∨ g = w.heap.size) := by
  have hcp : n2 ≤ cap2 := by
    obtain ⟨_, ⟨e, _⟩ | ⟨g, cp, cur, e, _, _, hn, _⟩⟩ := id ho
    · cases e
    · injection e with _ e2 e3; omega
  cases ad with
  | none =>
    obtain ⟨rfl, rfl⟩ := hnone rfl
    obtain rfl : news = [] := List.eq_nil_of_length_eq_zero (by omega)
    exact ⟨g2, cap2, w, by simpa using run_append_owned_none (P := P) (w := w) 0 t ty e i size h1 h2 _ _ _ ho, by simpa using ho, World.grownBy.refl _ _, Or.inl rfl⟩
  | some a =>
    obtain ⟨b, off, spot⟩ := a
    obtain rfl : spot = none := hsp _ rfl
    rcases Nat.eq_zero_or_pos m with h0 | hpos
    · subst h0
      obtain rfl : news = [] := List.eq_nil_of_length_eq_zero (by omega)
      have := run_append_room_cells (P := P) (w := w) t ty e i h1 h2 g2 0 n2 cap2 ⟨b, off, none⟩ 0 c [] (by simp) (fun j u hj => by simp at hj) (fun u hu => by cases hu) (by omega) (fun j hj => absurd hj (by simp)) (fun j hj => absurd hj (by simp))
      exact ⟨g2, cap2, w, by simpa [World.setCells] using this, by simpa using ho, World.grownBy.refl _ _, Or.inl rfl⟩
    · obtain ⟨g3, cap3, w', hr, r1, r2, r3, _⟩ := run_append_lies (P := P) (w := w) t ty 0 e i z size bytes h1 h2 h3 h4 h5 h6 h7 _ _ _ ho ⟨b, off, none⟩ m c news hn (hc _ rfl) h1c hpos b1 b2 (Nat.zero_le _) _ rfl
      refine ⟨g3, cap3, w', hr, r1, r2, ?_⟩
      rcases r3 with r3 | r3
      · exact Or.inl (by simpa [Value.ownBlock] using r3.symm)
      · exact Or.inr r3
/-- The same, as one step of a statement whose order is drawn. -/
theorem step_app_any {P : Program} {ops : Array Oper} {o : Oper} {a : Act} {w : World} {K : Act → World → Prop} {Q : Exit → Act → World → Prop} {E : Prop}
    (hg : o.guard = none) (s x : Operand) (t : TypeId) (hop : o.op = Op.call { callee := Callee.builtin Builtin.append, args := #[s, x], argTypes := #[t, t] })
    (e : TypeId) (i : TypeInfo) (z : Value) (size bytes : Nat) (h1 : P.underlying t = some (.slice e)) (h2 : P.info? e = some i) (h3 : i.zero = some z) (h4 : i.size = size) (h5 : i.bytes = bytes) (h6 : z.cells.size = size) (h7 : 0 < size)
    {g2 n2 cap2 : Nat} {xs : List Value} (hs : a.eval s = .slice (some ⟨g2, 0, none⟩) n2 cap2) (ho : w.ownsRow 0 e size (.slice (some ⟨g2, 0, none⟩) n2 cap2) n2 xs)
    (ad : Option Addr) (m c : Nat) (news : List Value) (hx : a.eval x = .slice ad m c) (hn : news.length = m * size) (hnone : ad = none → m = 0 ∧ c = 0) (hsp : ∀ a, ad = some a → a.spot = none) (hc : ∀ a, ad = some a → ∀ j u, news[j]? = some u → w.cell? (a.add j) = some u) (h1c : ∀ u ∈ news, u.oneCell' = true)
    (b1 : n2 + m ≤ maxLen) (b2 : (n2 + m) * bytes ≤ 140737488355328) (N : Nat) (hN : n2 + m = N)
    (hK : ∀ g cap w', w'.ownsRow 0 e size (.slice (some ⟨g, 0, none⟩) N cap) N (xs ++ news) → w.grownBy w' (some g2) → (g = g2 ∨ g = w.heap.size) → K (a.put o.dst (.slice (some ⟨g, 0, none⟩) N cap)) w') :
    if Region.wanted o (yielded ops a.tmps) = true then Oper.wp P o a w K Q else E := by
  subst hN
  have hw : Region.wanted o (yielded ops a.tmps) = true := by simp [Region.wanted, hg]
  rw [if_pos hw]
  obtain ⟨g, cap, w', hrun, r1, r2, r3⟩ := run_app_any (P := P) (w := w) t o.type e i z size bytes h1 h2 h3 h4 h5 h6 h7 ho ad m c news hn hnone hsp hc h1c b1 b2
  unfold Oper.wp
  simp [execOp, hop, resolve, invoke, builtin, hs, hx, hrun, Result.andThen]
  exact hK g cap w' r1 r2 r3
/-- append, by its run. -/
theorem wpList_app_run {P : Program} {ops : Array Oper} {rest : List Oper} {o : Oper} {a : Act} {w w' : World} {Q : Exit → Act → World → Prop} {v u1 u2 : Value} (hgd : o.guard = none) (s x : Operand) (t : TypeId)
    (ho : o.op = .call { callee := .builtin .append, args := #[s, x], argTypes := #[t, t] }) (hs : a.eval s = u1) (hx : a.eval x = u2) (hr : (Builtin.append_ #[t, t] o.type #[u1, u2]).run P w = .ok v w')
    (h : wpList P ops Q rest (a.put o.dst v) w') : wpList P ops Q (o :: rest) a w :=
  wpList_plain hgd fun _ hK => by
    unfold Oper.wp
    simp [execOp, ho, resolve, invoke, builtin, hs, hx, hr, Result.andThen]
    exact hK _ _ h
/-- What stays while a row of the call's own grows. -/
theorem kp_gr {wx W w5 : World} {g2 : Nat} (hk : Kp [] wx W) (hg : W.grownBy w5 (some g2)) (hle : wx.heap.size ≤ g2) : Kp [] wx w5 := hk.trans (Kp.of hg) (by simp; omega)
end Go.Proofs.YtdmckgcbmbhmmaaGreatDoor
namespace Go.Proofs.YtdmckgcbmbhmmaaGreatDoor
open Go.RowKit

/-- Cells in the middle of a block written over. -/
theorem CBox.put {g t : Nat} : ∀ (vs B A C : List Value) (w : World), B.length = vs.length → CBox g (A ++ B ++ C).toArray t w → CBox g (A ++ vs ++ C).toArray t (w.setCells g A.length vs)
  | [], B, A, C, w, hl, h => by
    obtain rfl : B = [] := List.eq_nil_of_length_eq_zero hl
    exact h
  | v :: r, [], A, C, w, hl, h => by simp at hl
  | v :: r, b :: B, A, C, w, hl, h => by
    have h1 := h.set A.length v
    rw [show (A ++ b :: B ++ C).toArray.setIfInBounds A.length v = (A ++ [v] ++ B ++ C).toArray by simp] at h1
    have h2 := CBox.put r B (A ++ [v]) C _ (by simpa using hl) h1
    rw [show A ++ [v] ++ r ++ C = A ++ v :: r ++ C by simp, show (A ++ [v]).length = A.length + 1 by simp] at h2
    exact h2
theorem Kp.sets (g : Nat) : ∀ (vs : List Value) (o : Nat) (w : World), Kp [g] w (w.setCells g o vs)
  | [], _, w => Kp.refl _ w
  | v :: r, o, w => (Kp.set w g o v).trans (Kp.sets g r (o + 1) _) (fun _ hx => Or.inl hx)
end Go.Proofs.YtdmckgcbmbhmmaaGreatDoor
