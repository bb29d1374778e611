/-
  LinkComes: the walk.
  LinkOrder, plainly: what holds of a sender, a receiver and all that is between them.
-/
import Derived.Test.YtjacedlfkimlhaaLk16
namespace Go.Proofs.Ytjacedlfkimlhaa
open Go.RowKit Lk

theorem lpk_get (ep pt t : Int) : ∀ (n : Nat) (l : List Pu), (∀ x ∈ l, lagn pt t x = true) → ∀ (i : Nat) (hi : i < l.length), (lpk ep pt t n l)[i]? = some (dataB ep ((n + i : Nat) : Int) (l[i]).b)
  | _, [], _, i, hi => by cases hi
  | n, x :: r, h, i, hi => by
    rw [lpk, if_pos (h x (List.mem_cons_self ..))]
    cases i with
    | zero => simp
    | succ i =>
      rw [List.getElem?_cons_succ, lpk_get ep pt t (n + 1) r (fun y hy => h y (List.mem_cons_of_mem _ hy)) i (by simpa using hi), List.getElem_cons_succ, show n + 1 + i = n + (i + 1) by omega]
/-- A receiver that waits for number n and has none that came early. -/
def at_ (ep : Int) (W n : Nat) : Rcv := ⟨ep, W, n, []⟩
theorem at_ok {ep : Int} {W n : Nat} (e0 : 0 ≤ ep) (e1 : ep ≤ 1073741824) (w0 : 1 ≤ W) (w1 : W ≤ 256) (n1 : n ≤ 1073741825) : ROk (at_ ep W n) := ⟨e0, e1, w0, w1, n1, by simp [at_], fun x hx => by cases hx⟩
theorem lk_next {ep : Int} {W n : Nat} {b : ByteArray} (w0 : 1 ≤ W) : lkR (at_ ep W n) n b = ⟨ep, W, n, [(n, b)]⟩ ∧ lgR ⟨ep, W, n, [(n, b)]⟩ = at_ ep W (n + 1) ∧ lgO ⟨ep, W, n, [(n, b)]⟩ = [b] := by
  have hf : erl [(n, b)] n = some b := by unfold erl; simp
  have hd : erd [(n, b)] n = [] := by unfold erd; simp
  have hg := lgR_go (r := ⟨ep, W, n, [(n, b)]⟩) hf
  dsimp only at hg
  rw [hd] at hg
  have hs := lgR_stop (r := ⟨ep, W, n + 1, []⟩) rfl
  refine ⟨?_, ?_, ?_⟩
  · unfold lkR at_
    rw [if_pos ⟨Nat.le_refl n, by dsimp only; omega, rfl⟩]
    rfl
  · rw [hg.1, hs.1]; rfl
  · rw [hg.2, hs.2]
theorem lt_next {ep : Int} {W n : Nat} {b : ByteArray} (e0 : 0 ≤ ep) (e1 : ep ≤ 1073741824) (w0 : 1 ≤ W) (n1 : n ≤ 1073741824) (hb : b.size ≤ 60000) : ltE (at_ ep W n) (dataB ep (n : Int) b) = 0 ∧ ltO (at_ ep W n) (dataB ep (n : Int) b) = [b] ∧ ltR (at_ ep W n) (dataB ep (n : Int) b) = at_ ep W (n + 1) ∧ ltA (at_ ep W n) (dataB ep (n : Int) b) = ackB ep ((n + 1 : Nat) : Int) := by
  have hr := lrD_data (ep := ep) (n := (n : Int)) (b := b) e0 e1 (by omega) (by omega) hb
  obtain ⟨g1, g2, g3, g4⟩ := ltE_ok (r := at_ ep W n) hr
  rw [Int.toNat_natCast] at g2 g3 g4
  obtain ⟨k1, k2, k3⟩ := lk_next (ep := ep) (n := n) (b := b) w0
  rw [k1] at g2 g3 g4
  rw [k2] at g2 g4
  rw [k3] at g3
  exact ⟨g1, g3, g2, g4⟩
/-- A sender ahead of round j: f texts were acknowledged. -/
structure Cm (s : Snd) (W P m f j : Nat) : Prop where
  ok : SOk s
  ep : s.ep = 1
  wd : s.wd = W
  pt : s.pt = (P : Int)
  first : s.first = f
  len : s.left.length + f = m
  now : s.now = ((P * j : Nat) : Int)
theorem Cm.all {s : Snd} {W P m f j : Nat} (h : Cm s W P m f j) : ∀ x ∈ s.left, lagn s.pt ((P * (j + 1) : Nat) : Int) x = true := fun x hx => by
  have := (h.ok.sz x hx).2
  have hn := h.now
  unfold lagn
  rw [h.pt]
  by_cases e : x.at_ = -1
  · rw [e]; rfl
  · rw [Bool.or_eq_true]
    refine Or.inr (decide_eq_true ?_)
    rw [Nat.mul_add, Nat.mul_one]
    omega
theorem Fresh.cm {s : Snd} {W P m : Nat} (h : Fresh s W (P : Int) m) : ldE s 0 = 0 ∧ Cm (ldS s 0) W P m 0 0 := by
  have hn := h.now
  have he : ldE s 0 = 0 := by unfold ldE; rw [if_neg (by omega)]
  refine ⟨he, h.ok.ldS 0, ?_, ?_, ?_, ?_, ?_, ?_⟩
  all_goals unfold ldS; rw [if_pos he]
  · exact h.ep
  · exact h.wd
  · exact h.pt
  · exact h.first
  · dsimp only; rw [lmks_len, h.len, Nat.add_zero]
  · rfl
/-- What is due in a round, and what comes of its acknowledgement. -/
theorem Cm.due {s : Snd} {W P m f j : Nat} (h : Cm s W P m f j) (hj : P * (j + 1) ≤ 1073741824) : ldE s ((P * (j + 1) : Nat) : Int) = 0 ∧ (ldO s ((P * (j + 1) : Nat) : Int)).length = min W (m - f) ∧ (∀ i, i < min W (m - f) → ∃ b : ByteArray, b.size ≤ 60000 ∧ (ldO s ((P * (j + 1) : Nat) : Int))[i]? = some (dataB 1 ((f + i : Nat) : Int) b)) ∧ Cm (ldS s ((P * (j + 1) : Nat) : Int)) W P m f (j + 1) := by
  have hn := h.now
  have hm : P * j ≤ P * (j + 1) := Nat.mul_le_mul_left P (Nat.le_succ j)
  have he : ldE s ((P * (j + 1) : Nat) : Int) = 0 := by unfold ldE; rw [if_neg (by omega)]
  have hl := h.len
  have hall := h.all
  have hallt : ∀ x ∈ s.left.take W, lagn s.pt ((P * (j + 1) : Nat) : Int) x = true := fun x hx => hall x (List.mem_of_mem_take hx)
  refine ⟨he, ?_, fun i hi => ?_, h.ok.ldS _, ?_, ?_, ?_, ?_, ?_, ?_⟩
  · unfold ldO
    rw [if_pos he, h.wd, lpk_all _ _ _ _ _ hallt, List.length_take]
    omega
  · have hlt : i < (s.left.take W).length := by rw [List.length_take]; omega
    refine ⟨((s.left.take W)[i]).b, (h.ok.sz _ (List.mem_of_mem_take (List.getElem_mem hlt))).1, ?_⟩
    unfold ldO
    rw [if_pos he, h.wd, lpk_get _ _ _ _ _ hallt i hlt, h.ep, h.first]
  all_goals unfold ldS; rw [if_pos he]
  · exact h.ep
  · exact h.wd
  · exact h.pt
  · exact h.first
  · dsimp only; rw [lmks_len]; exact hl
theorem Cm.heard {s : Snd} {W P m f j c : Nat} (h : Cm s W P m f j) (hc : 1 ≤ c) (hcm : f + c ≤ m) (hm : m ≤ 1073741824) : lhE s (ackB 1 ((f + c : Nat) : Int)) = 0 ∧ Cm (lhS s (ackB 1 ((f + c : Nat) : Int))) W P m (f + c) j := by
  have hl := h.len
  have hr := lrA_ack (ep := 1) (n := ((f + c : Nat) : Int)) (by decide) (by decide) (by omega) (by omega)
  obtain ⟨g1, g2⟩ := lhE_some (s := s) hr
  have he : lhE s (ackB 1 ((f + c : Nat) : Int)) = 0 := by
    rw [g1, h.ep, h.first, if_neg (by simp), if_neg (by omega)]
  have hk := h.ok.lhS (ackB 1 ((f + c : Nat) : Int))
  rw [he, h.first, if_pos ⟨rfl, by omega⟩, Int.toNat_natCast] at g2
  refine ⟨he, hk, ?_, ?_, ?_, ?_, ?_, ?_⟩
  all_goals rw [g2]
  · exact h.ep
  · exact h.wd
  · exact h.pt
  · dsimp only
    rw [List.length_drop]
    omega
  · exact h.now
end Go.Proofs.Ytjacedlfkimlhaa
namespace Go.Proofs.Ytjacedlfkimlhaa
open Go.RowKit Lk

/-- A packet of a text that was pushed. -/
def Wy (P : List ByteArray) (d : ByteArray) : Prop := ∃ n, ∃ h : n < P.length, d = dataB 5 (n : Int) P[n]
structure Lo (P ways acks : List ByteArray) (told now : Nat) (s : Snd) (r : Rcv) : Prop where
  so : SOk s
  ro : ROk r
  se : s.ep = 5
  re : r.ep = 5
  fs : s.first ≤ told
  fp : s.first ≤ P.length
  ls : s.left.map Pu.b = P.drop s.first
  nx : r.next = told
  tp : told ≤ P.length
  er : ∀ x ∈ r.early, P[x.1]? = some x.2
  wy : ∀ d ∈ ways, Wy P d
  ak : ∀ a ∈ acks, ∃ m : Nat, m ≤ told ∧ a = ackB 5 (m : Int)
  nw : s.now ≤ (now : Int)
  pl : P.length ≤ 300
  sz : ∀ x ∈ P, x.size ≤ 500
theorem Lo.len {P ways acks : List ByteArray} {told now : Nat} {s : Snd} {r : Rcv} (h : Lo P ways acks told now s r) : s.left.length + s.first = P.length := by
  have := congrArg List.length h.ls
  rw [List.length_map, List.length_drop] at this
  have := h.fp
  omega
theorem Wy.app {P : List ByteArray} {d x : ByteArray} (h : Wy P d) : Wy (P ++ [x]) d := by
  obtain ⟨n, hn, rfl⟩ := h
  exact ⟨n, by rw [List.length_append]; omega, by rw [List.getElem_append_left hn]⟩
theorem Wy.size {P : List ByteArray} {d : ByteArray} (h : Wy P d) (hp : P.length ≤ 300) (hs : ∀ x ∈ P, x.size ≤ 500) : d.size ≤ 9223372036854775807 := by
  obtain ⟨n, hn, rfl⟩ := h
  have := hs P[n] (List.getElem_mem hn)
  have := dataB_size (ep := 5) (n := (n : Int)) (b := P[n]) (by decide) (by decide) (by omega) (by omega) (by omega)
  omega
theorem Lo.push {P ways acks : List ByteArray} {told now : Nat} {s : Snd} {r : Rcv} (h : Lo P ways acks told now s r) (x : ByteArray) (hx : x.size ≤ 500) (hp : P.length < 300) : luE s x = 0 ∧ Lo (P ++ [x]) ways acks told now (luS s x) r := by
  have hl := h.len
  have he : luE s x = 0 := by unfold luE; rw [if_neg (by omega)]
  have hs : luS s x = ⟨s.ep, s.wd, s.pt, s.first, s.left ++ [⟨x, -1⟩], s.now⟩ := by unfold luS; rw [if_pos he]
  have hok := h.so.luS x
  rw [hs] at hok ⊢
  have hfp := h.fp
  have htp := h.tp
  refine ⟨he, ⟨hok, h.ro, h.se, h.re, h.fs, ?_, ?_, h.nx, ?_, fun y hy => ?_, fun d hd => (h.wy d hd).app, h.ak, h.nw, ?_, fun y hy => ?_⟩⟩
  · rw [List.length_append]; dsimp only; omega
  · dsimp only
    rw [List.map_append, h.ls, List.drop_append_of_le_length hfp]
    rfl
  · rw [List.length_append]; omega
  · have := h.er y hy
    rw [List.getElem?_append_left (List.getElem?_eq_some_iff.1 this).1]
    exact this
  · rw [List.length_append]; simp; omega
  · rcases List.mem_append.1 hy with hy | hy
    · exact h.sz y hy
    · rw [List.mem_singleton] at hy
      subst hy
      exact hx
theorem lpk_mem (ep pt t : Int) : ∀ (n : Nat) (l : List Pu) (d : ByteArray), d ∈ lpk ep pt t n l → ∃ i, ∃ h : i < l.length, d = dataB ep ((n + i : Nat) : Int) (l[i]).b
  | _, [], d, h => by cases h
  | n, x :: r, d, h => by
    rw [lpk] at h
    have tl : d ∈ lpk ep pt t (n + 1) r → ∃ i, ∃ h : i < (x :: r).length, d = dataB ep ((n + i : Nat) : Int) ((x :: r)[i]).b := fun h => by
      obtain ⟨i, hi, e⟩ := lpk_mem ep pt t (n + 1) r d h
      exact ⟨i + 1, by simpa using hi, by rw [e, List.getElem_cons_succ, show n + 1 + i = n + (i + 1) by omega]⟩
    split at h
    · rcases List.mem_cons.1 h with rfl | h
      · exact ⟨0, by simp, by simp⟩
      · exact tl h
    · exact tl h
theorem lmks_b (pt t : Int) (k : Nat) (l : List Pu) : (lmks pt t k l).map Pu.b = l.map Pu.b := by
  unfold lmks
  rw [List.map_append, List.map_map]
  have : (l.take k).map (Pu.b ∘ lmk pt t) = (l.take k).map Pu.b := List.map_congr_left (fun x _ => lmk_b pt t x)
  rw [this, ← List.map_append, List.take_append_drop]
theorem Lo.due {P ways acks : List ByteArray} {told now : Nat} {s : Snd} {r : Rcv} (h : Lo P ways acks told now s r) (t : Nat) (ht : now ≤ t) (ht2 : t ≤ 1073741824) : ldE s (t : Int) = 0 ∧ (ldO s (t : Int)).length ≤ 256 ∧ (∀ d ∈ ldO s (t : Int), Wy P d) ∧ Lo P ways acks told t (ldS s (t : Int)) r := by
  have hn := h.nw
  have he : ldE s (t : Int) = 0 := by unfold ldE; rw [if_neg (by omega)]
  have hs : ldS s (t : Int) = ⟨s.ep, s.wd, s.pt, s.first, lmks s.pt (t : Int) s.wd s.left, (t : Int)⟩ := by unfold ldS; rw [if_pos he]
  have ho : ldO s (t : Int) = lpk s.ep s.pt (t : Int) s.first (s.left.take s.wd) := by unfold ldO; rw [if_pos he]
  have hok := h.so.ldS (t : Int)
  have hl := h.len
  have hw := h.so.w1
  rw [hs] at hok ⊢
  rw [ho]
  refine ⟨he, ?_, fun d hd => ?_, ⟨hok, h.ro, h.se, h.re, h.fs, h.fp, ?_, h.nx, h.tp, h.er, h.wy, h.ak, Int.le_refl _, h.pl, h.sz⟩⟩
  · have := lpk_len s.ep s.pt (t : Int) s.first (s.left.take s.wd)
    rw [List.length_take] at this
    omega
  · obtain ⟨i, hi, rfl⟩ := lpk_mem _ _ _ _ _ _ hd
    have hi2 : i < s.left.length := by rw [List.length_take] at hi; omega
    have hg : (s.left.map Pu.b)[i]? = (P.drop s.first)[i]? := by rw [h.ls]
    rw [List.getElem?_map, List.getElem?_eq_getElem hi2, List.getElem?_drop, List.getElem?_eq_getElem (show s.first + i < P.length by omega)] at hg
    injection hg with hg
    refine ⟨s.first + i, by omega, ?_⟩
    rw [h.se, List.getElem_take, hg]
  · dsimp only
    rw [lmks_b, h.ls]
/-- What a receiver tells is the next ones of what was pushed. -/
theorem lg_told (P : List ByteArray) : ∀ (k : Nat) (r : Rcv), r.early.length = k → r.next ≤ P.length → (∀ x ∈ r.early, P[x.1]? = some x.2) → ∃ c, r.next + c ≤ P.length ∧ lgO r = (P.drop r.next).take c ∧ (lgR r).next = r.next + c ∧ ∀ x ∈ (lgR r).early, P[x.1]? = some x.2 := by
  intro k
  induction k using Nat.strongRecOn with
  | ind k ih =>
    intro r hk hn he
    cases hf : erl r.early r.next with
    | none =>
      obtain ⟨s1, s2⟩ := lgR_stop hf
      exact ⟨0, by omega, by rw [s2, List.take_zero], by rw [s1, Nat.add_zero], by rw [s1]; exact he⟩
    | some b =>
      obtain ⟨g1, g2⟩ := lgR_go hf
      have hb := he _ (erl_some hf)
      dsimp only at hb
      have hlt := (List.getElem?_eq_some_iff.1 hb).1
      have hd := erd_len hf
      obtain ⟨c, c1, c2, c3, c4⟩ := ih (erd r.early r.next).length (by omega) ⟨r.ep, r.wd, r.next + 1, erd r.early r.next⟩ rfl (by dsimp only; omega) (fun x hx => he x (erd_mem hx).1)
      dsimp only at c1 c2 c3
      refine ⟨c + 1, by omega, ?_, by rw [g1, c3]; omega, by rw [g1]; exact c4⟩
      rw [g2, c2, List.drop_eq_getElem_cons hlt, List.take_succ_cons]
      rw [List.getElem?_eq_getElem hlt] at hb
      injection hb with hb
      rw [hb]
theorem Lo.take {P ways acks : List ByteArray} {told now : Nat} {s : Snd} {r : Rcv} (h : Lo P ways acks told now s r) {d : ByteArray} (hd : Wy P d) : ltE r d = 0 ∧ ∃ c, told + c ≤ P.length ∧ ltO r d = (P.drop told).take c ∧ ltA r d = ackB 5 ((told + c : Nat) : Int) ∧ Lo P ways (acks ++ [ackB 5 ((told + c : Nat) : Int)]) (told + c) now s (ltR r d) := by
  obtain ⟨n, hn, rfl⟩ := hd
  have hpl := h.pl
  have hsz := h.sz P[n] (List.getElem_mem hn)
  have hr := lrD_data (ep := 5) (n := (n : Int)) (b := P[n]) (by decide) (by decide) (by omega) (by omega) (by omega)
  rw [← h.re] at hr
  obtain ⟨e1, e2, e3, e4⟩ := ltE_ok hr
  rw [h.re] at hr e1 e2 e3 e4
  rw [Int.toNat_natCast] at e2 e3 e4
  have hro := h.ro.lkR n P[n] (by omega) (by omega)
  have hnx : (lkR r n P[n]).next = told := by unfold lkR; split <;> exact h.nx
  have her : ∀ x ∈ (lkR r n P[n]).early, P[x.1]? = some x.2 := fun x hx => by
    unfold lkR at hx
    split at hx
    · rcases List.mem_append.1 hx with hx | hx
      · exact h.er x hx
      · rw [List.mem_singleton] at hx
        subst hx
        exact List.getElem?_eq_getElem hn
    · exact h.er x hx
  obtain ⟨c, c1, c2, c3, c4⟩ := lg_told P _ (lkR r n P[n]) rfl (by rw [hnx]; exact h.tp) her
  rw [hnx] at c1 c2 c3
  have hfs := h.fs
  refine ⟨e1, c, c1, by rw [e3, c2], by rw [e4, c3], ?_⟩
  rw [e2]
  refine ⟨h.so, hro.lgR, h.se, ?_, by omega, h.fp, h.ls, c3, c1, c4, h.wy, fun a ha => ?_, h.nw, h.pl, h.sz⟩
  · rw [lgR_ep, lkR_ep]; exact h.re
  · rcases List.mem_append.1 ha with ha | ha
    · obtain ⟨m, hm, e⟩ := h.ak a ha
      exact ⟨m, by omega, e⟩
    · rw [List.mem_singleton] at ha
      exact ⟨told + c, Nat.le_refl _, ha⟩
theorem Lo.heard {P ways acks : List ByteArray} {told now : Nat} {s : Snd} {r : Rcv} (h : Lo P ways acks told now s r) {a : ByteArray} (ha : a ∈ acks) : a.size ≤ 33 ∧ lhE s a = 0 ∧ Lo P ways acks told now (lhS s a) r := by
  obtain ⟨m, hm, rfl⟩ := h.ak a ha
  have hl := h.len
  have htp := h.tp
  have hpl := h.pl
  have hr := lrA_ack (ep := 5) (n := (m : Int)) (by decide) (by decide) (by omega) (by omega)
  obtain ⟨g1, g2⟩ := lhE_some (s := s) hr
  have he : lhE s (ackB 5 (m : Int)) = 0 := by rw [g1, h.se, if_neg (by simp), if_neg (by omega)]
  have hok := h.so.lhS (ackB 5 (m : Int))
  refine ⟨ackB_size (by decide) (by decide) (by omega) (by omega), he, ?_⟩
  rw [he] at g2
  by_cases hf : (s.first : Int) < (m : Int)
  · rw [if_pos ⟨rfl, hf⟩, Int.toNat_natCast] at g2
    rw [g2] at hok ⊢
    refine ⟨hok, h.ro, h.se, h.re, hm, by dsimp only; omega, ?_, h.nx, h.tp, h.er, h.wy, h.ak, h.nw, h.pl, h.sz⟩
    dsimp only
    rw [List.map_drop, h.ls, List.drop_drop, show s.first + (m - s.first) = m by omega]
  · rw [if_neg (fun hh => hf hh.2)] at g2
    rw [g2]
    exact h
theorem Lo.ways {P ways acks ways' : List ByteArray} {told now : Nat} {s : Snd} {r : Rcv} (h : Lo P ways acks told now s r) (hw : ∀ d ∈ ways', Wy P d) : Lo P ways' acks told now s r :=
  ⟨h.so, h.ro, h.se, h.re, h.fs, h.fp, h.ls, h.nx, h.tp, h.er, hw, h.ak, h.nw, h.pl, h.sz⟩
theorem Lo.start {W P : Nat} (h1 : 1 ≤ W) (h2 : W ≤ 20) (h3 : 1 ≤ P) (h4 : P ≤ 20) : Lo [] [] [] 0 0 (sd0 5 (W : Int) (P : Int)) (rc0 5 (W : Int)) := by
  refine ⟨sd0_ok ?_, rc0_ok ?_, rfl, rfl, Nat.le_refl _, Nat.le_refl _, rfl, rfl, Nat.le_refl _, fun x hx => (by cases hx), fun x hx => (by cases hx), fun x hx => (by cases hx), Int.le_refl _, by simp, fun x hx => (by cases hx)⟩
  · unfold lepB lstB; simp; omega
  · unfold lepB lstB; simp; omega
/-- A packet of another epoch. -/
def xO : ByteArray := ⟨#[97, 110, 111, 116, 104, 101, 114]⟩
theorem other_due (e : Nat) (he : e ≤ 4) : luE (sd0 (e : Int) 4 1) xO = 0 ∧ ldE (luS (sd0 (e : Int) 4 1) xO) 0 = 0 ∧ ldO (luS (sd0 (e : Int) 4 1) xO) 0 = [dataB (e : Int) 0 xO] := by
  match e, he with
  | 0, _ => exact ⟨by rfl, by rfl, by rfl⟩
  | 1, _ => exact ⟨by rfl, by rfl, by rfl⟩
  | 2, _ => exact ⟨by rfl, by rfl, by rfl⟩
  | 3, _ => exact ⟨by rfl, by rfl, by rfl⟩
  | 4, _ => exact ⟨by rfl, by rfl, by rfl⟩
theorem Lo.stale {P ways acks : List ByteArray} {told now : Nat} {s : Snd} {r : Rcv} (h : Lo P ways acks told now s r) (e : Nat) (he : e ≤ 4) : ltE r (dataB (e : Int) 0 xO) = 190 ∧ ltR r (dataB (e : Int) 0 xO) = r ∧ ltO r (dataB (e : Int) 0 xO) = [] ∧ ltA r (dataB (e : Int) 0 xO) = ⟨#[]⟩ := by
  have hr := lrD_data (ep := (e : Int)) (n := 0) (b := xO) (by omega) (by omega) (by decide) (by decide) (by decide)
  exact ltE_stale hr (by rw [h.re]; omega)
end Go.Proofs.Ytjacedlfkimlhaa
