/-
  LinkPlays: senders and receivers beside the document's; packets that were told.
-/
import Derived.Test.YtiomngpfolkgpaaL23
import Derived.Test.YtiomngpfolkgpaaL24
import Derived.Test.YtiomngpfolkgpaaL25
import Derived.Test.YtiomngpfolkgpaaL26
import Derived.Test.YtiomngpfolkgpaaL18
namespace Go.Proofs.Ytiomngpfolkgpaa
open Go.RowKit Lk

theorem rNewSender_at (ep wd pt : Int) (w : World) (h : (lepB ep && (lstB wd && lstB pt)) = true) :
    Calls Try.prog 5 #[.int .i64 ep, .int .i64 wd, .int .i64 pt] w fun e w' => e = .returned (.tuple #[.pointer (some ⟨w.heap.size, 0, none⟩), .int .i64 0]) ∧ RsAt w.heap.size w' w.heap.size (sd0 ep wd pt) ∧ Kp [] w w' := by
  refine (rNewSender_ok ep wd pt w h).mono ?_
  rintro e w' ⟨rfl, rfl⟩
  have hw : 1 ≤ wd := by
    simp only [Bool.and_eq_true] at h
    have := h.2.1
    unfold lstB at this
    simp only [decide_eq_true_iff] at this
    omega
  refine ⟨rfl, ⟨.slice none 0 0, ⟨?_, Or.inl ⟨rfl, rfl⟩⟩, Nat.le_refl _, fun k hk => by cases hk⟩, Kp.alloc _ _⟩
  have := CBox.new w #[.int .i64 ep, .int .i64 wd, .int .i64 pt, .slice none 0 0, .int .i64 0, .int .i64 0] 52
  unfold rsC sd0
  dsimp only
  rw [show ((wd.toNat : Nat) : Int) = wd by omega]
  exact this
theorem rNewReceiver_at (ep wd : Int) (w : World) (h : (lepB ep && lstB wd) = true) :
    Calls Try.prog 7 #[.int .i64 ep, .int .i64 wd] w fun e w' => e = .returned (.tuple #[.pointer (some ⟨w.heap.size, 0, none⟩), .int .i64 0]) ∧ RrAt w.heap.size w' w.heap.size (rc0 ep wd) ∧ Kp [] w w' := by
  refine (rNewReceiver_ok ep wd w h).mono ?_
  rintro e w' ⟨rfl, rfl⟩
  have hw : 1 ≤ wd := by
    simp only [Bool.and_eq_true] at h
    have := h.2
    unfold lstB at this
    simp only [decide_eq_true_iff] at this
    omega
  refine ⟨rfl, ⟨.slice none 0 0, ⟨?_, ErRow.nil _⟩, Nat.le_refl _, fun k hk => by cases hk⟩, Kp.alloc _ _⟩
  have := CBox.new w #[.int .i64 ep, .int .i64 wd, .int .i64 0, .slice none 0 0] 55
  unfold rrC rc0
  dsimp only
  rw [show ((wd.toNat : Nat) : Int) = wd by omega]
  exact this
/-- The kinds differ. -/
theorem ko_sd_rs (o : Obj) (h : rsO o = true) : sdO o = false := by
  cases o with
  | cells cs t f =>
    unfold rsO at h
    simp only [Bool.or_eq_true, beq_iff_eq] at h
    rcases h with rfl | rfl <;> rfl
  | _ => rfl
theorem ko_sd_rr (o : Obj) (h : rrO o = true) : sdO o = false := by
  cases o with
  | cells cs t f =>
    unfold rrO at h
    simp only [Bool.or_eq_true, beq_iff_eq] at h
    rcases h with rfl | rfl <;> rfl
  | _ => rfl
theorem ko_rc_rs (o : Obj) (h : rsO o = true) : rcO o = false := by
  cases o with
  | cells cs t f =>
    unfold rsO at h
    simp only [Bool.or_eq_true, beq_iff_eq] at h
    rcases h with rfl | rfl <;> rfl
  | _ => cases h
theorem ko_rc_rr (o : Obj) (h : rrO o = true) : rcO o = false := by
  cases o with
  | cells cs t f =>
    unfold rrO at h
    simp only [Bool.or_eq_true, beq_iff_eq] at h
    rcases h with rfl | rfl <;> rfl
  | _ => cases h
theorem ko_rs_rr (o : Obj) (h : rrO o = true) : rsO o = false := by
  cases o with
  | cells cs t f =>
    unfold rrO at h
    simp only [Bool.or_eq_true, beq_iff_eq] at h
    rcases h with rfl | rfl <;> rfl
  | _ => rfl
theorem ko_flip {P Q : Obj → Bool} (h : ∀ o, P o = true → Q o = false) (o : Obj) (hq : Q o = true) : P o = false := by
  cases hp : P o with
  | false => rfl
  | true => rw [h o hp] at hq; cases hq
/-- Rows of texts are of none of these kinds. -/
theorem TxQ.kept {P : Obj → Bool} {B B' : Nat} {w w' : World} {v : Value} {l : List ByteArray} (h : TxQ B w v l) (hk : Ko P B' w w') (hP : ∀ cur, P (.cells cur 9 (0, 0)) = false) : TxQ B w' v l := by
  rcases h with h | ⟨g, off, cap, cur, rfl, h1, h2, h3⟩
  · exact Or.inl h
  · exact Or.inr ⟨g, off, cap, cur, rfl, h1, hk.block g _ h2 (Or.inr (hP _)), h3⟩
theorem TxO.kept {P : Obj → Bool} {B B' : Nat} {w w' : World} {v : Value} {l : List ByteArray} (h : TxO B w v l) (hk : Ko P B' w w') (hP : ∀ cur, P (.cells cur 9 (0, 0)) = false) : TxO B w' v l := by
  obtain ⟨h1, h2 | ⟨g, cp, cur, rfl, hb, hh, r⟩⟩ := h
  · exact ⟨h1, Or.inl h2⟩
  · exact ⟨h1, Or.inr ⟨g, cp, cur, rfl, hb, hk.block g _ hh (Or.inr (hP _)), r⟩⟩
/-- All that lies there between two acts. -/
structure LpS (w W : World) (sb mb rb nb : Nat) (s s2 : Snd) (r r2 : Rcv) (tv : Value) (told : List ByteArray) : Prop where
  sd : SdAt w.heap.size W sb s
  rs : RsAt w.heap.size W mb s2
  rc : RcAt w.heap.size W rb r
  rr : RrAt w.heap.size W nb r2
  tx : TxQ w.heap.size W tv told
  be : Below w.heap.size w W
  so : SOk s
  ro : ROk r
  tz : ∀ d ∈ told, d.size ≤ 70000
theorem LpS.size {w W : World} {sb mb rb nb : Nat} {s s2 : Snd} {r r2 : Rcv} {tv : Value} {told : List ByteArray} (h : LpS w W sb mb rb nb s s2 r r2 tv told) : w.heap.size ≤ W.heap.size := h.be.size
theorem LpS.kp {w W W' : World} {sb mb rb nb : Nat} {s s2 : Snd} {r r2 : Rcv} {tv : Value} {told : List ByteArray} (h : LpS w W sb mb rb nb s s2 r r2 tv told) (k : Kp [] W W') : LpS w W' sb mb rb nb s s2 r r2 tv told :=
  ⟨h.sd.kp k, h.rs.kp k, h.rc.kp k, h.rr.kp k, h.tx.kp k (by simp), h.be.trans (k.below h.size (by simp)), h.so, h.ro, h.tz⟩
theorem LpS.msd {w W W' : World} {sb mb rb nb : Nat} {s s2 s' : Snd} {r r2 : Rcv} {tv : Value} {told : List ByteArray} (h : LpS w W sb mb rb nb s s2 r r2 tv told) (a : SdAt w.heap.size W' sb s') (k : Ko sdO w.heap.size W W') (ho : SOk s') : LpS w W' sb mb rb nb s' s2 r r2 tv told :=
  ⟨a, h.rs.ko k (Or.inr ko_sd_rs), h.rc.ko k (Or.inr sdO_rc), h.rr.ko k (Or.inr ko_sd_rr), h.tx.kept k (fun _ => rfl), h.be.trans (k.below h.size), ho, h.ro, h.tz⟩
theorem LpS.mrs {w W W' : World} {sb mb rb nb : Nat} {s s2 s' : Snd} {r r2 : Rcv} {tv : Value} {told : List ByteArray} (h : LpS w W sb mb rb nb s s2 r r2 tv told) (a : RsAt w.heap.size W' mb s') (k : Ko rsO w.heap.size W W') : LpS w W' sb mb rb nb s s' r r2 tv told :=
  ⟨h.sd.ko k (Or.inr (ko_flip ko_sd_rs)), a, h.rc.ko k (Or.inr (ko_flip ko_rc_rs)), h.rr.ko k (Or.inr ko_rs_rr), h.tx.kept k (fun _ => rfl), h.be.trans (k.below h.size), h.so, h.ro, h.tz⟩
theorem LpS.mrc {w W W' : World} {sb mb rb nb : Nat} {s s2 : Snd} {r r2 r' : Rcv} {tv : Value} {told : List ByteArray} (h : LpS w W sb mb rb nb s s2 r r2 tv told) (a : RcAt w.heap.size W' rb r') (k : Ko rcO w.heap.size W W') (ho : ROk r') : LpS w W' sb mb rb nb s s2 r' r2 tv told :=
  ⟨h.sd.ko k (Or.inr rcO_sd), h.rs.ko k (Or.inr ko_rc_rs), a, h.rr.ko k (Or.inr ko_rc_rr), h.tx.kept k (fun _ => rfl), h.be.trans (k.below h.size), h.so, ho, h.tz⟩
theorem LpS.mrr {w W W' : World} {sb mb rb nb : Nat} {s s2 : Snd} {r r2 r' : Rcv} {tv : Value} {told : List ByteArray} (h : LpS w W sb mb rb nb s s2 r r2 tv told) (a : RrAt w.heap.size W' nb r') (k : Ko rrO w.heap.size W W') : LpS w W' sb mb rb nb s s2 r r' tv told :=
  ⟨h.sd.ko k (Or.inr (ko_flip ko_sd_rr)), h.rs.ko k (Or.inr (ko_flip ko_rs_rr)), h.rc.ko k (Or.inr (ko_flip ko_rc_rr)), a, h.tx.kept k (fun _ => rfl), h.be.trans (k.below h.size), h.so, h.ro, h.tz⟩
theorem str_no {b : Nat} {cs : Array Value} {t : TypeId} {W : World} {v : Value} {B : Nat} {l : List ByteArray} (h : TxQ B W v l) (hb : CBox b cs t W) (ht : t ≠ 9) : b ∉ v.ownBlock.toList := fun hm => by
  obtain ⟨_, cur, hc⟩ := h.block (by simpa using hm : v.ownBlock = some b)
  exact box_ne (show CBox b cur 9 W from hc) hb (fun e => ht e.symm) rfl
/-- What was told is put behind. -/
theorem LpS.put {w W W' : World} {sb mb rb nb : Nat} {s s2 : Snd} {r r2 : Rcv} {tv tv' : Value} {told told' : List ByteArray} (h : LpS w W sb mb rb nb s s2 r r2 tv told) (a : TxQ w.heap.size W' tv' told') (k : Kp tv.ownBlock.toList W W') (hz : ∀ d ∈ told', d.size ≤ 70000) : LpS w W' sb mb rb nb s s2 r r2 tv' told' := by
  have hk : Ko (fun o => match o with | .cells _ t _ => t == 9 | _ => false) w.heap.size W W' := Ko.of k (fun x hm _ => by
    obtain ⟨h1, cur, hc⟩ := h.tx.block (by simpa using hm : tv.ownBlock = some x)
    exact ⟨h1, _, hc, rfl⟩)
  have no : ∀ (P : Obj → Bool), (∀ cur f, P (.cells cur 9 f) = false) → ∀ o, P o = true → (match o with | .cells _ t _ => t == 9 | _ => false) = false := fun P hP o ho => by
    cases o with
    | cells cs t f =>
      by_cases ht : t = 9
      · subst ht; rw [hP] at ho; cases ho
      · exact beq_eq_false_iff_ne.2 ht
    | _ => rfl
  exact ⟨h.sd.ko hk (Or.inr (no _ (fun _ _ => rfl))), h.rs.ko hk (Or.inr (no _ (fun _ _ => rfl))), h.rc.ko hk (Or.inr (no _ (fun _ _ => rfl))), h.rr.ko hk (Or.inr (no _ (fun _ _ => rfl))), a, h.be.trans (hk.below h.size), h.so, h.ro, hz⟩
theorem encS_size {l : List It} {n : Nat} (h : (listB l).length ≤ n) : (encS l).size ≤ n := by
  unfold encS
  split
  · show (listB l).toArray.size ≤ n
    simpa using h
  · exact Nat.zero_le _
theorem lpk_size {ep pt t : Int} (e0 : 0 ≤ ep) (e1 : ep ≤ 1073741824) : ∀ (n : Nat) (a : List Pu), n + a.length ≤ 1073741825 → (∀ x ∈ a, x.b.size ≤ 60000) → ∀ d ∈ lpk ep pt t n a, d.size ≤ 70000
  | n, [], _, _, d, hd => by cases hd
  | n, x :: a, hn, ha, d, hd => by
    rw [List.length_cons] at hn
    have ih := lpk_size (pt := pt) (t := t) e0 e1 (n + 1) a (by omega) (fun y hy => ha y (List.mem_cons_of_mem _ hy)) d
    have hx := ha x (List.mem_cons_self ..)
    rw [lpk] at hd
    split at hd
    · rcases List.mem_cons.1 hd with rfl | hd
      · exact encS_size (by have := dataL_len (n := (n : Int)) (b := x.b) e0 e1 (by omega) (by omega) (by omega); omega)
      · exact ih hd
    · exact ih hd
theorem ldO_size {s : Snd} (h : SOk s) (t : Int) : ∀ d ∈ ldO s t, d.size ≤ 70000 := by
  unfold ldO
  split
  · have := h.top
    exact lpk_size h.e0 h.e1 _ _ (by rw [List.length_take]; omega) (fun x hx => (h.sz x (List.mem_of_mem_take hx)).1)
  · intro d hd; cases hd
theorem ldO_few {s : Snd} (h : SOk s) (t : Int) : (ldO s t).length ≤ 256 := by
  unfold ldO
  split
  · have h1 := lpk_len s.ep s.pt t s.first (s.left.take s.wd)
    have h2 := h.w1
    rw [List.length_take] at h1
    omega
  · simp
theorem ltA_size {r : Rcv} (h : ROk r) (p : ByteArray) : (ltA r p).size ≤ 70000 := by
  unfold ltA
  split
  · have := (h.ltR p).n1
    exact encS_size (by have := ackL_len (n := ((ltR r p).next : Int)) h.e0 h.e1 (by omega) (by omega); omega)
  · exact Nat.zero_le _
theorem lgF_len : ∀ (f n : Nat) (l : List (Nat × ByteArray)), (lgF f n l).1.length ≤ f
  | 0, _, _ => Nat.le_refl _
  | f + 1, n, l => by
    rw [lgF_succ]
    split
    · simp
    · have := lgF_len f (n + 1) (erd l n)
      dsimp only
      rw [List.length_cons]
      omega
theorem ltO_len (r : Rcv) (p : ByteArray) (h : ROk r) : (ltO r p).length ≤ 9223372036854775807 := by
  unfold ltO
  split
  · have h1 := lgF_len (ltK r p).early.length (ltK r p).next (ltK r p).early
    have h2 := (h.ltK p).few
    unfold lgO
    omega
  · simp
theorem SdAt.lower {B B' : Nat} {w : World} {b : Nat} {s : Snd} (h : SdAt B w b s) (hB : B' ≤ B) : SdAt B' w b s := by
  obtain ⟨v, h1, h2, h3⟩ := h
  exact ⟨v, h1, by omega, fun k hk => by have := h3 k hk; omega⟩
theorem RsAt.lower {B B' : Nat} {w : World} {b : Nat} {s : Snd} (h : RsAt B w b s) (hB : B' ≤ B) : RsAt B' w b s := by
  obtain ⟨v, h1, h2, h3⟩ := h
  exact ⟨v, h1, by omega, fun k hk => by have := h3 k hk; omega⟩
theorem RcAt.lower {B B' : Nat} {w : World} {b : Nat} {r : Rcv} (h : RcAt B w b r) (hB : B' ≤ B) : RcAt B' w b r := by
  obtain ⟨q, h1, h2, h3⟩ := h
  exact ⟨q, h1, by omega, by omega⟩
theorem RrAt.lower {B B' : Nat} {w : World} {b : Nat} {r : Rcv} (h : RrAt B w b r) (hB : B' ≤ B) : RrAt B' w b r := by
  obtain ⟨v, h1, h2, h3⟩ := h
  exact ⟨v, h1, by omega, fun k hk => by have := h3 k hk; omega⟩
end Go.Proofs.Ytiomngpfolkgpaa
