/-
  A trip: how it lies between two calls; it falls by its once.
-/
import Derived.Test.YtmcilconledabaaTrB
namespace Go.Proofs.Ytmcilconledabaa
open Go.RowKit

/-- A trip: its capacity, what is used, its reason: a place and a code. -/
structure TS where
  room : Int
  used : Int
  pl : Int
  code : Int
/-- Has it fallen? -/
def TS.dn (s : TS) : Int := if s.code = 0 then 0 else 1
/-- A trip lies there. -/
structure Tr (b : Nat) (s : TS) (w : World) : Prop where
  box : CBox b (trC s.room s.used s.dn 0 s.pl s.code) 65 w
  low : 0 ≤ s.used
  top : s.used ≤ s.room
  fit : s.room ≤ 9223372036854775807
  zero : s.code = 0 → s.pl = 0
theorem Tr.kp {b : Nat} {s : TS} {w w' : World} {F : List Nat} (h : Tr b s w) (hk : Kp F w w') (hF : b ∉ F) : Tr b s w' := ⟨h.box.kp hk hF, h.low, h.top, h.fit, h.zero⟩
theorem Tr.lt {b : Nat} {s : TS} {w : World} (h : Tr b s w) : b < w.heap.size := (Array.getElem?_eq_some_iff.1 h.box).1
theorem kp_tr {a b c : World} (h : Kp [] a b) (k : Kp [] b c) : Kp [] a c := h.trans k (by simp)
theorem kp_own {a b c : World} {g : Nat} (h : Kp [] a b) (k : Kp [g] b c) (hg : a.heap.size ≤ g) : Kp [] a c := h.trans k (fun x hx => by simp at hx; subst hx; exact Or.inr hg)

theorem onDone (b : Nat) (r u a0 c0 : Int) (fv : Value) (w : World) (HB : CBox b (trC r u 1 0 a0 c0) 65 w) :
    Calls Try.prog 22 #[.pointer (some ⟨b, 2, none⟩), fv] w fun e w' => e = .returned (.tuple #[]) ∧ w' = w := by
  have L := hide (onLoad ⟨b, 2, none⟩ 1 w (HB.cell rfl))
  clear HB
  go_enter Try.func22, Try.ntmps22
  go_wp2_with fail
  refine (unhide L).mono ?_
  rintro e w2 ⟨rfl, rfl⟩
  go_wp2
  go_end0
  exact ⟨rfl, rfl⟩
theorem onFirst (b pa pc pt pf : Nat) (r u a0 c0 at' code : Int) (ta tc tt tf : Nat) (na : ¬ b = pa) (nc : ¬ b = pc) (nt : ¬ b = pt) (nf : ¬ b = pf) (w : World)
    (HB : CBox b (trC r u 0 0 a0 c0) 65 w) (HA : CBox pa #[.int .i64 at'] ta w) (HC : CBox pc #[.int .i64 code] tc w) (HT : CBox pt #[.pointer (some ⟨b, 0, none⟩)] tt w) (HF : CBox pf #[.bool false] tf w) :
    Calls Try.prog 22 #[.pointer (some ⟨b, 2, none⟩), .func (.func 23) #[] #[.pointer (some ⟨pa, 0, none⟩), .pointer (some ⟨pc, 0, none⟩), .pointer (some ⟨pt, 0, none⟩), .pointer (some ⟨pf, 0, none⟩)]] w fun e w' => e = .returned (.tuple #[]) ∧
      CBox b (trC r u 1 0 at' code) 65 w' ∧ CBox pf #[.bool true] tf w' ∧ Kp [b, pf] w w' := by
  have L := hide (onLoad ⟨b, 2, none⟩ 0 w (HB.cell rfl))
  have SL := hide (onSlow b pa pc pt pf r u a0 c0 at' code ta tc tt tf na nc nt nf w HB HA HC HT HF)
  clear HB HA HC HT HF na nc nt nf
  go_enter Try.func22, Try.ntmps22
  go_wp2_with fail
  refine (unhide L).mono ?_
  rintro e w2 ⟨rfl, rfl⟩
  go_wp2_with fail
  refine (unhide SL).mono ?_
  rintro e w3 ⟨rfl, hb, hf, hk⟩
  have HH := hide (And.intro hb (And.intro hf hk))
  clear hb hf hk
  go_wp2
  go_end0
  exact ⟨rfl, unhide HH⟩
theorem heap_size_alloc (w : World) (o : Obj) : (w.alloc o).heap.size = w.heap.size + 1 := by simp
/-- What is laid ahead of a once's call: four variables that the function captures. -/
abbrev fa4 (b : Nat) (code pl : Int) (w : World) : World := (((w.alloc (.cells #[.pointer (some ⟨b, 0, none⟩)] 23)).alloc (.cells #[.int .i64 code] 24)).alloc (.cells #[.int .i64 pl] 3)).alloc (.cells #[.bool false] 4)
theorem fallDo (b : Nat) (s : TS) (code pl : Int) (w : World) (h : Tr b s w) :
    Calls Try.prog 22 #[.pointer (some ⟨b, 2, none⟩), .func (.func 23) #[] #[.pointer (some ⟨w.heap.size + 1 + 1, 0, none⟩), .pointer (some ⟨w.heap.size + 1, 0, none⟩), .pointer (some ⟨w.heap.size, 0, none⟩), .pointer (some ⟨w.heap.size + 1 + 1 + 1, 0, none⟩)]]
      (fa4 b code pl w) fun e w' => e = .returned (.tuple #[]) ∧ CBox b (trC s.room s.used 1 0 (if s.code = 0 then pl else s.pl) (if s.code = 0 then code else s.code)) 65 w' ∧ CBox (w.heap.size + 1 + 1 + 1) #[.bool (decide (s.code = 0))] 4 w' ∧ Kp [b] w w' := by
  have hl := h.lt
  have t1 := CBox.new w #[.pointer (some ⟨b, 0, none⟩)] 23
  have k1 := Kp.alloc w (.cells #[.pointer (some ⟨b, 0, none⟩)] 23)
  have z1 := heap_size_alloc w (.cells #[.pointer (some ⟨b, 0, none⟩)] 23)
  unfold fa4
  generalize w.alloc (.cells #[.pointer (some ⟨b, 0, none⟩)] 23) = w1 at *
  have c2 := CBox.new w1 #[.int .i64 code] 24
  have k2 := Kp.alloc w1 (.cells #[.int .i64 code] 24)
  have z2 := heap_size_alloc w1 (.cells #[.int .i64 code] 24)
  generalize w1.alloc (.cells #[.int .i64 code] 24) = w2 at *
  have a3 := CBox.new w2 #[.int .i64 pl] 3
  have k3 := Kp.alloc w2 (.cells #[.int .i64 pl] 3)
  have z3 := heap_size_alloc w2 (.cells #[.int .i64 pl] 3)
  generalize w2.alloc (.cells #[.int .i64 pl] 3) = w3 at *
  have f4 := CBox.new w3 #[.bool false] 4
  have k4 := Kp.alloc w3 (.cells #[.bool false] 4)
  generalize w3.alloc (.cells #[.bool false] 4) = w4 at *
  rw [z3, z2, z1] at f4
  rw [z2, z1] at a3
  rw [z1] at c2
  have kk : Kp [] w w4 := kp_tr (kp_tr (kp_tr k1 k2) k3) k4
  have hb := h.box.kp kk (by simp)
  by_cases hs : s.code = 0
  · have hd : s.dn = 0 := if_pos hs
    rw [hd] at hb
    refine (onFirst b (w.heap.size + 1 + 1) (w.heap.size + 1) w.heap.size (w.heap.size + 1 + 1 + 1) s.room s.used s.pl s.code pl code _ _ _ _ (by omega) (by omega) (by omega) (by omega) w4 hb (a3.kp k4 (by simp)) (c2.kp (kp_tr k3 k4) (by simp)) (t1.kp (kp_tr (kp_tr k2 k3) k4) (by simp)) f4).mono fun e w' hh => ?_
    rw [if_pos hs, if_pos hs, decide_eq_true hs]
    exact ⟨hh.1, hh.2.1, hh.2.2.1, (kk.mono (by simp)).trans hh.2.2.2 (fun x hx => by simp at hx; rcases hx with rfl | rfl; exact Or.inl (by simp); exact Or.inr (by omega))⟩
  · have hd : s.dn = 1 := if_neg hs
    rw [hd] at hb
    refine (onDone b s.room s.used s.pl s.code _ w4 hb).mono fun e w' hh => ?_
    rw [if_neg hs, if_neg hs, decide_eq_false hs, hh.2]
    exact ⟨hh.1, hb, f4, kk.mono (by simp)⟩
theorem fall_any (b : Nat) (s : TS) (code pl : Int) (w : World) (h : Tr b s w) :
    Calls Try.prog 20 #[.pointer (some ⟨b, 0, none⟩), .int .i64 code, .int .i64 pl] w fun e w' => e = .returned (.bool (decide (s.code = 0))) ∧ CBox b (trC s.room s.used 1 0 (if s.code = 0 then pl else s.pl) (if s.code = 0 then code else s.code)) 65 w' ∧ Kp [b] w w' := by
  have hmf : ∀ (fn : Fn) (first cap : Array Value) (w : World), (Instr.makeFunc fn first cap).run Try.prog w = .ok (.func fn first cap) w := fun _ _ _ _ => rfl
  have DO := hide (fallDo b s code pl w h)
  clear h
  generalize decide (s.code = 0) = B at *
  generalize (if s.code = 0 then pl else s.pl) = P at *
  generalize (if s.code = 0 then code else s.code) = C at *
  go_enter Try.func20, Try.ntmps20
  go_wp2_with fail
  refine (unhide DO).mono ?_
  rintro e w1 ⟨rfl, hb, hf, hk⟩
  have HH := hide (And.intro hb hk)
  have hc := hf.cell (i := 0) rfl
  clear hb hk hf DO
  go_wp2
  go_ret
  exact ⟨rfl, unhide HH⟩
end Go.Proofs.Ytmcilconledabaa
