/-
  Names and events in rows of the call's own, side by side.
  ExprNeeds, plainly: a condition asks just for the stages that are told.
  Rows of names and of events, put together out of others.
-/
import Derived.Test.YtogklmljllocbabGreatDoorF08
import Derived.Test.YtogklmljllocbabGreatDoorF22
import Derived.Test.YtogklmljllocbabGreatDoorF18
namespace Go.Proofs.YtogklmljllocbabGreatDoor
open Go.RowKit Go.Shelf

def evW (e : Ev) : List Value := [.string e.k, .string e.t, .int .i64 e.n0, .int .i64 e.n1, .int .i64 e.n2, .int .i64 e.n3, .string e.x]
theorem evW_len (e : Ev) : (evW e).length = 7 := rfl
theorem info_EvW : (Tryz.prog.info? 29).map (fun i => (i.zero, i.size, i.bytes)) = some (some (.agg #[.string ⟨#[]⟩, .string ⟨#[]⟩, .int .i64 0, .int .i64 0, .int .i64 0, .int .i64 0, .string ⟨#[]⟩]), 7, 80) := by kernel_rfl
/-- A row of events of the call's own. -/
def OwnsX (B : Nat) (w : World) (v : Value) (l : List Ev) : Prop := w.ownsRow B 29 7 v l.length (l.flatMap evW)
theorem OwnsX.nil (B : Nat) (w : World) : OwnsX B w (.slice none 0 0) [] := World.ownsRow_nil _ _ _ _
theorem OwnsX.at {B : Nat} {w : World} {v : Value} {l : List Ev} (h : OwnsX B w v l) : ∃ ad cp, v = .slice ad l.length cp ∧ EvsAt w ad l := by
  obtain ⟨_, ⟨rfl, h0⟩ | ⟨g, cp, cur, rfl, _, _, hcap, _⟩⟩ := id h
  · refine ⟨none, 0, by rw [h0], fun hne => ?_⟩
    exact absurd (List.eq_nil_of_length_eq_zero h0) hne
  · have hl := World.ownsRow.lt h g rfl
    refine ⟨_, _, rfl, fun _ => ⟨g, 0, rfl, hl.2, fun i e hi j u hu => ?_⟩⟩
    obtain ⟨hil, rfl⟩ := List.getElem?_eq_some_iff.1 hi
    have hj : j < 7 := by
      have := (Array.getElem?_eq_some_iff.1 hu).1
      simpa [Ev.c] using this
    have c := own_cell evW_len h i j hil hj
    rw [Nat.zero_add, c, ← hu]
    unfold evW Ev.c
    simp
theorem OwnsX.app {B : Nat} {w : World} {v : Value} {l : List Ev} (ho : OwnsX B w v l) (hB : B ≤ w.heap.size) (e : Ev) {g c : Nat} (hc : CBox g e.c 29 w) (hl : l.length + 1 ≤ 1000000) (ty : TypeId) :
    ∃ g' cap w', (Builtin.append_ #[25, 25] ty #[v, .slice (some ⟨g, 0, none⟩) 1 c]).run Tryz.prog w = .ok (.slice (some ⟨g', 0, none⟩) (l.length + 1) cap) w' ∧ OwnsX B w' (.slice (some ⟨g', 0, none⟩) (l.length + 1) cap) (l ++ [e]) ∧ Below B w w' ∧ w.grownBy w' v.ownBlock := by
  obtain ⟨i0, hi, hz0, hz1, hz2⟩ := info_parts info_EvW
  obtain ⟨g', cap, w', hrun, r1, r2, _⟩ := run_append_lies (P := Tryz.prog) (w := w) 25 ty B 29 i0 _ 7 80 Tryz.underlying25 hi hz0 hz1 hz2 rfl (by decide) v l.length (l.flatMap evW) ho ⟨g, 0, none⟩ 1 c (evW e) rfl (fun j u hj => by
    have : e.c[j]? = some u := by
      rw [← hj]
      unfold evW Ev.c
      simp
    rw [Go.WideShapes.add_plain, Nat.zero_add]
    exact hc.cell this) (by
      intro u hu
      unfold evW at hu
      simp only [List.mem_cons, List.not_mem_nil, or_false] at hu
      rcases hu with rfl | rfl | rfl | rfl | rfl | rfl | rfl <;> rfl) (by omega) (by unfold maxLen; omega) (by omega) hB _ rfl
  refine ⟨g', cap, w', hrun, ?_, (Kp.of r2).below hB (fun k hk => ?_), r2⟩
  · unfold OwnsX
    rw [List.length_append, List.flatMap_append]
    simpa using r1
  · have : v.ownBlock = some k := by simpa using hk
    exact (World.ownsRow.lt ho k this).1
/-- Two rows of different types lie in different blocks. -/
theorem rows_ne {W : World} {B B' e e' sz sz' n n' : Nat} {v v' : Value} {xs xs' : List Value} (h : W.ownsRow B e sz v n xs) (h' : W.ownsRow B' e' sz' v' n' xs') (hne : e' ≠ e) : ∀ g, v.ownBlock = some g → g ∉ v'.ownBlock.toList := by
  intro g hg hm
  have hg' : v'.ownBlock = some g := by simpa using hm
  obtain ⟨_, ⟨rfl, _⟩ | ⟨g', cap, cur, rfl, _, h4, _⟩⟩ := h'
  · cases hg'
  · simp [Value.ownBlock] at hg'
    subst hg'
    exact row_ne h (show CBox g' cur e' W from h4) hne hg
/-- The names and the events that go with them. -/
structure AsR (B : Nat) (V W : World) (v u : Value) (ns : List ByteArray) (es : List Ev) : Prop where
  nam : OwnsW B W v ns
  evs : OwnsX B W u es
  kp : Kp [] V W
theorem AsR.go {B : Nat} {V W W' : World} {v u : Value} {ns : List ByteArray} {es : List Ev} (h : AsR B V W v u ns es) (hk : Kp [] W W') : AsR B V W' v u ns es :=
  ⟨h.nam.kp hk, row_kp h.evs hk (by simp), h.kp.trans hk (by simp)⟩
theorem AsR.name {B : Nat} {V W : World} {v u : Value} {ns : List ByteArray} {es : List Ev} (h : AsR B V W v u ns es) (hB : V.heap.size = B) (s : ByteArray) (hl : ns.length + 1 ≤ 1000000) :
    ∃ g' cap w', (Builtin.append_ #[54, 54] 54 #[v, .slice (some ⟨W.heap.size, 0, none⟩) 1 1]).run Tryz.prog (W.alloc (.cells #[.string s] 9)) = .ok (.slice (some ⟨g', 0, none⟩) (ns.length + 1) cap) w' ∧ AsR B V w' (.slice (some ⟨g', 0, none⟩) (ns.length + 1) cap) u (ns ++ [s]) es := by
  have k6 := Kp.alloc W (.cells #[.string s] 9)
  have h6 := h.go k6
  obtain ⟨g', cap, w', hr, ho, _, hg⟩ := OwnsW.app (c := 1) h6.nam (by have := h6.kp.size; omega) s (g := W.heap.size) ((CBox.new W _ _).cell rfl) hl 54
  refine ⟨g', cap, w', hr, ho, row_kp h6.evs (Kp.of hg) (rows_ne h6.evs h6.nam (by decide)), h6.kp.trans (Kp.of hg) (fun x hx => Or.inr ?_)⟩
  have := (World.ownsRow.lt h6.nam x (by simpa using hx)).1
  omega
theorem AsR.event {B : Nat} {V W : World} {v u : Value} {ns : List ByteArray} {es : List Ev} (h : AsR B V W v u ns es) (hB : V.heap.size = B) (e : Ev) (hl : es.length + 1 ≤ 1000000) :
    ∃ g' cap w', (Builtin.append_ #[25, 25] 25 #[u, .slice (some ⟨W.heap.size, 0, none⟩) 1 1]).run Tryz.prog (W.alloc (.cells e.c 29)) = .ok (.slice (some ⟨g', 0, none⟩) (es.length + 1) cap) w' ∧ AsR B V w' v (.slice (some ⟨g', 0, none⟩) (es.length + 1) cap) ns (es ++ [e]) := by
  have k6 := Kp.alloc W (.cells e.c 29)
  have h6 := h.go k6
  obtain ⟨g', cap, w', hr, ho, _, hg⟩ := OwnsX.app (c := 1) h6.evs (by have := h6.kp.size; omega) e (g := W.heap.size) (CBox.new W _ _) hl 25
  refine ⟨g', cap, w', hr, row_kp h6.nam (Kp.of hg) (rows_ne h6.nam h6.evs (by decide)), ho, h6.kp.trans (Kp.of hg) (fun x hx => Or.inr ?_)⟩
  have := (World.ownsRow.lt h6.evs x (by simpa using hx)).1
  omega
/-! Which stages are asked for, and have they all. -/
theorem foldl_stg_mem (x : List Pt) : ∀ out : List ByteArray, (∀ q ∈ out, q ∈ x.foldl stgA out) ∧ ∀ p ∈ x, emptyB p.st = true ∨ p.st ∈ x.foldl stgA out := by
  induction x with
  | nil => intro out; simp
  | cons p r ih =>
    intro out
    obtain ⟨h1, h2⟩ := ih (stgA out p)
    rw [List.foldl_cons]
    have hs : (∀ q ∈ out, q ∈ stgA out p) ∧ (emptyB p.st = true ∨ p.st ∈ stgA out p) := by
      unfold stgA
      split
      · rename_i h
        refine ⟨fun q hq => hq, ?_⟩
        rcases Bool.or_eq_true_iff.1 h with h | h
        · exact Or.inl h
        · exact Or.inr ((hasN_iff _ _).1 h)
      · exact ⟨fun q hq => List.mem_append.2 (Or.inl hq), Or.inr (by simp)⟩
    refine ⟨fun q hq => h1 q (hs.1 q hq), fun q hq => ?_⟩
    rcases List.mem_cons.1 hq with rfl | hq
    · rcases hs.2 with h | h
      · exact Or.inl h
      · exact Or.inr (h1 _ h)
    · exact h2 q hq
theorem all_asked {x : List Pt} {ns : List ByteArray} (h0 : ckK x ≠ 0) (h : (stgS x).all (hasN ns) = true) : hasS ns x = true := by
  unfold stgS at h
  rw [if_neg h0] at h
  unfold hasS
  rw [List.all_eq_true] at h ⊢
  intro p hp
  rw [Bool.or_eq_true]
  rcases (foldl_stg_mem x []).2 p hp with h1 | h1
  · exact Or.inl h1
  · exact Or.inr (h _ h1)
end Go.Proofs.YtogklmljllocbabGreatDoor
namespace Go.Proofs.YtogklmljllocbabGreatDoor

theorem stk_congr {α : Type} {f g : Pt → List α → α} (x : List Pt) (h : ∀ p ∈ x, ∀ l, f p l = g p l) : stk f x = stk g x := by
  induction x with
  | nil => rfl
  | cons p r ih =>
    rw [stk, stk, ih (fun q hq => h q (by simp [hq]))]
    cases stk g r with
    | none => rfl
    | some l =>
      dsimp only
      split
      · rfl
      · rw [h p (by simp)]
theorem fdX_congr {α : Type} {f g : Pt → List α → α} (x : List Pt) (h : ∀ p ∈ x, ∀ l, f p l = g p l) : fdX f x = fdX g x := by
  unfold fdX
  rw [stk_congr x h]
theorem stg_from (x : List Pt) : ∀ out : List ByteArray, ∀ s ∈ x.foldl stgA out, s ∈ out ∨ ∃ p ∈ x, p.st = s ∧ emptyB p.st = false := by
  induction x with
  | nil => intro out s hs; exact Or.inl hs
  | cons p r ih =>
    intro out s hs
    rw [List.foldl_cons] at hs
    rcases ih _ s hs with h | ⟨q, hq, e⟩
    · unfold stgA at h
      split at h
      · exact Or.inl h
      · rename_i hc
        rw [List.mem_append, List.mem_singleton] at h
        rcases h with h | h
        · exact Or.inl h
        · refine Or.inr ⟨p, by simp, h.symm, ?_⟩
          cases he : emptyB p.st with
          | false => rfl
          | true => rw [he] at hc; simp at hc
    · exact Or.inr ⟨q, by simp [hq], e⟩
theorem stg_nodup (x : List Pt) : ∀ out : List ByteArray, out.Nodup → (x.foldl stgA out).Nodup := by
  induction x with
  | nil => intro out h; exact h
  | cons p r ih =>
    intro out h
    rw [List.foldl_cons]
    refine ih _ ?_
    unfold stgA
    split
    · exact h
    · rename_i hc
      have hn : p.st ∉ out := fun hm => by
        have := (hasN_iff out p.st).2 hm
        rw [this] at hc
        simp at hc
      rw [List.nodup_append]
      refine ⟨h, by simp, fun a ha b hb => ?_⟩
      rw [List.mem_singleton] at hb
      rintro rfl
      rw [hb] at ha
      exact hn ha
theorem stgS_ne {x : List Pt} (h : ckK x = 3) : stgS x = x.foldl stgA [] := by unfold stgS; rw [if_neg (by rw [h]; decide)]; rfl
theorem hasS_of {x : List Pt} {ns : List ByteArray} (h : ckK x = 3) (hs : ∀ s ∈ stgS x, s ∈ ns) : hasS ns x = true := all_asked (by rw [h]; decide) (List.all_eq_true.2 fun s hm => (hasN_iff _ _).2 (hs s hm))
theorem needs_ok {x : List Pt} {e : Ev} {es : List Ev} (h : ckK x = 3) (hl : es.length = (stgS x).length) : hdE x ⟨e, stgS x, es⟩ = 0 := by
  unfold hdE
  rw [if_neg (by simp [h]), if_neg (by rw [hasS_of h (fun s hs => hs)]; simp [hl])]
theorem needs_more {x : List Pt} {e e0 : Ev} {es : List Ev} {z : ByteArray} (h : ckK x = 3) (hl : es.length = (stgS x).length) : hdE x ⟨e, z :: stgS x, e0 :: es⟩ = 0 := by
  unfold hdE
  rw [if_neg (by simp [h]), if_neg (by rw [hasS_of h (fun s hs => List.mem_cons_of_mem _ hs)]; simp [hl])]
theorem needs_same {x : List Pt} {e e0 : Ev} {es : List Ev} {z : ByteArray} (h : ckK x = 3) (hl : es.length = (stgS x).length) (hz : z ∉ stgS x) : hdB x ⟨e, z :: stgS x, e0 :: es⟩ = hdB x ⟨e, stgS x, es⟩ := by
  unfold hdB
  rw [needs_ok h hl, needs_more h hl]
  have : fdX (vlv ⟨e, z :: stgS x, e0 :: es⟩) x = fdX (vlv ⟨e, stgS x, es⟩) x := fdX_congr x (fun p hp l => by
    match l with
    | [] =>
      show lfV _ p = lfV _ p
      unfold lfV
      have : (⟨e, z :: stgS x, e0 :: es⟩ : Mo).at p.st = (⟨e, stgS x, es⟩ : Mo).at p.st := by
        unfold Mo.at
        cases he : emptyB p.st with
        | true => rfl
        | false =>
          have hm : p.st ∈ stgS x := by
            rw [stgS_ne h]
            rcases (foldl_stg_mem x []).2 p hp with h1 | h1
            · rw [he] at h1; cases h1
            · exact h1
          have hne : ¬ z.data.toList = p.st.data.toList := fun e1 => by
            have : z = p.st := by
              apply ByteArray.ext
              exact Array.ext' e1
            rw [this] at hz
            exact hz hm
          simp only [Bool.false_eq_true, if_false]
          rw [fstN, if_neg hne, List.getD_cons_succ]
      rw [this]
    | [a] => rfl
    | a :: b :: r => rfl)
  rw [this]
theorem needs_less {x : List Pt} {e : Ev} {es : List Ev} (h : ckK x = 3) {i : Nat} (hi : i < (stgS x).length) : hdE x ⟨e, (stgS x).take i ++ (stgS x).drop (i + 1), es⟩ = 5 := by
  unfold hdE
  rw [if_neg (by simp [h]), if_pos]
  refine Or.inr ?_
  have hm2 : (stgS x)[i] ∈ x.foldl stgA [] := by rw [← stgS_ne h]; exact List.getElem_mem hi
  rcases stg_from x [] _ hm2 with h0 | ⟨p, hp, hpe, hpn⟩
  · cases h0
  · show hasS ((stgS x).take i ++ (stgS x).drop (i + 1)) x = false
    cases hh : hasS ((stgS x).take i ++ (stgS x).drop (i + 1)) x with
    | false => rfl
    | true =>
      exfalso
      unfold hasS at hh
      rw [List.all_eq_true] at hh
      have := hh p hp
      rw [hpn, Bool.false_or, hasN_iff] at this
      have hpe' : p.st = (stgS x)[i] := hpe
      rw [hpe'] at this
      have hnd : (stgS x).Nodup := by rw [stgS_ne h]; exact stg_nodup x [] List.nodup_nil
      have hsp : stgS x = (stgS x).take i ++ (stgS x)[i] :: (stgS x).drop (i + 1) := by rw [List.getElem_cons_drop, List.take_append_drop]
      rw [hsp, List.nodup_append] at hnd
      obtain ⟨_, h2, h3⟩ := hnd
      rw [List.nodup_cons] at h2
      rw [List.mem_append] at this
      rcases this with t | t
      · have := h3 _ t _ (List.mem_cons_self)
        exact this rfl
      · exact h2.1 t
end Go.Proofs.YtogklmljllocbabGreatDoor
namespace Go.Proofs.YtogklmljllocbabGreatDoor
open Go.RowKit Go.Shelf

/-- A statement's append whose run is known. -/
theorem step_app_run {P : Program} {ops : Array Oper} {o : Oper} {a : Act} {w w' : World} {K : Act → World → Prop} {Q : Exit → Act → World → Prop} {E : Prop} {v y r : Value}
    (hg : o.guard = none) (s x : Operand) (t : TypeId) (hop : o.op = Op.call { callee := Callee.builtin Builtin.append, args := #[s, x], argTypes := #[t, t] }) (hs : a.eval s = v) (hx : a.eval x = y)
    (hrun : (Builtin.append_ #[t, t] o.type #[v, y]).run P w = .ok r w') (hK : K (a.put o.dst r) w') : if Region.wanted o (yielded ops a.tmps) = true then Oper.wp P o a w K Q else E := by
  have hw : Region.wanted o (yielded ops a.tmps) = true := by simp [Region.wanted, hg]
  rw [if_pos hw]
  unfold Oper.wp
  simp [execOp, hop, resolve, invoke, builtin, hs, hx, hrun, Result.andThen]
  exact hK
theorem row_raise {W : World} {B e sz g n cap : Nat} {xs : List Value} (h : W.ownsRow 0 e sz (.slice (some ⟨g, 0, none⟩) n cap) n xs) (hB : B ≤ g) : W.ownsRow B e sz (.slice (some ⟨g, 0, none⟩) n cap) n xs := by
  obtain ⟨h1, ⟨e1, _⟩ | ⟨g', cap', cur, e1, _, h4⟩⟩ := h
  · cases e1
  · cases e1
    exact ⟨h1, .inr ⟨g, cap, cur, rfl, hB, h4⟩⟩
theorem row_lower {W : World} {B e sz n : Nat} {v : Value} {xs : List Value} (h : W.ownsRow B e sz v n xs) : W.ownsRow 0 e sz v n xs := by
  obtain ⟨h1, h2 | ⟨g', cap', cur, e1, _, h4⟩⟩ := h
  · exact ⟨h1, .inl h2⟩
  · exact ⟨h1, .inr ⟨g', cap', cur, e1, Nat.zero_le _, h4⟩⟩
theorem nms_cells {w : World} {ad : Option Addr} {l : List ByteArray} (h : NmsAt w ad l) : ∀ a, ad = some a → ∀ j u, (nmC l)[j]? = some u → w.cell? (a.add j) = some u := by
  intro a ha j u hj
  unfold nmC at hj
  rw [List.getElem?_map] at hj
  have hjl : j < l.length := by
    rcases Nat.lt_or_ge j l.length with h1 | h1
    · exact h1
    · rw [List.getElem?_eq_none h1] at hj; cases hj
  rw [List.getElem?_eq_getElem hjl] at hj
  cases hj
  obtain ⟨b, off, e, _, hc⟩ := h (fun e => by rw [e] at hjl; simp at hjl)
  rw [ha] at e
  cases e
  rw [Go.WideShapes.add_plain]
  exact hc j hjl
theorem evs_cells {w : World} {ad : Option Addr} {l : List Ev} (h : EvsAt w ad l) : ∀ a, ad = some a → ∀ j u, (l.flatMap evW)[j]? = some u → w.cell? (a.add j) = some u := by
  intro a ha j u hj
  have hl := flat_len evW 7 evW_len l
  have hjl : j < l.length * 7 := by
    rw [← hl]
    exact (List.getElem?_eq_some_iff.1 hj).1
  have h7 := flat_at evW 7 evW_len l (j / 7) (j % 7) (by omega) (by omega)
  rw [show j / 7 * 7 + j % 7 = j by omega, hj] at h7
  obtain ⟨b, off, e, _, hc⟩ := h (fun e => by rw [e] at hjl; simp at hjl)
  rw [ha] at e
  cases e
  have ea : (⟨b, off, none⟩ : Addr).add j = ⟨b, off + j / 7 * 7 + j % 7, none⟩ := by rw [Go.WideShapes.add_plain]; congr 1; omega
  rw [ea]
  refine hc (j / 7) _ (List.getElem?_eq_getElem (by omega)) (j % 7) u ?_
  rw [h7]
  unfold evW Ev.c
  simp
section
variable {B : Nat} {V W : World} {v u : Value} {ns : List ByteArray} {es : List Ev}
theorem AsR.lit (h : AsR B V W v u ns es) (hB : V.heap.size = B) (z : ByteArray) : AsR B V (W.alloc (.cells #[.string z] 9)) (.slice (some ⟨W.heap.size, 0, none⟩) 1 1) u [z] es := by
  have k1 := Kp.alloc W (.cells #[.string z] 9)
  have h1 := h.go k1
  exact ⟨World.ownsRow_lit (size := 1) (e := 9) W #[.string z] 1 (by have := h.kp.size; omega) (by unfold maxLen; omega) rfl, h1.evs, h1.kp⟩
theorem AsR.empN (h : AsR B V W v u ns es) (hB : V.heap.size = B) : AsR B V (W.alloc (.cells #[] 9)) (.slice (some ⟨W.heap.size, 0, none⟩) 0 0) u [] es := by
  have k1 := Kp.alloc W (.cells #[] 9)
  have h1 := h.go k1
  exact ⟨World.ownsRow_lit (size := 1) (e := 9) W #[] 0 (by have := h.kp.size; omega) (by unfold maxLen; omega) rfl, h1.evs, h1.kp⟩
theorem AsR.litE (h : AsR B V W v u ns es) (hB : V.heap.size = B) (e : Ev) : AsR B V (W.alloc (.cells e.c 29)) v (.slice (some ⟨W.heap.size, 0, none⟩) 1 1) ns [e] := by
  have k1 := Kp.alloc W (.cells e.c 29)
  have h1 := h.go k1
  refine ⟨h1.nam, ?_, h1.kp⟩
  have := World.ownsRow_lit (base := B) (e := 29) (size := 7) W e.c 1 (by have := h.kp.size; omega) (by unfold maxLen; omega) rfl
  unfold OwnsX
  have e1 : [e].flatMap evW = e.c.toList := by simp [evW, Ev.c]
  rw [e1]
  exact this
theorem AsR.empE (h : AsR B V W v u ns es) (hB : V.heap.size = B) : AsR B V (W.alloc (.cells #[] 29)) v (.slice (some ⟨W.heap.size, 0, none⟩) 0 0) ns [] := by
  have k1 := Kp.alloc W (.cells #[] 29)
  have h1 := h.go k1
  exact ⟨h1.nam, World.ownsRow_lit (size := 7) (e := 29) W #[] 0 (by have := h.kp.size; omega) (by unfold maxLen; omega) rfl, h1.kp⟩
/-- append(names, others...). -/
theorem AsR.names {g n c : Nat} (h : AsR B V W (.slice (some ⟨g, 0, none⟩) n c) u ns es) (hn : n = ns.length) (hB : V.heap.size = B) {ad : Option Addr} {m cs : Nat} {l : List ByteArray} (hm : m = l.length) (hl : NmsAt W ad l) (hno : ad = none → m = 0 ∧ cs = 0) (hsp : ∀ a, ad = some a → a.spot = none) (hb : n + m ≤ 100000) (ty : TypeId) :
    ∃ g' cap w', (Builtin.append_ #[54, 54] ty #[.slice (some ⟨g, 0, none⟩) n c, .slice ad m cs]).run Tryz.prog W = .ok (.slice (some ⟨g', 0, none⟩) (n + m) cap) w' ∧ AsR B V w' (.slice (some ⟨g', 0, none⟩) (n + m) cap) u (ns ++ l) es := by
  obtain ⟨i0, hi, hz0, hz1, hz2⟩ := info_parts info_str
  subst hn hm
  have hlow := (World.ownsRow.lt h.nam g rfl).1
  obtain ⟨g', cap, w', hrun, r1, r2, r3⟩ := run_app_any (P := Tryz.prog) (w := W) 54 ty 9 i0 (.string ⟨#[]⟩) 1 16 Tryz.underlying54 hi hz0 hz1 hz2 rfl (by decide) (row_lower h.nam) ad l.length cs (nmC l) (by unfold nmC; simp) hno hsp (nms_cells hl) (by intro x hx; unfold nmC at hx; obtain ⟨s, _, rfl⟩ := List.mem_map.1 hx; rfl) (by unfold maxLen; omega) (by omega)
  have hsz := h.kp.size
  refine ⟨g', cap, w', hrun, ?_, row_kp h.evs (Kp.of r2) (rows_ne h.evs h.nam (by decide)), h.kp.trans (Kp.of r2) (fun x hx => Or.inr (by simp at hx; omega))⟩
  have := row_raise r1 (show B ≤ g' by rcases r3 with e | e <;> omega)
  unfold OwnsW nmC
  rw [List.length_append, List.map_append]
  exact this
/-- append(events, others...). -/
theorem AsR.events {g n c : Nat} (h : AsR B V W v (.slice (some ⟨g, 0, none⟩) n c) ns es) (hn : n = es.length) (hB : V.heap.size = B) {ad : Option Addr} {m cs : Nat} {l : List Ev} (hm : m = l.length) (hl : EvsAt W ad l) (hno : ad = none → m = 0 ∧ cs = 0) (hsp : ∀ a, ad = some a → a.spot = none) (hb : n + m ≤ 100000) (ty : TypeId) :
    ∃ g' cap w', (Builtin.append_ #[25, 25] ty #[.slice (some ⟨g, 0, none⟩) n c, .slice ad m cs]).run Tryz.prog W = .ok (.slice (some ⟨g', 0, none⟩) (n + m) cap) w' ∧ AsR B V w' v (.slice (some ⟨g', 0, none⟩) (n + m) cap) ns (es ++ l) := by
  obtain ⟨i0, hi, hz0, hz1, hz2⟩ := info_parts info_EvW
  subst hn hm
  have hlow := (World.ownsRow.lt h.evs g rfl).1
  obtain ⟨g', cap, w', hrun, r1, r2, r3⟩ := run_app_any (P := Tryz.prog) (w := W) 25 ty 29 i0 _ 7 80 Tryz.underlying25 hi hz0 hz1 hz2 rfl (by decide) (row_lower h.evs) ad l.length cs (l.flatMap evW) (flat_len evW 7 evW_len l) hno hsp (evs_cells hl) (by
    intro x hx
    obtain ⟨y, _, hy⟩ := List.mem_flatMap.1 hx
    unfold evW at hy
    simp only [List.mem_cons, List.not_mem_nil, or_false] at hy
    rcases hy with rfl | rfl | rfl | rfl | rfl | rfl | rfl <;> rfl) (by unfold maxLen; omega) (by omega)
  have hsz := h.kp.size
  refine ⟨g', cap, w', hrun, row_kp h.nam (Kp.of r2) (rows_ne h.nam h.evs (by decide)), ?_, h.kp.trans (Kp.of r2) (fun x hx => Or.inr (by simp at hx; omega))⟩
  have := row_raise r1 (show B ≤ g' by rcases r3 with e | e <;> omega)
  unfold OwnsX
  rw [List.length_append, List.flatMap_append]
  exact this
end
end Go.Proofs.YtogklmljllocbabGreatDoor
