/-
  Rows of tokens of the call's own; Tokens: any text is parted as the plain function has it.
  Two tokens held against one another; a number as a text.
-/
import Derived.Test.YtogklmljllocbabGreatDoorF13
import Derived.Deep.RegionHeld3
import Derived.Lib.AppendIntMem
namespace Go.Proofs.YtogklmljllocbabGreatDoor
open Go.RowKit

/-- A token as cells. -/
def Tk.c (t : Tk) : Array Value := #[.int .i64 t.kd, .string t.s, .int .i64 t.n, .int .i64 t.pl]
def tkC (l : List Tk) : List Value := l.flatMap fun t => [.int .i64 t.kd, .string t.s, .int .i64 t.n, .int .i64 t.pl]
theorem tkC_append (a b : List Tk) : tkC (a ++ b) = tkC a ++ tkC b := by unfold tkC; exact List.flatMap_append
theorem info_Tk : (Tryz.prog.info? 82).map (fun i => (i.zero, i.size, i.bytes)) = some (some (.agg #[.int .i64 0, .string ⟨#[]⟩, .int .i64 0, .int .i64 0]), 4, 40) := by kernel_rfl
/-- A row of tokens of the call's own. -/
def OwnsK (B : Nat) (w : World) (v : Value) (l : List Tk) : Prop := w.ownsRow B 82 4 v l.length (tkC l)
theorem OwnsK.nil (B : Nat) (w : World) : OwnsK B w (.slice none 0 0) [] := World.ownsRow_nil _ _ _ _
theorem OwnsK.alloc {B : Nat} {w : World} {v : Value} {l : List Tk} (h : OwnsK B w v l) (o : Obj) : OwnsK B (w.alloc o) v l := World.ownsRow.alloc h o
theorem OwnsK.drew {B : Nat} {w : World} {v : Value} {l : List Tk} (h : OwnsK B w v l) : OwnsK B w.drew v l := h
theorem OwnsK.form {B : Nat} {w : World} {v : Value} {l : List Tk} (h : OwnsK B w v l) : ∃ ad cp, v = .slice ad l.length cp := by
  obtain ⟨_, ⟨rfl, h0⟩ | ⟨g, cp, cur, rfl, _⟩⟩ := h
  · exact ⟨_, _, by rw [h0]⟩
  · exact ⟨_, _, rfl⟩
theorem OwnsK.below {B B' : Nat} {w w' : World} {v : Value} {l : List Tk} (h : OwnsK B w v l) (hb : Below B' w w') (hB : w.heap.size ≤ B') : OwnsK B w' v l := by
  refine World.ownsRow.kept (row := none) h ⟨hb.os, hb.tape, hb.output, hb.size, fun k hk _ => hb.block k (by omega)⟩ ?_
  cases v.ownBlock
  · exact Or.inl rfl
  · exact Or.inr (by simp)
theorem OwnsK.fault {k B : Nat} {w : World} {v : Value} {l : List Tk} (h : OwnsK B w v l) (hf : FBox k w) (a b : Value) : OwnsK B ((w.setCell ⟨k, 0, none⟩ a).setCell ⟨k, 1, none⟩ b) v l := by
  refine World.ownsRow.kept (row := some k) h ⟨rfl, rfl, rfl, by simp, fun j hj hne => ?_⟩ ?_
  · rw [Below.heap_setCell _ _ _ _ (fun e => hne (by rw [e])), Below.heap_setCell _ _ _ _ (fun e => hne (by rw [e]))]
  · obtain ⟨_, ⟨rfl, _⟩ | ⟨g, cp, cur, rfl, _, hh, _⟩⟩ := h
    · exact Or.inl rfl
    · refine Or.inr fun e => ?_
      simp [Value.ownBlock] at e
      subst e
      unfold FBox at hf
      rw [hh] at hf
      simp at hf
theorem cells_four (g : Nat) (t : Tk) (w : World) (h : CBox g t.c 82 w) : ∀ (j : Nat) (u : Value), [Value.int .i64 t.kd, .string t.s, .int .i64 t.n, .int .i64 t.pl][j]? = some u → w.cell? ((⟨g, 0, none⟩ : Addr).add j) = some u := fun j u hj => by
  match j, hj with
  | 0, hj => simp at hj; subst hj; simpa [Addr.add] using h.cell (i := 0) (v := .int .i64 t.kd) rfl
  | 1, hj => simp at hj; subst hj; simpa [Addr.add] using h.cell (i := 1) (v := .string t.s) rfl
  | 2, hj => simp at hj; subst hj; simpa [Addr.add] using h.cell (i := 2) (v := .int .i64 t.n) rfl
  | 3, hj => simp at hj; subst hj; simpa [Addr.add] using h.cell (i := 3) (v := .int .i64 t.pl) rfl
/-- A token put at the end, as one step of a statement whose order is drawn. -/
theorem step_tok {ops : Array Oper} {o : Oper} {a : Act} {w : World} {K : Act → World → Prop} {Q : Exit → Act → World → Prop} {E : Prop}
    (hg : o.guard = none) (s x : Operand) (hop : o.op = Op.call { callee := Callee.builtin Builtin.append, args := #[s, x], argTypes := #[73, 73] })
    (B : Nat) (v : Value) (l : List Tk) (t : Tk) (hs : a.eval s = v) (ho : OwnsK B w v l) (g : Nat) (hx : a.eval x = .slice (some ⟨g, 0, none⟩) 1 1) (hc : CBox g t.c 82 w)
    (hl : l.length ≤ 1000000) (hb : B ≤ w.heap.size)
    (hK : ∀ v' w', OwnsK B w' v' (l ++ [t]) → Fr B 82 w w' → w.grownBy w' v.ownBlock → K (a.put o.dst v') w') :
    if Region.wanted o (yielded ops a.tmps) = true then Oper.wp Tryz.prog o a w K Q else E := by
  obtain ⟨i0, hi, hz0, hz1, hz2⟩ := info_parts info_Tk
  refine step_append_own hg s x 73 hop B 82 i0 (.agg #[.int .i64 0, .string ⟨#[]⟩, .int .i64 0, .int .i64 0]) 4 40 Tryz.underlying73 hi hz0 hz1 hz2 rfl (by decide) v l.length (tkC l) hs ho ⟨g, 0, none⟩ 1 1 [.int .i64 t.kd, .string t.s, .int .i64 t.n, .int .i64 t.pl] hx rfl (cells_four g t w hc) ?_ (by unfold maxLen; omega) (by omega) hb ?_
  · intro u hu; simp at hu; rcases hu with rfl | rfl | rfl | rfl <;> rfl
  · intro v' w' h1 h2
    refine hK v' w' ?_ ((Fr.refl _ _ _).grown ho h2 hb) h2
    unfold OwnsK
    rw [tkC_append, List.length_append]
    exact h1
theorem FBox.put {b : Nat} {w : World} (h : FBox b w) (x y : Value) (o : Obj) : (((w.setCell ⟨b, 0, none⟩ x).setCell ⟨b, 1, none⟩ y).alloc o).cell? ⟨b, 0, none⟩ = some x ∧ (((w.setCell ⟨b, 0, none⟩ x).setCell ⟨b, 1, none⟩ y).alloc o).cell? ⟨b, 1, none⟩ = some y := by
  have hl := h.lt
  have hc := h.cells
  constructor
  · rw [World.cell?_alloc_past]
    · simp [go_sem, hc]
    · simpa using hl
  · rw [World.cell?_alloc_past]
    · simp [go_sem, hc]
    · simpa using hl
theorem tk_keep {gb : Nat} {W : World} {a b c d : Value} (h : CBox gb #[a, b, c, d] 82 W) : W.cell? ⟨gb, 0, none⟩ = some a ∧ W.cell? ⟨gb, 1, none⟩ = some b ∧ W.cell? ⟨gb, 2, none⟩ = some c := ⟨h.cell rfl, h.cell rfl, h.cell rfl⟩
theorem tk_keep2 {gb : Nat} {W w2 : World} {a b c d : Value} {o : Obj} (h : CBox gb #[a, b, c, d] 82 W) (hb : Below W.drew.heap.size W.drew w2) : (w2.alloc o).cell? ⟨gb, 0, none⟩ = some a ∧ (w2.alloc o).cell? ⟨gb, 1, none⟩ = some b ∧ (w2.alloc o).cell? ⟨gb, 2, none⟩ = some c :=
  tk_keep (CBox.kp (CBox.kp (CBox.kp h (Kp.drew _) (by simp)) (Kp.ofBelow hb) (by simp)) (Kp.alloc _ _) (by simp))
theorem tk_keep1 {gb : Nat} {W w2 : World} {a b c d : Value} (h : CBox gb #[a, b, c, d] 82 W) (hb : Below W.drew.heap.size W.drew w2) : w2.cell? ⟨gb, 0, none⟩ = some a ∧ w2.cell? ⟨gb, 1, none⟩ = some b ∧ w2.cell? ⟨gb, 2, none⟩ = some c :=
  tk_keep (CBox.kp (CBox.kp h (Kp.drew _) (by simp)) (Kp.ofBelow hb) (by simp))
theorem tk_keep3 {gb : Nat} {W w2 w3 : World} {a b c d : Value} {o : Obj} {r : Option Nat} (h : CBox gb #[a, b, c, d] 82 W) (hb : Below W.drew.heap.size W.drew w2) (hg : (w2.alloc o).grownBy w3 r) (hr : r ≠ some gb) : w3.cell? ⟨gb, 0, none⟩ = some a ∧ w3.cell? ⟨gb, 1, none⟩ = some b ∧ w3.cell? ⟨gb, 2, none⟩ = some c :=
  tk_keep (CBox.kp (CBox.kp (CBox.kp (CBox.kp h (Kp.drew _) (by simp)) (Kp.ofBelow hb) (by simp)) (Kp.alloc _ _) (by simp)) (Kp.of hg) (by cases r <;> simp_all; omega))
theorem tk_o2 {B : Nat} {W w2 : World} {v : Value} {l : List Tk} {o : Obj} (h : OwnsK B W v l) (hb : Below W.drew.heap.size W.drew w2) : Hid (OwnsK B (w2.alloc o) v l) := hide ((h.drew.below hb (Nat.le_refl _)).alloc _)
theorem tk_s2 {B : Nat} {W w2 : World} {o : Obj} (h : B < W.heap.size) (hb : Below W.drew.heap.size W.drew w2) : Hid (B ≤ (w2.alloc o).heap.size) := hide (by have := hb.size; simp at this ⊢; omega)
/-- What Tokens tells. -/
def tsL (n : Nat) : TR → List Tk
  | .bad _ _ => []
  | .good l => l ++ [⟨0, ⟨#[]⟩, 0, (n : Int)⟩]
def tsA : TR → Int
  | .bad k _ => (k : Int)
  | .good _ => 0
def tsC : TR → Int
  | .bad _ c => c
  | .good _ => 0
def tsR (s : ByteArray) : TR := if 262144 < s.size then .bad 0 2 else toks s.data.toList 0 0
set_option maxHeartbeats 4000000 in
set_option maxRecDepth 100000 in
theorem tokens_any (s : ByteArray) (w : World) (hT : TbW w) (hs : s.size ≤ 9223372036854775807) :
    Calls Tryz.prog 31 #[.string s] w fun e w' => ∃ v, e = .returned (.tuple #[v, .agg #[.int .i64 (tsA (tsR s)), .int .i64 (tsC (tsR s))]]) ∧ OwnsK w.heap.size w' v (tsL s.size (tsR s)) ∧ Below w.heap.size w w' := by
  generalize hR : tsR s = R
  unfold tsR at hR
  have hlow := hT.low
  by_cases hbig : 262144 < s.size
  · rw [if_pos hbig] at hR
    subst hR
    go_enter Tryz.func31, Tryz.ntmps31
    go_wp2
    exact bodyPost_ret (v := .tuple #[.slice none 0 0, .agg #[.int .i64 0, .int .i64 2]]) (by simp [results, Tryz.results31, go_sem]) rfl ⟨_, rfl, OwnsK.nil _ _, (Below.refl _ _).alloc (Nat.le_refl _) _⟩
  · rw [if_neg hbig] at hR
    have HR := hide hR
    clear hR
    obtain ⟨i0, hi, hz0, hz1, hz2⟩ := info_parts info_Tk
    have hsp := spn_le isBlk s.data.toList
    rw [size_list] at hsp
    have HG := hide (toks_gap s.data.toList 0 0)
    have HG2 := hide (spn_drop (p := isBlk) (l := s.data.toList))
    have SP := fun W hW => span_any s 1 isBlk cls_blk W hW (by omega)
    generalize spn isBlk s.data.toList = k0 at *
    rw [Nat.zero_add] at HG
    have HSP := hide SP
    clear SP
    go_enter Tryz.func31, Tryz.ntmps31
    go_wp2_with fail
    refine (unhide HSP _ (hT.alloc _)).mono ?_
    rintro e w1 ⟨rfl, rfl⟩
    go_wp2_with fail
    go_loopw [4, 5] (fun v p wr => ∃ (k : Nat) (acc : List Tk), k ≤ s.size ∧ p = .int .i64 (k : Int) ∧ OwnsK w.heap.size wr v acc ∧ Below w.heap.size w wr ∧ FBox w.heap.size wr ∧ acc.length ≤ 4096 ∧ Hid (spn isBlk (s.data.toList.drop k) = 0 ∧ (toks (s.data.toList.drop k) k acc.length).pre acc = R)) (fun _ p _ => s.size - (intOf p).toNat)
    case atStart => exact ⟨k0, [], hsp, rfl, OwnsK.nil _ _, (Below.refl _ _).alloc (Nat.le_refl _) _, heap_alloc_new _ _, by simp, hide ⟨unhide HG2, by rw [TR.pre_nil, ← unhide HR, unhide HG]; rfl⟩⟩
    case round =>
      obtain ⟨k, acc, hk, rfl, hown, hbel, hfb, hacc, HD⟩ := hrel
      obtain ⟨av, cv, rfl⟩ := hown.form
      have hfl := hfb.lt
      have hTr : TbW wr := hT.below hbel (by omega)
      clear HR HG HG2 HSP hsp
      by_cases hlt : k < s.size
      · have hne : s.data.toList.drop k ≠ [] := fun e => by
          have := congrArg List.length e
          rw [List.length_drop, size_list] at this
          simp at this
          omega
        have RD := read_any (s.extract k s.size) wr hTr (by rw [ByteArray.size_extract]; omega)
        rw [show (s.extract k s.size).data.toList = s.data.toList.drop k by rw [ext_from]; rfl] at RD
        cases hQ : tkR (s.data.toList.drop k) with
        | none =>
          rw [hQ] at RD
          have hd := (unhide HD).2
          rw [toks_none hQ hne (unhide HD).1] at hd
          subst hd
          have HRD : Hid (Calls Tryz.prog 65 #[.string (s.extract k s.size)] wr fun e w' => e = .returned (.tuple #[.agg #[.int .i64 0, .string ⟨#[]⟩, .int .i64 0, .int .i64 0], .int .i64 0]) ∧ Below wr.heap.size wr w') := hide RD
          clear RD hQ HD hne
          go_wp2_with fail
          refine (unhide HRD).mono ?_
          rintro e w1 ⟨rfl, hb1⟩
          have hfb1 := hfb.below hb1 hfl
          have hfc1 := hfb1.cells
          have hfl1 := hfb1.lt
          have HBE : Hid (Below w.heap.size w w1) := hide (hbel.trans (hb1.mono (Nat.le_of_lt hfl)))
          clear hfb hown hbel hb1
          go_wp2
          obtain ⟨z0, z1⟩ := hfb1.put (.int .i64 (k : Int)) (.int .i64 100) (.cells #[.int .i64 0, .string ⟨#[]⟩, .int .i64 0, .int .i64 0] 82)
          exact bodyPost_ret (v := .tuple #[.slice none 0 0, .agg #[.int .i64 (k : Int), .int .i64 100]]) (by simp [results, Tryz.results31, go_sem, z0, z1]) rfl ⟨_, rfl, OwnsK.nil _ _, (((unhide HBE).setCell (Nat.le_refl _) _).setCell (Nat.le_refl _) _).alloc (by simp; omega) _⟩
        | some q =>
          obtain ⟨⟨tk, tt, tn, tp⟩, n⟩ := q
          rw [hQ] at RD
          have HRD : Hid (Calls Tryz.prog 65 #[.string (s.extract k s.size)] wr fun e w' => e = .returned (.tuple #[.agg #[.int .i64 tk, .string tt, .int .i64 tn, .int .i64 tp], .int .i64 (n : Int)]) ∧ Below wr.heap.size wr w') := hide RD
          clear RD
          have hX := tkR_some hQ
          have hn0 := hX.1
          have hnl := hX.2.1
          have hpl : tp = 0 := hX.2.2.2.1
          have hts : tt.size ≤ 256 := hX.2.2.2.2.2.2.1
          clear hX
          subst hpl
          rw [List.length_drop, size_list] at hnl
          have g0 : ((n : Int) == 0) = false := by simp; omega
          by_cases hful : acc.length = 4096
          · have hd := (unhide HD).2
            rw [hful, toks_many hQ] at hd
            subst hd
            have g1 : ((acc.length : Int) == 4096) = true := by simp; omega
            clear hQ HD hne hful
            go_wp2_with fail
            refine (unhide HRD).mono ?_
            rintro e w1 ⟨rfl, hb1⟩
            have hfb1 := hfb.below hb1 hfl
            have hfc1 := hfb1.cells
            have hfl1 := hfb1.lt
            have HBE : Hid (Below w.heap.size w w1) := hide (hbel.trans (hb1.mono (Nat.le_of_lt hfl)))
            clear hfb hown hbel hb1
            go_wp2
            obtain ⟨z0, z1⟩ := hfb1.put (.int .i64 (k : Int)) (.int .i64 2) (.cells #[.int .i64 tk, .string tt, .int .i64 tn, .int .i64 0] 82)
            exact bodyPost_ret (v := .tuple #[.slice none 0 0, .agg #[.int .i64 (k : Int), .int .i64 2]]) (by simp [results, Tryz.results31, go_sem, z0, z1]) rfl ⟨_, rfl, OwnsK.nil _ _, (((unhide HBE).setCell (Nat.le_refl _) _).setCell (Nat.le_refl _) _).alloc (by simp; omega) _⟩
          · have hd := (unhide HD).2
            rw [toks_some hQ hful, TR.pre_pre, List.drop_drop, toks_gap] at hd
            have g1 : ((acc.length : Int) == 4096) = false := by simp; omega
            have hsp2 := spn_le isBlk (s.data.toList.drop (k + n))
            rw [List.length_drop, size_list] at hsp2
            have SP2 := fun W hW => span_any (s.extract (k + n) s.size) 1 isBlk cls_blk W hW (by rw [ByteArray.size_extract]; omega)
            rw [show (s.extract (k + n) s.size).data.toList = s.data.toList.drop (k + n) by rw [ext_from]; rfl] at SP2
            have hz := spn_drop (p := isBlk) (l := s.data.toList.drop (k + n))
            generalize spn isBlk (s.data.toList.drop (k + n)) = m at *
            rw [List.drop_drop] at hd hz
            have HD2 : Hid (spn isBlk (s.data.toList.drop (k + n + m)) = 0 ∧ (toks (s.data.toList.drop (k + n + m)) (k + n + m) (acc.length + 1)).pre (acc ++ [⟨tk, tt, tn, (k : Int)⟩]) = R) := hide ⟨hz, hd⟩
            have HSP2 := hide SP2
            clear hQ HD hne hd hz SP2
            have hacc2 : acc.length < 4096 := by omega
            clear hful
            go_wp2_with fail
            refine (unhide HRD).mono ?_
            rintro e w1 ⟨rfl, hb1⟩
            have hfb1 := hfb.below hb1 hfl
            have hfl1 := hfb1.lt
            have hbel1 : Below w.heap.size w w1 := hbel.trans (hb1.mono (Nat.le_of_lt hfl))
            have hown1 := hown.below hb1 (Nat.le_refl _)
            clear hfb hown hbel hb1 hTr
            go_wp2_with fail
            have hbx : CBox w1.heap.size #[.int .i64 tk, .string tt, .int .i64 tn, .int .i64 0] 82 (w1.alloc (.cells #[.int .i64 tk, .string tt, .int .i64 tn, .int .i64 0] 82)) := CBox.new w1 _ _
            have HNE : Hid ((Value.slice av acc.length cv).ownBlock ≠ some w1.heap.size) := hide (fun e => by have := (World.ownsRow.lt hown1 _ e).2; omega)
            have hown2 : OwnsK w.heap.size (w1.alloc (.cells #[.int .i64 tk, .string tt, .int .i64 tn, .int .i64 0] 82)) (.slice av acc.length cv) acc := hown1.alloc _
            have hfb2 : FBox w.heap.size (w1.alloc (.cells #[.int .i64 tk, .string tt, .int .i64 tn, .int .i64 0] 82)) := CBox.kp hfb1 (Kp.alloc _ _) (by simp)
            have hbel2 : Below w.heap.size w (w1.alloc (.cells #[.int .i64 tk, .string tt, .int .i64 tn, .int .i64 0] 82)) := hbel1.alloc (Nat.le_of_lt hfl1) _
            have hfl2 := hfb2.lt
            clear hown1 hfb1 hbel1
            generalize w1.alloc (.cells #[.int .i64 tk, .string tt, .int .i64 tn, .int .i64 0] 82) = W at *
            generalize w1.heap.size = gb at *
            have CL := clone_any tt W.drew (by omega)
            have HCL := hide CL
            have HOW := hide hown2
            clear CL hown2
            go_region_held3 (fun w' => w'.cell? ⟨gb, 0, none⟩ = some (.int .i64 tk) ∧ w'.cell? ⟨gb, 1, none⟩ = some (.string tt) ∧ w'.cell? ⟨gb, 2, none⟩ = some (.int .i64 tn)) (first | with_reducible exact tk_keep3 hbx (unhide HB2) (unhide HG3) (unhide HNE) | with_reducible exact tk_keep2 hbx (unhide HB2) | with_reducible exact tk_keep1 hbx (unhide HB2) | with_reducible exact tk_keep hbx)
              (first
                | (refine step_tok rfl (.tmp 34) (.tmp 44) rfl w.heap.size (.slice av acc.length cv) acc ⟨tk, tt, tn, (k : Int)⟩ rfl (unhide HO2) w2.heap.size rfl (CBox.new w2 _ _) (by omega) (unhide HS2) ?_; intro v3 w3 ho3 fr3 hg3; have HG3 := hide hg3)
                | (go_at_call 25; refine (unhide HCL).mono ?_; rintro e w2 ⟨rfl, hb2⟩; have HB2 := hide hb2; have HO2 : Hid (OwnsK w.heap.size (w2.alloc (.cells #[.int .i64 tk, .string tt, .int .i64 tn, .int .i64 (k : Int)] 82)) (.slice av acc.length cv) acc) := tk_o2 (unhide HOW) hb2; have HS2 : Hid (w.heap.size ≤ (w2.alloc (.cells #[.int .i64 tk, .string tt, .int .i64 tn, .int .i64 (k : Int)] 82)).heap.size) := tk_s2 hfl2 hb2))
            have hb3 : Below w.heap.size w w3 := (((hbel2.drew).trans ((unhide HB2).mono (Nat.le_of_lt hfl2))).alloc (by have := unhide HS2; have := (unhide HB2).size; simp at this; omega) _).trans fr3.below
            have hfb3 : FBox w.heap.size w3 := fr3.keep (CBox.kp (CBox.kp (CBox.kp hfb2 (Kp.drew _) (by simp)) (Kp.ofBelow (unhide HB2)) (by simp)) (Kp.alloc _ _) (by simp)) (by decide)
            have hT3 : TbW w3 := hT.below hb3 (by omega)
            have hown3 := ho3
            clear ho3 fr3 hg3 HG3 HO2 HS2 HB2 HOW HCL hbx hfb2 hbel2 hb2 HNE HRD
            go_wp2_with fail
            refine (unhide HSP2 _ hT3).mono ?_
            rintro e w4 ⟨rfl, rfl⟩
            go_wp2
            go_roundw
            case rel => exact ⟨k + n + m, acc ++ [⟨tk, tt, tn, (k : Int)⟩], by omega, by go_num, hown3, hb3, hfb3, by simp; omega, by rw [List.length_append]; exact HD2⟩
            case measure => simp [intOf]; omega
      · have hd := (unhide HD).2
        rw [List.drop_of_length_le (by rw [size_list]; omega), toks_nil] at hd
        subst hd
        clear HD
        have HFB := hide hfb
        have hfc := hfb.cells
        clear hfb hTr
        go_wp2_with (at_builtin; refine wpList_append_own _ rfl _ _ 73 rfl w.heap.size 82 i0 (.agg #[.int .i64 0, .string ⟨#[]⟩, .int .i64 0, .int .i64 0]) 4 40 Tryz.underlying73 hi hz0 hz1 hz2 rfl (by decide) _ _ _ rfl (hown.alloc _) ⟨wr.heap.size, 0, none⟩ 1 1 [.int .i64 0, .string ⟨#[]⟩, .int .i64 0, .int .i64 (s.size : Int)] rfl rfl (cells_four _ ⟨0, ⟨#[]⟩, 0, (s.size : Int)⟩ _ (CBox.new wr _ _)) ?c2 ?c3 ?c4 ?c5 ?_)
        case c2 => intro u hu; simp at hu; rcases hu with rfl | rfl | rfl | rfl <;> rfl
        case c3 => unfold maxLen; omega
        case c4 => omega
        case c5 => simp; omega
        intro v' w2 hown2 hgrow _
        have hfr : Fr w.heap.size 82 wr w2 := ((Fr.refl _ _ wr).alloc (Nat.le_of_lt hfl) _).grown (hown.alloc _) hgrow (by simp; omega)
        have hfb2 : FBox w.heap.size w2 := hfr.keep (unhide HFB) (by decide)
        have hfc2 := hfb2.cells
        have hown3 : OwnsK w.heap.size w2 v' (acc ++ [⟨0, ⟨#[]⟩, 0, (s.size : Int)⟩]) := by
          unfold OwnsK
          rw [tkC_append, List.length_append]
          exact hown2
        have HB2 : Hid (OwnsK w.heap.size w2 v' (acc ++ [⟨0, ⟨#[]⟩, 0, (s.size : Int)⟩]) ∧ FBox w.heap.size w2 ∧ Below w.heap.size w w2) := hide ⟨hown3, hfb2, hbel.trans hfr.below⟩
        obtain ⟨a3, c3, rfl⟩ := hown3.form
        clear hown2 hgrow hown hfr hbel HFB hfb2 hown3 hfc
        go_wp2
        obtain ⟨o1, o2, o3⟩ := unhide HB2
        exact bodyPost_ret (v := .tuple #[.slice a3 (acc ++ [(⟨0, ⟨#[]⟩, 0, (s.size : Int)⟩ : Tk)]).length c3, .agg #[.int .i64 0, .int .i64 0]]) (by simp [results, Tryz.results31, go_sem, hfc2]) rfl ⟨_, rfl, by simpa [tsL, TR.pre] using o1.fault o2 _ _, (o3.setCell (Nat.le_refl _) _).setCell (Nat.le_refl _) _⟩
end Go.Proofs.YtogklmljllocbabGreatDoor
namespace Go.Proofs.YtogklmljllocbabGreatDoor
open Go.RowKit

/-- Two tokens held against one another. -/
theorem eqT (d : Nat) (a b : Tk) (w : World) : (Op.equalIn (d + 2) 82 a.v b.v).run Tryz.prog w = .ok (tkEq a b) w := by
  obtain ⟨k, s, n, p⟩ := a
  obtain ⟨k', s', n', p'⟩ := b
  have hi := fun (a b : Int) (w : World) => run_equalIn_int (P := Tryz.prog) w d 3 .i64 .i64 a b Tryz.underlying3
  have hi6 := fun (a b : Int) (w : World) => run_equalIn_int (P := Tryz.prog) w d 2 .i64 .i64 a b Tryz.underlying2
  have hs := fun (a b : ByteArray) (w : World) => run_equalIn_string (P := Tryz.prog) w d 9 a b Tryz.underlying9
  unfold Op.equalIn Tk.v tkEq
  simp only [Sem.run_bind, run_underlying Tryz.underlying82, Result.andThen_ok]
  simp [part, Tryz.sizeOf3, Tryz.sizeOf2, Tryz.sizeOf9, go_sem, hi, hi6, hs, ByteArray.toList_eq]
  by_cases h0 : k = k' <;> by_cases h1 : s.data = s'.data <;> by_cases h2 : n = n' <;> by_cases h3 : p = p' <;> simp [h0, h1, h2, h3]
theorem quo_size (s : ByteArray) : (⟨#[39]⟩ ++ s ++ ⟨#[39]⟩ : ByteArray) = txt (39 :: (s.data.toList ++ [39])) := by
  apply ByteArray.ext
  apply Array.ext'
  simp [txt]
theorem format_any (n : Int) (h0 : -9223372036854775808 ≤ n) (h1 : n ≤ 9223372036854775807) (w : World) (hT : TbW w) :
    Calls Tryz.prog 198 #[.int .i64 n, .int .i64 10] w fun e w' => e = .returned (.string (txt (Lib.itoa n))) ∧ Below w.heap.size w w' := by
  refine (Tryz.strconv_FormatInt_10 n h0 h1 w hT.pow).mono ?_
  rintro e w1 ⟨rfl, kk, os, rfl⟩
  exact ⟨rfl, Lib.below_grow _ _ (Nat.le_refl _) _ _⟩
end Go.Proofs.YtogklmljllocbabGreatDoor
