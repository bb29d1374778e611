/-
  Append: a text is put at a tape's end, or it is told why not.
-/
import Derived.Test.YtllkkflolijpaaaDoorTpH
namespace Go.Proofs.YtllkkflolijpaaaDoor
open Go.RowKit

theorem tadd_any (t p : Nat) (n : ByteArray) (v : Value) (ts : List (List UInt8)) (s : ByteArray) (d : Dk) (F : List Nat) (w : World) (h : TpAt w t p n v ts) (hd : DiskAt w p d F) (hT : TabW w) (hts : ts.length ≤ 1000000) (hs : s.size ≤ 9223372036854775807) :
    Calls Tryd.prog 26 #[.pointer (some ⟨t, 0, none⟩), .string s] w fun r w' =>
      (d.apE n s = 0 ∧ r = .returned (.tuple #[]) ∧ Added w F p (d.apD n s) n t v (ts ++ [s.data.toList]) w') ∨ (d.apE n s ≠ 0 ∧ r = .panicked (pan (d.apE n s)) ∧ Did w F p (d.apD n s) w') := by
  unfold Dk.apE Dk.apD
  by_cases hl : 65536 < s.size
  · rw [if_pos hl, if_pos hl]
    exact (add_long t s w hs hl hT).mono fun r w' ⟨h1, h2⟩ => Or.inr ⟨by decide, h1, hd.did' h2⟩
  · rw [if_neg hl, if_neg hl]
    by_cases he : d.wrE n ((hasF d.now n).length : Int) (frS s) = 0
    · exact (add_ok t p n v ts s d F w h hd hl hT hts he).mono fun r w' ⟨h1, h2⟩ => Or.inl ⟨he, h1, h2⟩
    · exact (add_not t p n v ts s d F w h hd hl hT he).mono fun r w' ⟨h1, h2⟩ => Or.inr ⟨he, h1, h2⟩
set_option maxHeartbeats 1000000 in
set_option maxRecDepth 100000 in
theorem tappend_any (t p : Nat) (n : ByteArray) (v : Value) (ts : List (List UInt8)) (s : ByteArray) (d : Dk) (F : List Nat) (w : World) (h : TpAt w t p n v ts) (hd : DiskAt w p d F) (hT : TabW w) (hts : ts.length ≤ 1000000) (hs : s.size ≤ 9223372036854775807) :
    Calls Tryd.prog 13 #[.pointer (some ⟨t, 0, none⟩), .string s] w fun r w' =>
      (d.apE n s = 0 ∧ r = .returned (.int .i64 0) ∧ Added w F p (d.apD n s) n t v (ts ++ [s.data.toList]) w') ∨ (d.apE n s ≠ 0 ∧ r = .returned (.int .i64 (d.apE n s)) ∧ Did w F p (d.apD n s) w') := by
  have mf := hmf
  have bx := CBox.new w #[.int .i64 0] 28
  have hka := Kp.alloc w (.cells #[.int .i64 0] 28)
  have hd0 := hd.kp hka (by simp)
  have h0 := h.kp hka (by simp) (by simp)
  have AD := hide (tadd_any t p n v ts s d F _ h0 hd0 (hT.kp hka (by simp)) hts hs)
  have hlt := h.lt
  have hvl : ∀ k, v.ownBlock = some k → k < w.heap.size := fun k hk => (h.row.block hk).2.1
  have HN := hide (CBox.outD (p := p) (d := d) bx F hd0)
  have hz : (w.alloc (.cells #[.int .i64 0] 28)).heap.size = w.heap.size + 1 := by simp
  have BX := hide bx
  have KA := hide hka
  have HZ := hide hz
  have HL := hide hlt
  have HV := hide hvl
  clear hd hT bx hka hd0 hz h h0 hlt hvl hts
  generalize d.apD n s = d2 at *
  generalize d.apE n s = e2 at *
  go_enter_defers Tryd.func13, Tryd.ntmps13
  go_wp2_with fail
  refine (unhide AD).mono ?_
  rintro r w1 (⟨rfl, rfl, ho⟩ | ⟨he, rfl, hd1⟩)
  · obtain ⟨F1, v1, hD1, hT1, hk1, hF1, hv1⟩ := ho
    have hz := unhide HZ
    have hlt := unhide HL
    have b1 := (unhide BX).kp hk1 (by
      rw [List.mem_cons, List.mem_append]
      rintro (e | e | e)
      · omega
      · have := unhide HV w.heap.size (by simpa using e); omega
      · exact unhide HN e)
    have c0 : w1.cell? ⟨w.heap.size, 0, none⟩ = some (.int .i64 0) := b1.cell rfl
    have f0 := b1.froz 0
    have c9 : (w1.setCell ⟨w.heap.size, 0, none⟩ (.int .i64 0)).cell? ⟨w.heap.size, 0, none⟩ = some (.int .i64 0) := (b1.set 0 (.int .i64 0)).cell rfl
    have HA : Hid (Added w F p d2 n t v (ts ++ [s.data.toList]) (w1.setCell ⟨w.heap.size, 0, none⟩ (.int .i64 0))) := hide (by
      have hks := Kp.set w1 w.heap.size 0 (.int .i64 0)
      refine ⟨F1, v1, hD1.kp hks (fun k hk hm => by simp at hm; subst hm; exact CBox.outD b1 F1 hD1 hk), hT1.kp hks (by simp; omega) (fun k hk hm => ?_), (((unhide KA).mono (by simp)).trans hk1 (fun x hx => Or.inl hx)).trans hks (fun x hx => by simp at hx; subst hx; exact Or.inr (Nat.le_refl _)), fun k hk => ?_, ?_⟩
      · simp at hm
        subst hm
        obtain ⟨_, _, cur, hc⟩ := hT1.row.block hk
        have hb : w1.heap[w.heap.size]? = _ := b1
        rw [hc] at hb
        injection hb with e; injection e with _ e; exact absurd e (by decide)
      · rcases hF1 k hk with h1 | h1
        · exact Or.inl h1
        · exact Or.inr (by omega)
      · rcases hv1 with h1 | h1
        · exact Or.inl h1
        · exact Or.inr (fun k hk => by have := h1 k hk; omega))
    clear hD1 hT1 hk1 hF1 hv1 b1 hz hlt
    go_wp2
    refine leaves_cons (f := 25) (args := #[.pointer (some ⟨w.heap.size, 0, none⟩)]) (by simp) (by simp [go_sem]) ?_
    refine (append_idle ⟨w.heap.size, 0, none⟩ _).mono ?_
    rintro e u' w'' ⟨rfl, rfl, rfl⟩
    simp [Leaves, settle, results, Tryd.results13, go_sem, c9]
    exact unhide HA
  · have hk1 : Kp F _ w1 := let ⟨_, _, a, _⟩ := hd1; a
    have b1 := (unhide BX).kp hk1 (unhide HN)
    refine leaves_cons (f := 25) (args := #[.pointer (some ⟨w.heap.size, 0, none⟩)]) (by simp) (by simp [go_sem]) ?_
    refine (append_caught w.heap.size 0 e2 _ b1).mono ?_
    rintro e u' w'' ⟨rfl, rfl, hc⟩
    obtain ⟨c9, hk9⟩ := hc.out b1
    have HD2 := hide ((Did.pre (unhide KA) hd1).post hk9 (Nat.le_refl _) (CBox.outD b1))
    clear hk9 hc hd1 hk1 b1
    simp [Leaves, settle, results, Tryd.results13, go_sem, c9]
    exact Or.inr ⟨he, unhide HD2⟩
end Go.Proofs.YtllkkflolijpaaaDoor
