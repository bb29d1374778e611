/-
  Two arrays of four numbers compared.
  Decode of an event: what bytes are as an event, as the plain function has it.
-/
import Derived.Test.YtpfcoaimciojjaaG08
import Derived.Test.YtpfcoaimciojjaaG17
namespace Go.Proofs.Ytpfcoaimciojjaa
open Go.RowKit

theorem eq4 (d : Nat) (a0 a1 a2 a3 b0 b1 b2 b3 : Int) (w : World) : (Op.equalIn (d + 2) 22 (.agg #[.int .i64 a0, .int .i64 a1, .int .i64 a2, .int .i64 a3]) (.agg #[.int .i64 b0, .int .i64 b1, .int .i64 b2, .int .i64 b3])).run Try.prog w = .ok (a0 == b0 && (a1 == b1 && (a2 == b2 && a3 == b3))) w := by
  have hi := fun (a b : Int) (w : World) => run_equalIn_int (P := Try.prog) w d 2 .i64 .i64 a b Try.underlying2
  unfold Op.equalIn
  simp only [Sem.run_bind, run_underlying Try.underlying22, Result.andThen_ok]
  simp [part, Try.sizeOf2, go_sem, hi, Std.Legacy.Range.forIn_eq_forIn_range', List.range'_succ]
  by_cases h0 : a0 = b0 <;> by_cases h1 : a1 = b1 <;> by_cases h2 : a2 = b2 <;> by_cases h3 : a3 = b3 <;> simp [h0, h1, h2, h3]
end Go.Proofs.Ytpfcoaimciojjaa
namespace Go.Proofs.Ytpfcoaimciojjaa
open Go.RowKit

def dC (b : ByteArray) : Int := if itC b ≠ 0 then itC b else if (evOf (itL b)).may = true then 0 else 20
def dV (b : ByteArray) : Ev := if dC b = 0 then evOf (itL b) else Ev.zero
theorem itL_ok (b : ByteArray) : (∀ y ∈ itL b, y.ok) ∧ (itL b).length ≤ 4096 := by
  unfold itL
  split
  · rename_i h
    unfold itC at h
    split at h
    · cases h
    · split at h
      · cases h
      · rename_i hb hc
        have hc0 : (decS b.data.toList).2.2 = 0 := by simpa using hc
        have ha := decS_at _ hc0
        have he : decS b.data.toList = ((decS b.data.toList).1, 0, 0) := Prod.ext rfl (Prod.ext ha hc0)
        obtain ⟨_, _, h3, h4⟩ := enc_dec _ _ he
        exact ⟨h3, h4⟩
  · exact ⟨by simp, by simp⟩
theorem zero_ok : Ev.zero.ok := ⟨by decide, by decide, by decide, by constructor <;> decide, by constructor <;> decide, by constructor <;> decide, by constructor <;> decide⟩
theorem itZero_ok : It.zero.ok := ⟨by decide, by decide, by decide⟩
theorem evOf_ok (l : List It) (h : ∀ y ∈ l, y.ok) : (evOf l).ok := by
  have hg : ∀ i, (l.getD i It.zero).ok := fun i => by
    rw [List.getD_eq_getElem?_getD]
    cases hi : l[i]? with
    | none => exact itZero_ok
    | some y => exact h y (List.mem_of_getElem? hi)
  unfold evOf
  split
  · exact ⟨(hg 0).2.2, (hg 1).2.2, (hg 6).2.2, ⟨(hg 2).1, (hg 2).2.1⟩, ⟨(hg 3).1, (hg 3).2.1⟩, ⟨(hg 4).1, (hg 4).2.1⟩, ⟨(hg 5).1, (hg 5).2.1⟩⟩
  · exact zero_ok
theorem dV_ok (b : ByteArray) : (dV b).ok := by
  unfold dV
  split
  · exact evOf_ok _ (itL_ok b).1
  · exact zero_ok
theorem isEmpty_false {s : ByteArray} (h : 1 ≤ s.size) : s.toList.isEmpty = false := by
  cases hl : s.toList with
  | nil =>
    rw [ByteArray.toList_eq] at hl
    have e4 := congrArg List.length hl
    have e3 : s.data.toList.length = s.size := Array.length_toList
    rw [e3] at e4
    have : s.size = 0 := e4
    omega
  | cons a r => rfl
set_option maxHeartbeats 4000000 in
set_option maxRecDepth 100000 in
theorem evDecode_any (b : ByteArray) (w : World) (hb : b.size ≤ 9223372036854775807) :
    Calls Try.prog 8 #[.string b] w fun r w' => r = .returned (.tuple #[.agg (dV b).c, .int .i64 (dC b)]) ∧ Below w.heap.size w w' := by
  have s0 : EncS w Ev.zero (w.alloc (.cells Ev.zero.c 24)) := ⟨(Below.refl _ _).alloc (Nat.le_refl _) _, heap_alloc_new w _⟩
  have io := fun w => itemsOf_any b w hb
  have hlen := (itL_ok b).2
  have hok := evOf_ok _ (itL_ok b).1
  have eo := fun ad cap w hA => eventOf_any ad cap (itL b) w (by omega) hA
  have hV : dV b = if dC b = 0 then evOf (itL b) else Ev.zero := rfl
  have hC : dC b = if itC b ≠ 0 then itC b else if (evOf (itL b)).may = true then 0 else 20 := rfl
  generalize dV b = V at *
  generalize dC b = C at *
  generalize itL b = L at *
  generalize itC b = c at *
  generalize evOf L = e at *
  have IO := hide io
  have EO := hide eo
  clear io eo
  by_cases hc : c = 0
  · subst hc
    rw [if_neg (by simp)] at hC
    have ck := fun W => check_any e.k e.t e.x e.n0 e.n1 e.n2 e.n3 W hok.1 hok.2.1 hok.2.2.1
    have hch : chkE e.k e.t e.x = C := by rw [hC]; rfl
    rw [hch] at ck
    have CK := hide ck
    clear ck hch
    by_cases hm : e.may = true
    · rw [if_pos hm] at hC
      subst hC
      rw [if_pos rfl] at hV
      subst hV
      have hk1 : 1 ≤ V.k.size := by
        unfold Ev.may mayE nameB at hm
        simp only [Bool.and_eq_true, decide_eq_true_eq] at hm
        omega
      have hne := isEmpty_false hk1
      clear hm hk1 hok
      obtain ⟨k, t, n0, n1, n2, n3, x⟩ := V
      unfold Ev.c Ev.zero at *
      dsimp only at *
      go_enter Try.func8, Try.ntmps8
      go_wp2_with fail
      generalize w.alloc (.cells #[.string ⟨#[]⟩, .string ⟨#[]⟩, .int .i64 0, .int .i64 0, .int .i64 0, .int .i64 0, .string ⟨#[]⟩] 24) = W0 at *
      refine (unhide IO W0).mono ?_
      rintro r w1 ⟨v1, rfl, ow, hb1⟩
      have s1 := s0.next hb1
      obtain ⟨a1, c1, rfl, hi1⟩ := ow.items
      have eo := unhide EO a1 c1 w1 hi1
      have EO2 := hide eo
      clear eo EO IO s0 hb1 ow hi1
      go_wp2_with fail
      refine (unhide EO2).mono ?_
      rintro r w2 ⟨rfl, hb2⟩
      have s2 := s1.next hb2
      have s3 := s2.alloc (.cells #[.string k, .string t, .int .i64 n0, .int .i64 n1, .int .i64 n2, .int .i64 n3, .string x] 24)
      clear s1 hb2 EO2
      go_wp2_with fail
      have bE : EBox w2.heap.size ⟨k, t, n0, n1, n2, n3, x⟩ (w2.alloc (.cells #[.string k, .string t, .int .i64 n0, .int .i64 n1, .int .i64 n2, .int .i64 n3, .string x] 24)) := heap_alloc_new w2 _
      generalize w2.alloc (.cells #[.string k, .string t, .int .i64 n0, .int .i64 n1, .int .i64 n2, .int .i64 n3, .string x] 24) = W3 at *
      refine (unhide CK W3).mono ?_
      rintro r w4 ⟨rfl, rfl⟩
      have s4 := s3.alloc (.cells #[.string k, .string t, .int .i64 n0, .int .i64 n1, .int .i64 n2, .int .i64 n3, .string x] 24)
      have b4 := bE.alloc (.cells #[.string k, .string t, .int .i64 n0, .int .i64 n1, .int .i64 n2, .int .i64 n3, .string x] 24)
      generalize W3.alloc (.cells #[.string k, .string t, .int .i64 n0, .int .i64 n1, .int .i64 n2, .int .i64 n3, .string x] 24) = W4 at *
      have f4 := b4.cells
      have f0 := s4.bx.cells
      have r0 := s4.bx.froz
      have hb7 := put7_below s4.bel (Nat.le_refl _) ⟨k, t, n0, n1, n2, n3, x⟩
      dsimp only at f4 f0
      clear s2 s3 bE b4 CK
      go_wp2
      exact bodyPost_ret (v := .tuple #[.agg #[.string k, .string t, .int .i64 n0, .int .i64 n1, .int .i64 n2, .int .i64 n3, .string x], .int .i64 0]) (by simp [results, Try.results8, go_sem, f0]) rfl ⟨rfl, hb7⟩
    · rw [if_neg hm] at hC
      subst hC
      rw [if_neg (by decide)] at hV
      subst hV
      clear hm hok
      obtain ⟨k, t, n0, n1, n2, n3, x⟩ := e
      unfold Ev.c Ev.zero at *
      dsimp only at *
      have e4 : ∀ w, (Op.equalIn 9999 22 (.agg #[.int .i64 n0, .int .i64 n1, .int .i64 n2, .int .i64 n3]) (.agg #[.int .i64 0, .int .i64 0, .int .i64 0, .int .i64 0])).run Try.prog w = .ok (n0 == 0 && (n1 == 0 && (n2 == 0 && n3 == 0))) w := fun w => eq4 9997 n0 n1 n2 n3 0 0 0 0 w
      generalize (n0 == 0 && (n1 == 0 && (n2 == 0 && n3 == 0))) = E4 at *
      have hb : ∀ b : Bool, b = false ∨ b = true := fun b => by cases b <;> simp
      rcases hb k.toList.isEmpty with q1 | q1
      · clear hb
        go_enter Try.func8, Try.ntmps8
        go_wp2_with fail
        generalize w.alloc (.cells #[.string ⟨#[]⟩, .string ⟨#[]⟩, .int .i64 0, .int .i64 0, .int .i64 0, .int .i64 0, .string ⟨#[]⟩] 24) = W0 at *
        refine (unhide IO W0).mono ?_
        rintro r w1 ⟨v1, rfl, ow, hb1⟩
        have s1 := s0.next hb1
        obtain ⟨a1, c1, rfl, hi1⟩ := ow.items
        have eo := unhide EO a1 c1 w1 hi1
        have EO2 := hide eo
        clear eo EO IO s0 hb1 ow hi1
        go_wp2_with fail
        refine (unhide EO2).mono ?_
        rintro r w2 ⟨rfl, hb2⟩
        have s2 := s1.next hb2
        have s3 := s2.alloc (.cells #[.string k, .string t, .int .i64 n0, .int .i64 n1, .int .i64 n2, .int .i64 n3, .string x] 24)
        clear s1 hb2 EO2
        go_wp2_with fail
        generalize w2.alloc (.cells #[.string k, .string t, .int .i64 n0, .int .i64 n1, .int .i64 n2, .int .i64 n3, .string x] 24) = W3 at *
        refine (unhide CK W3).mono ?_
        rintro r w4 ⟨rfl, rfl⟩
        have s4 := s3.alloc (.cells #[.string k, .string t, .int .i64 n0, .int .i64 n1, .int .i64 n2, .int .i64 n3, .string x] 24)
        generalize W3.alloc (.cells #[.string k, .string t, .int .i64 n0, .int .i64 n1, .int .i64 n2, .int .i64 n3, .string x] 24) = W4 at *
        have f0 := s4.bx.cells
        have r0 := s4.bx.froz
        have hb4 := put7_below s4.bel (Nat.le_refl _) ⟨⟨#[]⟩, ⟨#[]⟩, 0, 0, 0, 0, ⟨#[]⟩⟩
        dsimp only at f0
        clear s2 s3 CK
        go_wp2
        exact bodyPost_ret (v := .tuple #[.agg #[.string ⟨#[]⟩, .string ⟨#[]⟩, .int .i64 0, .int .i64 0, .int .i64 0, .int .i64 0, .string ⟨#[]⟩], .int .i64 20]) (by simp [results, Try.results8, go_sem, f0]) rfl ⟨rfl, hb4⟩
      · rcases hb t.toList.isEmpty with q2 | q2
        · clear hb
          go_enter Try.func8, Try.ntmps8
          go_wp2_with fail
          generalize w.alloc (.cells #[.string ⟨#[]⟩, .string ⟨#[]⟩, .int .i64 0, .int .i64 0, .int .i64 0, .int .i64 0, .string ⟨#[]⟩] 24) = W0 at *
          refine (unhide IO W0).mono ?_
          rintro r w1 ⟨v1, rfl, ow, hb1⟩
          have s1 := s0.next hb1
          obtain ⟨a1, c1, rfl, hi1⟩ := ow.items
          have eo := unhide EO a1 c1 w1 hi1
          have EO2 := hide eo
          clear eo EO IO s0 hb1 ow hi1
          go_wp2_with fail
          refine (unhide EO2).mono ?_
          rintro r w2 ⟨rfl, hb2⟩
          have s2 := s1.next hb2
          have s3 := s2.alloc (.cells #[.string k, .string t, .int .i64 n0, .int .i64 n1, .int .i64 n2, .int .i64 n3, .string x] 24)
          clear s1 hb2 EO2
          go_wp2_with fail
          generalize w2.alloc (.cells #[.string k, .string t, .int .i64 n0, .int .i64 n1, .int .i64 n2, .int .i64 n3, .string x] 24) = W3 at *
          refine (unhide CK W3).mono ?_
          rintro r w4 ⟨rfl, rfl⟩
          have s4 := s3.alloc (.cells #[.string k, .string t, .int .i64 n0, .int .i64 n1, .int .i64 n2, .int .i64 n3, .string x] 24)
          generalize W3.alloc (.cells #[.string k, .string t, .int .i64 n0, .int .i64 n1, .int .i64 n2, .int .i64 n3, .string x] 24) = W4 at *
          have f0 := s4.bx.cells
          have r0 := s4.bx.froz
          have hb4 := put7_below s4.bel (Nat.le_refl _) ⟨⟨#[]⟩, ⟨#[]⟩, 0, 0, 0, 0, ⟨#[]⟩⟩
          dsimp only at f0
          clear s2 s3 CK
          go_wp2
          exact bodyPost_ret (v := .tuple #[.agg #[.string ⟨#[]⟩, .string ⟨#[]⟩, .int .i64 0, .int .i64 0, .int .i64 0, .int .i64 0, .string ⟨#[]⟩], .int .i64 20]) (by simp [results, Try.results8, go_sem, f0]) rfl ⟨rfl, hb4⟩
        · rcases hb E4 with rfl | rfl
          · clear hb
            go_enter Try.func8, Try.ntmps8
            go_wp2_with fail
            generalize w.alloc (.cells #[.string ⟨#[]⟩, .string ⟨#[]⟩, .int .i64 0, .int .i64 0, .int .i64 0, .int .i64 0, .string ⟨#[]⟩] 24) = W0 at *
            refine (unhide IO W0).mono ?_
            rintro r w1 ⟨v1, rfl, ow, hb1⟩
            have s1 := s0.next hb1
            obtain ⟨a1, c1, rfl, hi1⟩ := ow.items
            have eo := unhide EO a1 c1 w1 hi1
            have EO2 := hide eo
            clear eo EO IO s0 hb1 ow hi1
            go_wp2_with fail
            refine (unhide EO2).mono ?_
            rintro r w2 ⟨rfl, hb2⟩
            have s2 := s1.next hb2
            have s3 := s2.alloc (.cells #[.string k, .string t, .int .i64 n0, .int .i64 n1, .int .i64 n2, .int .i64 n3, .string x] 24)
            clear s1 hb2 EO2
            go_wp2_with fail
            generalize w2.alloc (.cells #[.string k, .string t, .int .i64 n0, .int .i64 n1, .int .i64 n2, .int .i64 n3, .string x] 24) = W3 at *
            refine (unhide CK W3).mono ?_
            rintro r w4 ⟨rfl, rfl⟩
            have s4 := s3.alloc (.cells #[.string k, .string t, .int .i64 n0, .int .i64 n1, .int .i64 n2, .int .i64 n3, .string x] 24)
            generalize W3.alloc (.cells #[.string k, .string t, .int .i64 n0, .int .i64 n1, .int .i64 n2, .int .i64 n3, .string x] 24) = W4 at *
            have f0 := s4.bx.cells
            have r0 := s4.bx.froz
            have hb4 := put7_below s4.bel (Nat.le_refl _) ⟨⟨#[]⟩, ⟨#[]⟩, 0, 0, 0, 0, ⟨#[]⟩⟩
            dsimp only at f0
            clear s2 s3 CK
            go_wp2
            exact bodyPost_ret (v := .tuple #[.agg #[.string ⟨#[]⟩, .string ⟨#[]⟩, .int .i64 0, .int .i64 0, .int .i64 0, .int .i64 0, .string ⟨#[]⟩], .int .i64 20]) (by simp [results, Try.results8, go_sem, f0]) rfl ⟨rfl, hb4⟩
          · rcases hb x.toList.isEmpty with q4 | q4
            · clear hb
              go_enter Try.func8, Try.ntmps8
              go_wp2_with fail
              generalize w.alloc (.cells #[.string ⟨#[]⟩, .string ⟨#[]⟩, .int .i64 0, .int .i64 0, .int .i64 0, .int .i64 0, .string ⟨#[]⟩] 24) = W0 at *
              refine (unhide IO W0).mono ?_
              rintro r w1 ⟨v1, rfl, ow, hb1⟩
              have s1 := s0.next hb1
              obtain ⟨a1, c1, rfl, hi1⟩ := ow.items
              have eo := unhide EO a1 c1 w1 hi1
              have EO2 := hide eo
              clear eo EO IO s0 hb1 ow hi1
              go_wp2_with fail
              refine (unhide EO2).mono ?_
              rintro r w2 ⟨rfl, hb2⟩
              have s2 := s1.next hb2
              have s3 := s2.alloc (.cells #[.string k, .string t, .int .i64 n0, .int .i64 n1, .int .i64 n2, .int .i64 n3, .string x] 24)
              clear s1 hb2 EO2
              go_wp2_with fail
              generalize w2.alloc (.cells #[.string k, .string t, .int .i64 n0, .int .i64 n1, .int .i64 n2, .int .i64 n3, .string x] 24) = W3 at *
              refine (unhide CK W3).mono ?_
              rintro r w4 ⟨rfl, rfl⟩
              have s4 := s3.alloc (.cells #[.string k, .string t, .int .i64 n0, .int .i64 n1, .int .i64 n2, .int .i64 n3, .string x] 24)
              generalize W3.alloc (.cells #[.string k, .string t, .int .i64 n0, .int .i64 n1, .int .i64 n2, .int .i64 n3, .string x] 24) = W4 at *
              have f0 := s4.bx.cells
              have r0 := s4.bx.froz
              have hb4 := put7_below s4.bel (Nat.le_refl _) ⟨⟨#[]⟩, ⟨#[]⟩, 0, 0, 0, 0, ⟨#[]⟩⟩
              dsimp only at f0
              clear s2 s3 CK
              go_wp2
              exact bodyPost_ret (v := .tuple #[.agg #[.string ⟨#[]⟩, .string ⟨#[]⟩, .int .i64 0, .int .i64 0, .int .i64 0, .int .i64 0, .string ⟨#[]⟩], .int .i64 20]) (by simp [results, Try.results8, go_sem, f0]) rfl ⟨rfl, hb4⟩
            · clear hb
              go_enter Try.func8, Try.ntmps8
              go_wp2_with fail
              generalize w.alloc (.cells #[.string ⟨#[]⟩, .string ⟨#[]⟩, .int .i64 0, .int .i64 0, .int .i64 0, .int .i64 0, .string ⟨#[]⟩] 24) = W0 at *
              refine (unhide IO W0).mono ?_
              rintro r w1 ⟨v1, rfl, ow, hb1⟩
              have s1 := s0.next hb1
              obtain ⟨a1, c1, rfl, hi1⟩ := ow.items
              have eo := unhide EO a1 c1 w1 hi1
              have EO2 := hide eo
              clear eo EO IO s0 hb1 ow hi1
              go_wp2_with fail
              refine (unhide EO2).mono ?_
              rintro r w2 ⟨rfl, hb2⟩
              have s2 := s1.next hb2
              have s3 := s2.alloc (.cells #[.string k, .string t, .int .i64 n0, .int .i64 n1, .int .i64 n2, .int .i64 n3, .string x] 24)
              have f0 := s3.bx.cells
              have r0 := s3.bx.froz
              have hb3 := put7_below s3.bel (Nat.le_refl _) ⟨⟨#[]⟩, ⟨#[]⟩, 0, 0, 0, 0, ⟨#[]⟩⟩
              dsimp only at f0
              clear s1 hb2 EO2 s2 CK
              go_wp2
              exact bodyPost_ret (v := .tuple #[.agg #[.string ⟨#[]⟩, .string ⟨#[]⟩, .int .i64 0, .int .i64 0, .int .i64 0, .int .i64 0, .string ⟨#[]⟩], .int .i64 20]) (by simp [results, Try.results8, go_sem, f0]) rfl ⟨rfl, hb3⟩
  · rw [if_pos hc] at hC
    subst hC
    rw [if_neg hc] at hV
    subst hV
    have g : (C != 0) = true := by rw [bne_iff_ne]; exact hc
    clear hc hok EO
    unfold Ev.c Ev.zero at *
    go_enter Try.func8, Try.ntmps8
    go_wp2_with fail
    generalize w.alloc (.cells #[.string ⟨#[]⟩, .string ⟨#[]⟩, .int .i64 0, .int .i64 0, .int .i64 0, .int .i64 0, .string ⟨#[]⟩] 24) = W0 at *
    refine (unhide IO W0).mono ?_
    rintro r w1 ⟨v1, rfl, ow, hb1⟩
    have s1 := s0.next hb1
    have f1 := s1.bx.cells
    have r1 := s1.bx.froz
    have hb2 := put7_below s1.bel (Nat.le_refl _) ⟨⟨#[]⟩, ⟨#[]⟩, 0, 0, 0, 0, ⟨#[]⟩⟩
    dsimp only at f1
    clear s0 hb1 ow
    go_wp2
    exact bodyPost_ret (v := .tuple #[.agg #[.string ⟨#[]⟩, .string ⟨#[]⟩, .int .i64 0, .int .i64 0, .int .i64 0, .int .i64 0, .string ⟨#[]⟩], .int .i64 C]) (by simp [results, Try.results8, go_sem, f1]) rfl ⟨rfl, hb2⟩
end Go.Proofs.Ytpfcoaimciojjaa
