/-
  DiskPrefix: what a crash that tears nothing leaves is the state that the disk had behind as many changes: the law returns true, whatever the acts.
-/
import Derived.Test.YtpbmkbfcnhekoaaDkTw
namespace Go.Proofs.Ytpbmkbfcnhekoaa
open Go.RowKit

theorem info_txs : (Try.prog.info? 45).map (fun i => (i.zero, i.size, i.bytes)) = some (some (.slice none 0 0), 1, 24) := by kernel_rfl
theorem one_cell (W : World) (a : Value) (t : TypeId) : ∀ j u, [a][j]? = some u → (W.alloc (.cells #[a] t)).cell? ((⟨W.heap.size, 0, none⟩ : Addr).add j) = some u := by
  intro j u hj
  have hb := CBox.new W #[a] t
  rw [Go.WideShapes.add_plain, Nat.zero_add]
  exact hb.cell (by simpa using hj)
set_option maxHeartbeats 8000000 in
set_option maxRecDepth 100000 in
theorem prefix_walk (ad : Option Addr) (cap : Nat) (l : List Ac) (xk : Int) (w : World) (hl : l.length ≤ 9223372036854775807) (hA : ActsAt w ad l) (hok : ∀ y ∈ l, y.ok) :
    Calls Try.prog 6 #[.slice ad l.length cap, .int .i64 xk] w fun e w' => e = .returned (.bool true) ∧ Below w.heap.size w w' := by
  have HA := hide hA
  have HOK := hide hok
  have WK := hide works_any
  obtain ⟨i0, hi, hz0, hz1, hz2⟩ := info_parts info_txs
  clear hA hok
  go_enter Try.func6, Try.ntmps6
  go_wp2_with fail
  refine (unhide WK w).mono ?_
  rintro e w1 ⟨rfl, hk1'⟩
  go_wp2_with fail
  refine (new_any _).mono ?_
  rintro e w2 ⟨p, F, rfl, hd, hkF, hF⟩
  go_wp2_with fail
  refine (new_any _).mono ?_
  rintro e w3 ⟨q, G, rfl, he, hkG, hG⟩
  have t3 : Two w w3 p q Dk.new Dk.new (.slice none 0 0) [] [] := by
    have s1 := hk1'.size
    have s2 := hkF.size
    refine ⟨F, G, [], hd.kp hkG (by simp), he, ⟨World.ownsRow_nil _ _ _ _, rfl, fun j x t h => (by simp at h), fun k h => (by simp [Value.ownBlock] at h), fun x h => (by cases h), fun k h => (by cases h)⟩, (hk1'.trans hkF (by simp)).trans hkG (by simp), fun k hk => ⟨?_, fun hm => ?_, by simp⟩, fun k hk => ⟨?_, by simp⟩, fun k h => by cases h⟩
    · have := hF k hk; omega
    · have := hG k hm; have := hd.lt k hk; omega
    · have := hG k hk; omega
  clear hd he hkF hF hkG hG hk1'
  go_wp2_with fail
  refine t3.all.mono ?_
  rintro e w4 ⟨x, rfl, t4⟩
  clear t3
  obtain ⟨ax, nx, cx, rfl⟩ := t4.form
  have hown := t4.row
  have T4 := hide t4
  clear t4
  go_wp2_with (at_builtin; refine wpList_append_lies _ rfl _ _ 49 rfl 0 45 i0 (.slice none 0 0) 1 24 Try.underlying49 hi hz0 hz1 hz2 rfl (by decide) (.slice none 0 0) 0 [] rfl (hown.alloc _) ⟨w4.heap.size, 0, none⟩ 1 1 [.slice ax nx cx] rfl rfl (one_cell _ _ _) (by intro u hu; simp at hu; subst hu; rfl) (by omega) (by unfold maxLen; omega) (by omega) (by simp) _ rfl ?_; intro g3 cap3 w5 hown' hgrow hat3 hlt3; have HAT := hide hat3; clear hat3)
  have t5 := (unhide T4).push hown' hgrow (unhide HAT) hlt3
  clear T4 hown hown' hgrow HAT hlt3
  have TT : Hid (Two w w5 p q Dk.new Dk.new (.slice (some ⟨g3, 0, none⟩) (0 + 1) cap3) [.slice ax nx cx] [alL Dk.new.now]) := hide t5
  have HP : Hid (Pre Dk.new [alL Dk.new.now]) := hide Pre.new
  clear t5
  go_wp2
  go_loopw [8, 7, 9, 10] (fun i o _ _ wr => ∃ (k : Nat) (ov : Value) (d : Dk) (vs : List Value) (ts : List (List ByteArray)), k ≤ l.length ∧ i = .int .i64 (k : Int) ∧ ov = o ∧ Two w wr p q d d ov vs ts ∧ Hid (Pre d ts)) (fun i _ _ _ _ => l.length - (intOf i).toNat)
  case atStart => exact ⟨0, _, _, _, _, by omega, rfl, rfl, unhide TT, HP⟩
  case round =>
    clear TT HP
    obtain ⟨k, ov, d, vs, ts, hk, rfl, rfl, ow, HP⟩ := hrel
    have hfin : k < l.length ∧ k < 60 ∨ ¬ (k < l.length ∧ k < 60) := Classical.em _
    rcases hfin with ⟨hlt, h60⟩ | hend
    · have hli : (k : Int) < (l.length : Int) := by omega
      have h60i : (k : Int) < 60 := by omega
      have hA' := (unhide HA).kp ow.bel
      obtain ⟨b, off, rfl, hbw, hc⟩ := hA' (fun e => by rw [e] at hlt; simp at hlt)
      have hy := unhide HOK l[k] (List.getElem_mem hlt)
      have hcs := hc k hlt
      obtain ⟨⟨b1, b2⟩, b3, b4, ⟨b5, b6⟩, b7, b8⟩ := hy
      obtain ⟨ac, hac⟩ : ∃ ac, l[k] = ac := ⟨_, rfl⟩
      rw [hac] at hcs b1 b2 b3 b4 b5 b6
      clear hac hc hA'
      obtain ⟨kind, nm, to, pos, n⟩ := ac
      dsimp only at hcs b1 b2 b3 b4 b5 b6
      have hkb := Kp.alloc wr (.cells #[.int .i64 kind, .string nm, .string to, .int .i64 pos, .int .i64 n] 29)
      have ow2 := ow.kp hkb
      have OW0 := hide ow
      clear hkb ow
      have am := fun W => among_any kind 4 W (by decide) (by decide)
      have r0 := Int.emod_nonneg kind (by decide : (4 : Int) ≠ 0)
      have r1 := Int.emod_lt_of_pos kind (by decide : (0 : Int) < 4)
      have AM := hide am
      clear am
      have hfw := ow2.inv.few
      have hlen1 := (unhide HP).len
      have OW := hide ow2
      have OWT := hide ow2.waiting
      clear ow2
      have hcases : kind % 4 = 0 ∨ kind % 4 = 1 ∨ kind % 4 = 2 ∨ kind % 4 = 3 := by omega
      rcases hcases with hr | hr | hr | hr
      · rw [hr] at AM
        have HL : Hid (Calls Try.prog 14 #[.pointer (some ⟨p, 0, none⟩), .string nm, .int .i64 pos, .string to] (wr.alloc (.cells #[.int .i64 kind, .string nm, .string to, .int .i64 pos, .int .i64 n] 29)) fun e w' => e = .returned (.int .i64 (d.wrE nm pos to)) ∧ Two w w' p q (d.wrD nm pos to) d ov vs ts ∧ CBox wr.heap.size #[.int .i64 kind, .string nm, .string to, .int .i64 pos, .int .i64 n] 29 w') := hide ((unhide OW0).leftA _ _ fun F hd => write_any nm pos to p d F _ hd b3 b5 b6 b4)
        have HR : Hid (∀ (W : World), Two w W p q (d.wrD nm pos to) d ov vs ts → Calls Try.prog 14 #[.pointer (some ⟨q, 0, none⟩), .string nm, .int .i64 pos, .string to] W fun e w' => e = .returned (.int .i64 (d.wrE nm pos to)) ∧ Two w w' p q (d.wrD nm pos to) (d.wrD nm pos to) ov vs ts) := hide (fun W h => h.right fun F hd => write_any nm pos to q d F W hd b3 b5 b6 b4)
        have hn : Next d (d.wrD nm pos to) := next_wr (unhide HP).fine nm pos to
        clear hr r0 r1
        generalize (d.wrE nm pos to) = er at *
        generalize (d.wrD nm pos to) = d' at *
        obtain rfl | ⟨c, rfl⟩ := hn
        · go_wp2_with fail
          refine (unhide OWT).mono ?_
          rintro e w5 ⟨rfl, rfl⟩
          go_wp2_with fail
          refine (unhide AM _).mono ?_
          rintro e w6 ⟨rfl, rfl⟩
          go_wp2_with fail
          refine (unhide HL).mono ?_
          rintro e w6 ⟨rfl, o6, cb⟩
          have cb1 : w6.cell? ⟨wr.heap.size, 1, none⟩ = some (.string nm) := cb.cell rfl
          have cb2 : w6.cell? ⟨wr.heap.size, 2, none⟩ = some (.string to) := cb.cell rfl
          have cb3 : w6.cell? ⟨wr.heap.size, 3, none⟩ = some (.int .i64 pos) := cb.cell rfl
          clear cb
          go_wp2_with fail
          refine (unhide HR w6 o6).mono ?_
          rintro e w7 ⟨rfl, o7⟩
          clear cb1 cb2 cb3
          have W7 := hide o7.waiting
          go_wp2_with fail
          refine (unhide W7).mono ?_
          rintro e w8 ⟨rfl, rfl⟩
          go_wp2
          go_roundw
          case rel => exact ⟨k + 1, _, _, _, _, by omega, by go_num, rfl, o7, HP⟩
          case measure => simp [intOf]; omega
        · have HP2 := hide ((unhide HP).grow c)
          have hwl : (d.wait ++ [c]).length = d.wait.length + 1 := by simp
          go_wp2_with fail
          refine (unhide OWT).mono ?_
          rintro e w5 ⟨rfl, rfl⟩
          go_wp2_with fail
          refine (unhide AM _).mono ?_
          rintro e w6 ⟨rfl, rfl⟩
          go_wp2_with fail
          refine (unhide HL).mono ?_
          rintro e w6 ⟨rfl, o6, cb⟩
          have cb1 : w6.cell? ⟨wr.heap.size, 1, none⟩ = some (.string nm) := cb.cell rfl
          have cb2 : w6.cell? ⟨wr.heap.size, 2, none⟩ = some (.string to) := cb.cell rfl
          have cb3 : w6.cell? ⟨wr.heap.size, 3, none⟩ = some (.int .i64 pos) := cb.cell rfl
          clear cb
          go_wp2_with fail
          refine (unhide HR w6 o6).mono ?_
          rintro e w7 ⟨rfl, o7⟩
          clear cb1 cb2 cb3
          have W7 := o7.waiting
          dsimp only at W7
          rw [hwl] at W7
          have WW7 := hide W7
          have OA := hide o7.all
          clear o6 o7 W7 OW OWT HL HR AM
          go_wp2_with fail
          refine (unhide WW7).mono ?_
          rintro e w8 ⟨rfl, rfl⟩
          have hgt : ((d.wait.length : Nat) : Int) < ((d.wait.length + 1 : Nat) : Int) := by omega
          go_wp2_with fail
          refine (unhide OA).mono ?_
          rintro e w9 ⟨x, rfl, t9⟩
          clear OA WW7
          obtain ⟨ax, nx, cx, rfl⟩ := t9.form
          have hown := t9.row
          have hvl := (let ⟨_, _, _, _, _, h1, _⟩ := t9; h1.len : vs.length = ts.length)
          have T9 := hide t9
          have hvb : vs.length ≤ 1025 := by omega
          clear t9 hvl hlen1 hfw
          go_wp2_with (at_builtin; refine wpList_append_lies _ rfl _ _ 49 rfl 0 45 i0 (.slice none 0 0) 1 24 Try.underlying49 hi hz0 hz1 hz2 rfl (by decide) ov vs.length vs rfl (hown.alloc _) ⟨w9.heap.size, 0, none⟩ 1 1 [.slice ax nx cx] rfl rfl (one_cell _ _ _) (by intro u hu; simp at hu; subst hu; rfl) (by omega) (by unfold maxLen; omega) (by omega) (by simp) _ rfl ?_; intro g3 cap3 w10 hown' hgrow hat3 hlt3; have HAT := hide hat3; clear hat3)
          have t10 := (unhide T9).push hown' hgrow (unhide HAT) hlt3
          have T10 := hide t10
          clear T9 hown hown' hgrow HAT hlt3 t10
          go_wp2
          go_roundw
          case rel => exact ⟨k + 1, _, _, _, _, by omega, by go_num, rfl, unhide T10, HP2⟩
          case measure => simp [intOf]; omega
      · rw [hr] at AM
        have HL : Hid (Calls Try.prog 16 #[.pointer (some ⟨p, 0, none⟩), .string nm, .int .i64 pos] (wr.alloc (.cells #[.int .i64 kind, .string nm, .string to, .int .i64 pos, .int .i64 n] 29)) fun e w' => e = .returned (.int .i64 (d.ctE nm pos)) ∧ Two w w' p q (d.ctD nm pos) d ov vs ts ∧ CBox wr.heap.size #[.int .i64 kind, .string nm, .string to, .int .i64 pos, .int .i64 n] 29 w') := hide ((unhide OW0).leftA _ _ fun F hd => cut_any nm pos p d F _ hd b3 b5 b6)
        have HR : Hid (∀ (W : World), Two w W p q (d.ctD nm pos) d ov vs ts → Calls Try.prog 16 #[.pointer (some ⟨q, 0, none⟩), .string nm, .int .i64 pos] W fun e w' => e = .returned (.int .i64 (d.ctE nm pos)) ∧ Two w w' p q (d.ctD nm pos) (d.ctD nm pos) ov vs ts) := hide (fun W h => h.right fun F hd => cut_any nm pos q d F W hd b3 b5 b6)
        have hn : Next d (d.ctD nm pos) := next_ct (unhide HP).fine nm pos
        clear hr r0 r1
        generalize (d.ctE nm pos) = er at *
        generalize (d.ctD nm pos) = d' at *
        obtain rfl | ⟨c, rfl⟩ := hn
        · go_wp2_with fail
          refine (unhide OWT).mono ?_
          rintro e w5 ⟨rfl, rfl⟩
          go_wp2_with fail
          refine (unhide AM _).mono ?_
          rintro e w6 ⟨rfl, rfl⟩
          go_wp2_with fail
          refine (unhide HL).mono ?_
          rintro e w6 ⟨rfl, o6, cb⟩
          have cb1 : w6.cell? ⟨wr.heap.size, 1, none⟩ = some (.string nm) := cb.cell rfl
          have cb2 : w6.cell? ⟨wr.heap.size, 2, none⟩ = some (.string to) := cb.cell rfl
          have cb3 : w6.cell? ⟨wr.heap.size, 3, none⟩ = some (.int .i64 pos) := cb.cell rfl
          clear cb
          go_wp2_with fail
          refine (unhide HR w6 o6).mono ?_
          rintro e w7 ⟨rfl, o7⟩
          clear cb1 cb2 cb3
          have W7 := hide o7.waiting
          go_wp2_with fail
          refine (unhide W7).mono ?_
          rintro e w8 ⟨rfl, rfl⟩
          go_wp2
          go_roundw
          case rel => exact ⟨k + 1, _, _, _, _, by omega, by go_num, rfl, o7, HP⟩
          case measure => simp [intOf]; omega
        · have HP2 := hide ((unhide HP).grow c)
          have hwl : (d.wait ++ [c]).length = d.wait.length + 1 := by simp
          go_wp2_with fail
          refine (unhide OWT).mono ?_
          rintro e w5 ⟨rfl, rfl⟩
          go_wp2_with fail
          refine (unhide AM _).mono ?_
          rintro e w6 ⟨rfl, rfl⟩
          go_wp2_with fail
          refine (unhide HL).mono ?_
          rintro e w6 ⟨rfl, o6, cb⟩
          have cb1 : w6.cell? ⟨wr.heap.size, 1, none⟩ = some (.string nm) := cb.cell rfl
          have cb2 : w6.cell? ⟨wr.heap.size, 2, none⟩ = some (.string to) := cb.cell rfl
          have cb3 : w6.cell? ⟨wr.heap.size, 3, none⟩ = some (.int .i64 pos) := cb.cell rfl
          clear cb
          go_wp2_with fail
          refine (unhide HR w6 o6).mono ?_
          rintro e w7 ⟨rfl, o7⟩
          clear cb1 cb2 cb3
          have W7 := o7.waiting
          dsimp only at W7
          rw [hwl] at W7
          have WW7 := hide W7
          have OA := hide o7.all
          clear o6 o7 W7 OW OWT HL HR AM
          go_wp2_with fail
          refine (unhide WW7).mono ?_
          rintro e w8 ⟨rfl, rfl⟩
          have hgt : ((d.wait.length : Nat) : Int) < ((d.wait.length + 1 : Nat) : Int) := by omega
          go_wp2_with fail
          refine (unhide OA).mono ?_
          rintro e w9 ⟨x, rfl, t9⟩
          clear OA WW7
          obtain ⟨ax, nx, cx, rfl⟩ := t9.form
          have hown := t9.row
          have hvl := (let ⟨_, _, _, _, _, h1, _⟩ := t9; h1.len : vs.length = ts.length)
          have T9 := hide t9
          have hvb : vs.length ≤ 1025 := by omega
          clear t9 hvl hlen1 hfw
          go_wp2_with (at_builtin; refine wpList_append_lies _ rfl _ _ 49 rfl 0 45 i0 (.slice none 0 0) 1 24 Try.underlying49 hi hz0 hz1 hz2 rfl (by decide) ov vs.length vs rfl (hown.alloc _) ⟨w9.heap.size, 0, none⟩ 1 1 [.slice ax nx cx] rfl rfl (one_cell _ _ _) (by intro u hu; simp at hu; subst hu; rfl) (by omega) (by unfold maxLen; omega) (by omega) (by simp) _ rfl ?_; intro g3 cap3 w10 hown' hgrow hat3 hlt3; have HAT := hide hat3; clear hat3)
          have t10 := (unhide T9).push hown' hgrow (unhide HAT) hlt3
          have T10 := hide t10
          clear T9 hown hown' hgrow HAT hlt3 t10
          go_wp2
          go_roundw
          case rel => exact ⟨k + 1, _, _, _, _, by omega, by go_num, rfl, unhide T10, HP2⟩
          case measure => simp [intOf]; omega
      · rw [hr] at AM
        have HL : Hid (Calls Try.prog 18 #[.pointer (some ⟨p, 0, none⟩), .string nm, .string to] (wr.alloc (.cells #[.int .i64 kind, .string nm, .string to, .int .i64 pos, .int .i64 n] 29)) fun e w' => e = .returned (.int .i64 (d.rnE nm to)) ∧ Two w w' p q (d.rnD nm to) d ov vs ts ∧ CBox wr.heap.size #[.int .i64 kind, .string nm, .string to, .int .i64 pos, .int .i64 n] 29 w') := hide ((unhide OW0).leftA _ _ fun F hd => rename_any nm to p d F _ hd b3 b4)
        have HR : Hid (∀ (W : World), Two w W p q (d.rnD nm to) d ov vs ts → Calls Try.prog 18 #[.pointer (some ⟨q, 0, none⟩), .string nm, .string to] W fun e w' => e = .returned (.int .i64 (d.rnE nm to)) ∧ Two w w' p q (d.rnD nm to) (d.rnD nm to) ov vs ts) := hide (fun W h => h.right fun F hd => rename_any nm to q d F W hd b3 b4)
        have hn : Next d (d.rnD nm to) := next_rn (unhide HP).fine nm to
        clear hr r0 r1
        generalize (d.rnE nm to) = er at *
        generalize (d.rnD nm to) = d' at *
        obtain rfl | ⟨c, rfl⟩ := hn
        · go_wp2_with fail
          refine (unhide OWT).mono ?_
          rintro e w5 ⟨rfl, rfl⟩
          go_wp2_with fail
          refine (unhide AM _).mono ?_
          rintro e w6 ⟨rfl, rfl⟩
          go_wp2_with fail
          refine (unhide HL).mono ?_
          rintro e w6 ⟨rfl, o6, cb⟩
          have cb1 : w6.cell? ⟨wr.heap.size, 1, none⟩ = some (.string nm) := cb.cell rfl
          have cb2 : w6.cell? ⟨wr.heap.size, 2, none⟩ = some (.string to) := cb.cell rfl
          have cb3 : w6.cell? ⟨wr.heap.size, 3, none⟩ = some (.int .i64 pos) := cb.cell rfl
          clear cb
          go_wp2_with fail
          refine (unhide HR w6 o6).mono ?_
          rintro e w7 ⟨rfl, o7⟩
          clear cb1 cb2 cb3
          have W7 := hide o7.waiting
          go_wp2_with fail
          refine (unhide W7).mono ?_
          rintro e w8 ⟨rfl, rfl⟩
          go_wp2
          go_roundw
          case rel => exact ⟨k + 1, _, _, _, _, by omega, by go_num, rfl, o7, HP⟩
          case measure => simp [intOf]; omega
        · have HP2 := hide ((unhide HP).grow c)
          have hwl : (d.wait ++ [c]).length = d.wait.length + 1 := by simp
          go_wp2_with fail
          refine (unhide OWT).mono ?_
          rintro e w5 ⟨rfl, rfl⟩
          go_wp2_with fail
          refine (unhide AM _).mono ?_
          rintro e w6 ⟨rfl, rfl⟩
          go_wp2_with fail
          refine (unhide HL).mono ?_
          rintro e w6 ⟨rfl, o6, cb⟩
          have cb1 : w6.cell? ⟨wr.heap.size, 1, none⟩ = some (.string nm) := cb.cell rfl
          have cb2 : w6.cell? ⟨wr.heap.size, 2, none⟩ = some (.string to) := cb.cell rfl
          have cb3 : w6.cell? ⟨wr.heap.size, 3, none⟩ = some (.int .i64 pos) := cb.cell rfl
          clear cb
          go_wp2_with fail
          refine (unhide HR w6 o6).mono ?_
          rintro e w7 ⟨rfl, o7⟩
          clear cb1 cb2 cb3
          have W7 := o7.waiting
          dsimp only at W7
          rw [hwl] at W7
          have WW7 := hide W7
          have OA := hide o7.all
          clear o6 o7 W7 OW OWT HL HR AM
          go_wp2_with fail
          refine (unhide WW7).mono ?_
          rintro e w8 ⟨rfl, rfl⟩
          have hgt : ((d.wait.length : Nat) : Int) < ((d.wait.length + 1 : Nat) : Int) := by omega
          go_wp2_with fail
          refine (unhide OA).mono ?_
          rintro e w9 ⟨x, rfl, t9⟩
          clear OA WW7
          obtain ⟨ax, nx, cx, rfl⟩ := t9.form
          have hown := t9.row
          have hvl := (let ⟨_, _, _, _, _, h1, _⟩ := t9; h1.len : vs.length = ts.length)
          have T9 := hide t9
          have hvb : vs.length ≤ 1025 := by omega
          clear t9 hvl hlen1 hfw
          go_wp2_with (at_builtin; refine wpList_append_lies _ rfl _ _ 49 rfl 0 45 i0 (.slice none 0 0) 1 24 Try.underlying49 hi hz0 hz1 hz2 rfl (by decide) ov vs.length vs rfl (hown.alloc _) ⟨w9.heap.size, 0, none⟩ 1 1 [.slice ax nx cx] rfl rfl (one_cell _ _ _) (by intro u hu; simp at hu; subst hu; rfl) (by omega) (by unfold maxLen; omega) (by omega) (by simp) _ rfl ?_; intro g3 cap3 w10 hown' hgrow hat3 hlt3; have HAT := hide hat3; clear hat3)
          have t10 := (unhide T9).push hown' hgrow (unhide HAT) hlt3
          have T10 := hide t10
          clear T9 hown hown' hgrow HAT hlt3 t10
          go_wp2
          go_roundw
          case rel => exact ⟨k + 1, _, _, _, _, by omega, by go_num, rfl, unhide T10, HP2⟩
          case measure => simp [intOf]; omega
      · rw [hr] at AM
        have HL : Hid (Calls Try.prog 17 #[.pointer (some ⟨p, 0, none⟩), .string nm] (wr.alloc (.cells #[.int .i64 kind, .string nm, .string to, .int .i64 pos, .int .i64 n] 29)) fun e w' => e = .returned (.int .i64 (d.rmE nm)) ∧ Two w w' p q (d.rmD nm) d ov vs ts ∧ CBox wr.heap.size #[.int .i64 kind, .string nm, .string to, .int .i64 pos, .int .i64 n] 29 w') := hide ((unhide OW0).leftA _ _ fun F hd => remove_any nm p d F _ hd b3)
        have HR : Hid (∀ (W : World), Two w W p q (d.rmD nm) d ov vs ts → Calls Try.prog 17 #[.pointer (some ⟨q, 0, none⟩), .string nm] W fun e w' => e = .returned (.int .i64 (d.rmE nm)) ∧ Two w w' p q (d.rmD nm) (d.rmD nm) ov vs ts) := hide (fun W h => h.right fun F hd => remove_any nm q d F W hd b3)
        have hn : Next d (d.rmD nm) := next_rm (unhide HP).fine nm
        clear hr r0 r1
        generalize (d.rmE nm) = er at *
        generalize (d.rmD nm) = d' at *
        obtain rfl | ⟨c, rfl⟩ := hn
        · go_wp2_with fail
          refine (unhide OWT).mono ?_
          rintro e w5 ⟨rfl, rfl⟩
          go_wp2_with fail
          refine (unhide AM _).mono ?_
          rintro e w6 ⟨rfl, rfl⟩
          go_wp2_with fail
          refine (unhide HL).mono ?_
          rintro e w6 ⟨rfl, o6, cb⟩
          have cb1 : w6.cell? ⟨wr.heap.size, 1, none⟩ = some (.string nm) := cb.cell rfl
          have cb2 : w6.cell? ⟨wr.heap.size, 2, none⟩ = some (.string to) := cb.cell rfl
          have cb3 : w6.cell? ⟨wr.heap.size, 3, none⟩ = some (.int .i64 pos) := cb.cell rfl
          clear cb
          go_wp2_with fail
          refine (unhide HR w6 o6).mono ?_
          rintro e w7 ⟨rfl, o7⟩
          clear cb1 cb2 cb3
          have W7 := hide o7.waiting
          go_wp2_with fail
          refine (unhide W7).mono ?_
          rintro e w8 ⟨rfl, rfl⟩
          go_wp2
          go_roundw
          case rel => exact ⟨k + 1, _, _, _, _, by omega, by go_num, rfl, o7, HP⟩
          case measure => simp [intOf]; omega
        · have HP2 := hide ((unhide HP).grow c)
          have hwl : (d.wait ++ [c]).length = d.wait.length + 1 := by simp
          go_wp2_with fail
          refine (unhide OWT).mono ?_
          rintro e w5 ⟨rfl, rfl⟩
          go_wp2_with fail
          refine (unhide AM _).mono ?_
          rintro e w6 ⟨rfl, rfl⟩
          go_wp2_with fail
          refine (unhide HL).mono ?_
          rintro e w6 ⟨rfl, o6, cb⟩
          have cb1 : w6.cell? ⟨wr.heap.size, 1, none⟩ = some (.string nm) := cb.cell rfl
          have cb2 : w6.cell? ⟨wr.heap.size, 2, none⟩ = some (.string to) := cb.cell rfl
          have cb3 : w6.cell? ⟨wr.heap.size, 3, none⟩ = some (.int .i64 pos) := cb.cell rfl
          clear cb
          go_wp2_with fail
          refine (unhide HR w6 o6).mono ?_
          rintro e w7 ⟨rfl, o7⟩
          clear cb1 cb2 cb3
          have W7 := o7.waiting
          dsimp only at W7
          rw [hwl] at W7
          have WW7 := hide W7
          have OA := hide o7.all
          clear o6 o7 W7 OW OWT HL HR AM
          go_wp2_with fail
          refine (unhide WW7).mono ?_
          rintro e w8 ⟨rfl, rfl⟩
          have hgt : ((d.wait.length : Nat) : Int) < ((d.wait.length + 1 : Nat) : Int) := by omega
          go_wp2_with fail
          refine (unhide OA).mono ?_
          rintro e w9 ⟨x, rfl, t9⟩
          clear OA WW7
          obtain ⟨ax, nx, cx, rfl⟩ := t9.form
          have hown := t9.row
          have hvl := (let ⟨_, _, _, _, _, h1, _⟩ := t9; h1.len : vs.length = ts.length)
          have T9 := hide t9
          have hvb : vs.length ≤ 1025 := by omega
          clear t9 hvl hlen1 hfw
          go_wp2_with (at_builtin; refine wpList_append_lies _ rfl _ _ 49 rfl 0 45 i0 (.slice none 0 0) 1 24 Try.underlying49 hi hz0 hz1 hz2 rfl (by decide) ov vs.length vs rfl (hown.alloc _) ⟨w9.heap.size, 0, none⟩ 1 1 [.slice ax nx cx] rfl rfl (one_cell _ _ _) (by intro u hu; simp at hu; subst hu; rfl) (by omega) (by unfold maxLen; omega) (by omega) (by simp) _ rfl ?_; intro g3 cap3 w10 hown' hgrow hat3 hlt3; have HAT := hide hat3; clear hat3)
          have t10 := (unhide T9).push hown' hgrow (unhide HAT) hlt3
          have T10 := hide t10
          clear T9 hown hown' hgrow HAT hlt3 t10
          go_wp2
          go_roundw
          case rel => exact ⟨k + 1, _, _, _, _, by omega, by go_num, rfl, unhide T10, HP2⟩
          case measure => simp [intOf]; omega
    · by_cases hlt : k < l.length
      · have h60i : ¬ ((k : Int) < 60) := by omega
        have hli : (k : Int) < (l.length : Int) := by omega
        clear hend
        have hfw := ow.inv.few
        obtain ⟨R, hR⟩ := ow.rows
        have hvl : vs.length = d.wait.length + 1 := hR.len.trans (unhide HP).len
        obtain ⟨g, cap', rfl, hcap⟩ := hR.shape (by omega)
        clear hR
        have hv0 : (0 : Int) < (vs.length : Int) := by omega
        have r0 := Int.emod_nonneg xk (by omega : (vs.length : Int) ≠ 0)
        have r1 := Int.emod_lt_of_pos xk hv0
        obtain ⟨m, hm⟩ : ∃ m : Nat, xk % (vs.length : Int) = (m : Int) := ⟨(xk % (vs.length : Int)).toNat, by omega⟩
        rw [hm] at r0 r1
        have hml : m < vs.length := by omega
        have am := fun W => among_any xk (vs.length : Int) W hv0 (by omega)
        rw [hm] at am
        have AM := hide am
        have hpc := (unhide HP).crash m (by rw [(unhide HP).len]; omega)
        have HC := hide (fun W (h : Two w W p q d d (.slice (some ⟨g, 0, none⟩) vs.length cap') vs ts) => h.right fun F hd => crash_any (m : Int) (-1) q d F W hd (by decide))
        have OW := hide ow
        have hN : vs.length ≤ 1025 := by omega
        have HPC := hide hpc
        clear am hm hvl hfw ow hpc HP r0
        generalize (d.crash (m : Int) (-1)) = dc at *
        obtain ⟨y, hy⟩ : ∃ y, vs[m]? = some y := ⟨vs[m], List.getElem?_eq_getElem hml⟩
        go_wp2_with fail
        refine (unhide AM _).mono ?_
        rintro e w6 ⟨rfl, rfl⟩
        go_wp2_with fail
        refine (unhide HC _ (unhide OW)).mono ?_
        rintro e w7 ⟨rfl, o7⟩
        have o8 := o7.kp (Kp.drew w7)
        clear o7
        have OA := hide o8.allR
        have c7 := o8.cell hy
        clear o8
        go_wp2_with fail
        go_region_held3 (fun W => W.cell? ⟨g, m, none⟩ = some y) (first | with_reducible exact c7 | with_reducible exact c8 | with_reducible exact c9)
          (first
            | (go_at_call 23; refine (unhide OA).mono ?_; rintro e w8 ⟨x, rfl, o8, hx8⟩; have c8 := o8.cell hy; have SM := hide (o8.same hy (unhide HPC) hx8); have hb8 := o8.bel; clear o8 hx8)
            | (go_at_call 24; refine (unhide SM).mono ?_; rintro e w9 ⟨rfl, hk9⟩; have hb9 := hb8.trans hk9 (by simp); have c9 : w9.cell? ⟨g, m, none⟩ = some y := hk9.cell c8 (by simp); clear hk9))
        have hfin : Below w.heap.size w w9 := hb9.below (Nat.le_refl _) (by simp)
        go_wp2
        go_ret
        exact ⟨rfl, hfin⟩
      · have hli : ¬ ((k : Int) < (l.length : Int)) := by omega
        clear hend
        have hfw := ow.inv.few
        obtain ⟨R, hR⟩ := ow.rows
        have hvl : vs.length = d.wait.length + 1 := hR.len.trans (unhide HP).len
        obtain ⟨g, cap', rfl, hcap⟩ := hR.shape (by omega)
        clear hR
        have hv0 : (0 : Int) < (vs.length : Int) := by omega
        have r0 := Int.emod_nonneg xk (by omega : (vs.length : Int) ≠ 0)
        have r1 := Int.emod_lt_of_pos xk hv0
        obtain ⟨m, hm⟩ : ∃ m : Nat, xk % (vs.length : Int) = (m : Int) := ⟨(xk % (vs.length : Int)).toNat, by omega⟩
        rw [hm] at r0 r1
        have hml : m < vs.length := by omega
        have am := fun W => among_any xk (vs.length : Int) W hv0 (by omega)
        rw [hm] at am
        have AM := hide am
        have hpc := (unhide HP).crash m (by rw [(unhide HP).len]; omega)
        have HC := hide (fun W (h : Two w W p q d d (.slice (some ⟨g, 0, none⟩) vs.length cap') vs ts) => h.right fun F hd => crash_any (m : Int) (-1) q d F W hd (by decide))
        have OW := hide ow
        have hN : vs.length ≤ 1025 := by omega
        have HPC := hide hpc
        clear am hm hvl hfw ow hpc HP r0
        generalize (d.crash (m : Int) (-1)) = dc at *
        obtain ⟨y, hy⟩ : ∃ y, vs[m]? = some y := ⟨vs[m], List.getElem?_eq_getElem hml⟩
        go_wp2_with fail
        refine (unhide AM _).mono ?_
        rintro e w6 ⟨rfl, rfl⟩
        go_wp2_with fail
        refine (unhide HC _ (unhide OW)).mono ?_
        rintro e w7 ⟨rfl, o7⟩
        have o8 := o7.kp (Kp.drew w7)
        clear o7
        have OA := hide o8.allR
        have c7 := o8.cell hy
        clear o8
        go_wp2_with fail
        go_region_held3 (fun W => W.cell? ⟨g, m, none⟩ = some y) (first | with_reducible exact c7 | with_reducible exact c8 | with_reducible exact c9)
          (first
            | (go_at_call 23; refine (unhide OA).mono ?_; rintro e w8 ⟨x, rfl, o8, hx8⟩; have c8 := o8.cell hy; have SM := hide (o8.same hy (unhide HPC) hx8); have hb8 := o8.bel; clear o8 hx8)
            | (go_at_call 24; refine (unhide SM).mono ?_; rintro e w9 ⟨rfl, hk9⟩; have hb9 := hb8.trans hk9 (by simp); have c9 : w9.cell? ⟨g, m, none⟩ = some y := hk9.cell c8 (by simp); clear hk9))
        have hfin : Below w.heap.size w w9 := hb9.below (Nat.le_refl _) (by simp)
        go_wp2
        go_ret
        exact ⟨rfl, hfin⟩
end Go.Proofs.Ytpbmkbfcnhekoaa
