/-
  The document's disk: may a name be; files but one name's.
-/
import Derived.Test.YtfnljfkgkadlaaaG12
namespace Go.Proofs.Ytfnljfkgkadlaaa
open Go.RowKit

theorem info_file : (Try.prog.info? 58).map (fun i => (i.zero, i.size, i.bytes)) = some (some (.agg #[.string ⟨#[]⟩, .string ⟨#[]⟩]), 2, 32) := by kernel_rfl
theorem two_cellF (W : World) (a b : Value) (t : TypeId) : ∀ j u, [a, b][j]? = some u → (W.alloc (.cells #[a, b] t)).cell? ((⟨W.heap.size, 0, none⟩ : Addr).add j) = some u := by
  intro j u hj
  have hb := CBox.new W #[a, b] t
  rw [Go.WideShapes.add_plain, Nat.zero_add]
  exact hb.cell (by simpa using hj)
theorem without_take {fs : Fs} (n : ByteArray) {k : Nat} (hk : k < fs.length) : without (fs.take (k + 1)) n = without (fs.take k) n ++ (if fs[k].1 = n then [] else [fs[k]]) := by
  unfold without
  rw [List.take_succ_eq_append_getElem hk, List.filter_append]
  by_cases h : fs[k].1 = n
  · rw [if_pos h, List.filter_cons_of_neg (by simpa using h)]; rfl
  · rw [if_neg h, List.filter_cons_of_pos (by simpa using h)]; rfl
theorem without_le (fs : Fs) (n : ByteArray) : (without fs n).length ≤ fs.length := List.length_filter_le _ _
theorem flatMap_snoc (l : Fs) (p : ByteArray × List UInt8) : (l ++ [p]).flatMap fcell = l.flatMap fcell ++ [.string p.1, .string ⟨p.2.toArray⟩] := by
  rw [List.flatMap_append]; simp [fcell]
set_option maxHeartbeats 4000000 in
set_option maxRecDepth 100000 in
theorem without_any (v : Value) (fs : Fs) (n : ByteArray) (w : World) (h : FlRow w v fs) (hl : fs.length ≤ 1000000) :
    Calls Try.prog 51 #[v, .string n] w fun e w' => ∃ v', e = .returned v' ∧ FlRow w' v' (without fs n) ∧ Kp [] w w' ∧ ∀ k, v'.ownBlock = some k → w.heap.size ≤ k := by
  obtain ⟨i0, hi, hz0, hz1, hz2⟩ := info_parts info_file
  have HH := hide h
  obtain ⟨rfl, rfl⟩ | ⟨g, cap, rfl, hc, hm⟩ := h.shape
  · clear HH h
    go_enter Try.func51, Try.ntmps51
    go_wp2
    go_loopw [5, 6] (fun o i wr => o = .slice none 0 0 ∧ i = .int .i64 0 ∧ wr = w) (fun _ _ _ => 0)
    case atStart => exact ⟨rfl, rfl, rfl⟩
    case round =>
      obtain ⟨rfl, rfl, rfl⟩ := hrel
      go_wp2
      go_ret
      exact ⟨_, rfl, FlRow.nil _, Kp.refl _ _, fun k hk => by simp [Value.ownBlock] at hk⟩
  · have hgl : g < w.heap.size := h.lt rfl
    clear h
    go_enter Try.func51, Try.ntmps51
    go_wp2
    go_loopw [5, 6] (fun o i wr => ∃ (k : Nat) (ov : Value), k ≤ fs.length ∧ i = .int .i64 (k : Int) ∧ ov = o ∧ Hid (FlRow wr (.slice (some ⟨g, 0, none⟩) fs.length cap) fs) ∧ Kp [] w wr ∧ Hid (FlRow wr ov (without (fs.take k) n)) ∧ Hid (∀ j, ov.ownBlock = some j → w.heap.size ≤ j)) (fun _ i _ => fs.length - (intOf i).toNat)
    case atStart => exact ⟨0, _, Nat.zero_le _, rfl, rfl, HH, Kp.refl _ _, hide (FlRow.nil _), hide (fun k hk => by simp [Value.ownBlock] at hk)⟩
    case round =>
      obtain ⟨k, ov, hk, rfl, rfl, HT, hkk, HO, HB⟩ := hrel
      by_cases hlt : k < fs.length
      · have hli : (k : Int) < (fs.length : Int) := by omega
        obtain ⟨c1, c2⟩ := (unhide HT).cell k hlt
        have hst := without_take n hlt
        have hwl := without_le (fs.take k) n
        rw [List.length_take] at hwl
        have hwb : (without (fs.take k) n).length ≤ 1000000 := by omega
        clear hwl
        generalize hfk : fs[k] = q at *
        obtain ⟨qn, qb⟩ := q
        dsimp only at c1 c2 hst
        clear hfk
        generalize hqs : (⟨qb.toArray⟩ : ByteArray) = qs at *
        have HQ := hide hqs
        clear hqs
        by_cases he : qn = n
        · subst he
          rw [if_pos rfl, List.append_nil] at hst
          rw [← hst] at HO
          clear hst hwb
          go_wp2
          go_roundw
          case rel => exact ⟨k + 1, ov, by omega, by go_num, rfl, HT, hkk, HO, HB⟩
          case measure => simp [intOf]; omega
        · have heb := strNe he
          rw [if_neg he] at hst
          have HST := hide hst
          have hown : wr.ownsRow 0 58 2 ov (without (fs.take k) n).length ((without (fs.take k) n).flatMap fcell) := unhide HO
          clear hst he HO
          generalize without (fs.take k) n = TK at *
          go_wp2_with (at_builtin; refine wpList_append_lies _ rfl _ _ 38 rfl 0 58 i0 (.agg #[.string ⟨#[]⟩, .string ⟨#[]⟩]) 2 32 Try.underlying38 hi hz0 hz1 hz2 rfl (by decide) ov TK.length (TK.flatMap fcell) rfl (hown.alloc _) ⟨wr.heap.size, 0, none⟩ 1 1 [.string qn, .string qs] rfl rfl (two_cellF _ _ _ _) (by intro u hu; simp at hu; rcases hu with rfl | rfl <;> rfl) (by omega) (by unfold maxLen; omega) (by omega) (by simp) _ rfl ?_; intro g3 cap3 w3 hown' hgrow hat3 hlt3; have HAT := hide hat3; clear hat3)
          have hal := Kp.alloc wr (.cells #[.string qn, .string qs] 58)
          have hz : (wr.alloc (.cells #[.string qn, .string qs] 58)).heap.size = wr.heap.size + 1 := by simp
          have hszw := hkk.size
          have hk3 : Kp [] w w3 := (hkk.trans hal (by simp)).trans (Kp.of hgrow) (fun x hx => Or.inr (unhide HB x (by simpa using hx)))
          have HT3 : Hid (FlRow w3 (.slice (some ⟨g, 0, none⟩) fs.length cap) fs) := hide (((unhide HT).kp hal (by simp)).kp (Kp.of hgrow) (fun k hk hm => by
            have e1 : g = k := by simpa [Value.ownBlock] using hk
            have := unhide HB k (by simpa using hm)
            omega))
          have HO3 : Hid (FlRow w3 (.slice (some ⟨g3, 0, none⟩) (TK.length + 1) cap3) (TK ++ [(qn, qb)])) := hide (by
            unfold FlRow
            rw [List.length_append, flatMap_snoc, unhide HQ]
            exact hown')
          have HB3 : Hid (∀ j, (Value.slice (some ⟨g3, 0, none⟩) (TK.length + 1) cap3).ownBlock = some j → w.heap.size ≤ j) := hide (fun j hj => by
            have e1 : g3 = j := by simpa [Value.ownBlock] using hj
            subst e1
            rcases unhide HAT with h1 | h1
            · exact unhide HB g3 h1
            · rw [hz] at h1; omega)
          rw [← unhide HST] at HO3
          clear hown hown' hgrow HAT hal hz hszw HST
          go_wp2
          go_roundw
          case rel => exact ⟨k + 1, _, by omega, by go_num, rfl, HT3, hk3, HO3, HB3⟩
          case measure => simp [intOf]; omega
      · obtain rfl : k = fs.length := by omega
        rw [List.take_length] at HO
        go_wp2
        go_ret
        exact ⟨_, rfl, unhide HO, hkk, unhide HB⟩
end Go.Proofs.Ytfnljfkgkadlaaa
