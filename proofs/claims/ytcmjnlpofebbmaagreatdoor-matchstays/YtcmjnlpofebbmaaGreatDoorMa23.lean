/-
  Walks and plain facts, made small.
-/
import Derived.Test.YtcmjnlpofebbmaaGreatDoorMa22
import Derived.BigQuiet
import Derived.Deep.RegionWith
import Derived.Lib.Builder
import Derived.Laws.Externs
import Derived.Laws.Concat
set_option maxRecDepth 100000
set_option maxHeartbeats 8000000
set_option linter.unusedSimpArgs false
namespace Go.Proofs.YtcmjnlpofebbmaaGreatDoor
open Go.RowKit
theorem qbP (t:Tk)(h:256<t.s.size):wrOk t=false:=by unfold wrOk;rw[decide_eq_false (by omega)];rfl
theorem qa7 (t u:Tk)(m:Nat)(hs:t.s.size<=256)(h:tkR (q04 t)=some (u,m)):wrOk t=tkEq u (t.out 0):=by unfold wrOk;rw[h,decide_eq_true hs];simp
theorem q76 (t:Tk)(w:World)(hT:TbW w)(hs:t.s.size<=9223372036854775807)(h0: -9223372036854775808<=t.n)(h1:t.n<=9223372036854775807):
  Calls Tryz.prog 153 #[t.v] w fun e w'=> ∃b,e= .returned (.tuple #[.string b, .bool (wrOk t)])/\(wrOk t=true->b=txt (q04 t))/\Below w.heap.size w w':=by
 by_cases hbig:256<t.s.size
 ·rw[qbP t hbig]
  obtain ⟨k,s,n,p⟩:=t
  dsimp only at hs hbig
  unfold Tk.v
  dsimp only
  go_enter Tryz.func153,Tryz.ntmps153
  go_wp2
  go_ret2
  exact ⟨⟨_,rfl⟩,(Below.refl _ _).alloc (Nat.le_refl _) _⟩
 ·have hsl:=q3f t (by omega) h0 h1
  have SP:=fun W hW=>q9U t W hW (by omega) h0 h1
  have RD:=fun W hW=>q6o (txt (q04 t)) W hW (by rw[q0k];omega)
  rw[q0y]at RD
  have HW1:=hZq (qa6 t)
  have HW2:=hZq (fun u m=>qa7 t u m (by omega))
  generalize wrOk t=OK at *
  generalize hS:txt (q04 t)=S at *
  clear hS
  have HSP:=hZq SP
  clear SP hsl
  cases hQ:tkR (q04 t)with
  |none=>
   have e:=uQ HW1 hQ
   subst e
   rw[hQ]at RD
   have HRD:Hid (∀W,TbW W->Calls Tryz.prog 32 #[.string S] W fun e w'=>e= .returned (.tuple #[.agg #[.int .i64 0, .string ⟨#[]⟩, .int .i64 0, .int .i64 0], .int .i64 0])/\Below W.heap.size W w'):=hZq RD
   clear RD HW1 HW2 hQ
   obtain ⟨k,s,n,p⟩:=t
   unfold Tk.v at *
   dsimp only at *
   go_enter Tryz.func153,Tryz.ntmps153
   go_wp2_with fail
   refine (uQ HSP _ (hT.alloc _)).mono ?_
   rintro e w1 ⟨rfl,hb1⟩
   have hT1:TbW w1:=(hT.alloc _).below hb1 (by have:=hT.low;simp;omega)
   have q1:CBox w.heap.size #[.int .i64 k, .string s, .int .i64 n, .int .i64 p] 78 w1:=by unfold CBox;rw[hb1.block _ (by simp)];exact heap_alloc_new w _
   have hB1:Below w.heap.size w w1:=((Below.refl _ _).alloc (Nat.le_refl _) _).trans (hb1.mono (by simp))
   have hl1:w.heap.size<w1.heap.size:=by have:=hb1.size;simp at this;omega
   clear hb1
   go_wp2_with fail
   refine (uQ HRD _ hT1).mono ?_
   rintro e w2 ⟨rfl,hb2⟩
   have hB2:Below w.heap.size w w2:=hB1.trans (hb2.mono (by omega))
   have q2:CBox w.heap.size #[.int .i64 k, .string s, .int .i64 n, .int .i64 p] 78 w2:=by unfold CBox;rw[hb2.block _ hl1];exact q1
   have hl2:w.heap.size<w2.heap.size:=by have:=hb2.size;omega
   have c3:=CBox.cell (i:=3) (v:= .int .i64 p) q2 rfl
   have f3:=CBox.froz q2 3
   have HB2:=hZq hB2
   clear hB2 hB1 q1 hb2 q2
   go_wp2_with fail
   go_quiet (fail)
   go_wp2
   go_ret2
   exact ⟨_,rfl,fun h=>absurd h (by simp),q4N (((uQ HB2).setCell (p:=⟨w.heap.size,3,none⟩) (Nat.le_refl _) _).alloc (by simp;omega) _) _⟩
  |some q=>
   obtain ⟨u,m⟩:=q
   have e:=uQ HW2 u m hQ
   have hm:=(q0o hQ).1
   rw[hQ]at RD
   have EQ: ∀W,(Op.equalIn 10000 78 u.v (t.out 0).v).run Tryz.prog W= .ok OK W:=fun W=>by rw[e];exact eqT 9998 u (t.out 0) W
   clear e HW1 HW2 hQ
   obtain ⟨k,s,n,p⟩:=t
   obtain ⟨uk,us,un,up⟩:=u
   have HRD:Hid (∀W,TbW W->Calls Tryz.prog 32 #[.string S] W fun e w'=>e= .returned (.tuple #[.agg #[.int .i64 uk, .string us, .int .i64 un, .int .i64 up], .int .i64 (m:Int)])/\Below W.heap.size W w'):=hZq RD
   have EQ2: ∀W,(Op.equalIn 10000 78 (.agg #[.int .i64 uk, .string us, .int .i64 un, .int .i64 up]) (.agg #[.int .i64 k, .string s, .int .i64 n, .int .i64 0])).run Tryz.prog W= .ok OK W:=EQ
   clear RD EQ
   unfold Tk.v at *
   dsimp only at *
   have HEQ:=hZq EQ2
   clear EQ2
   go_enter Tryz.func153,Tryz.ntmps153
   go_wp2_with fail
   refine (uQ HSP _ (hT.alloc _)).mono ?_
   rintro e w1 ⟨rfl,hb1⟩
   have hT1:TbW w1:=(hT.alloc _).below hb1 (by have:=hT.low;simp;omega)
   have q1:CBox w.heap.size #[.int .i64 k, .string s, .int .i64 n, .int .i64 p] 78 w1:=by unfold CBox;rw[hb1.block _ (by simp)];exact heap_alloc_new w _
   have hB1:Below w.heap.size w w1:=((Below.refl _ _).alloc (Nat.le_refl _) _).trans (hb1.mono (by simp))
   have hl1:w.heap.size<w1.heap.size:=by have:=hb1.size;simp at this;omega
   clear hb1
   go_wp2_with fail
   refine (uQ HRD _ hT1).mono ?_
   rintro e w2 ⟨rfl,hb2⟩
   have hB2:Below w.heap.size w w2:=hB1.trans (hb2.mono (by omega))
   have q2:CBox w.heap.size #[.int .i64 k, .string s, .int .i64 n, .int .i64 p] 78 w2:=by unfold CBox;rw[hb2.block _ hl1];exact q1
   have hl2:w.heap.size<w2.heap.size:=by have:=hb2.size;omega
   have c3:=CBox.cell (i:=3) (v:= .int .i64 p) q2 rfl
   have f3:=CBox.froz q2 3
   have HB2:=hZq hB2
   have Q2:=hZq q2
   clear hB2 hB1 q1 hb2 q2
   go_wp2_with fail
   have q3:CBox w.heap.size #[.int .i64 k, .string s, .int .i64 n, .int .i64 0] 78 ((w2.setCell ⟨w.heap.size,3,none⟩ (.int .i64 0)).alloc (.cells #[.int .i64 uk, .string us, .int .i64 un, .int .i64 up] 78)):=CBox.kp ((uQ Q2).set 3 (.int .i64 0)) (Kp.alloc _ _) (by simp)
   have q4:CBox w2.heap.size #[.int .i64 uk, .string us, .int .i64 un, .int .i64 up] 78 ((w2.setCell ⟨w.heap.size,3,none⟩ (.int .i64 0)).alloc (.cells #[.int .i64 uk, .string us, .int .i64 un, .int .i64 up] 78)):=by
    have:=CBox.new (w2.setCell ⟨w.heap.size,3,none⟩ (.int .i64 0)) #[.int .i64 uk, .string us, .int .i64 un, .int .i64 up] 78
    simpa using this
   have HBF:Hid (Below w.heap.size w ((w2.setCell ⟨w.heap.size,3,none⟩ (.int .i64 0)).alloc (.cells #[.int .i64 uk, .string us, .int .i64 un, .int .i64 up] 78))):=hZq (((uQ HB2).setCell (Nat.le_refl _) _).alloc (by simp;omega) _)
   generalize (w2.setCell ⟨w.heap.size,3,none⟩ (.int .i64 0)).alloc (.cells #[.int .i64 uk, .string us, .int .i64 un, .int .i64 up] 78)=W at *
   have a0:=CBox.cell (i:=0) (v:= .int .i64 k) q3 rfl
   have a1:=CBox.cell (i:=1) (v:= .string s) q3 rfl
   have a2:=CBox.cell (i:=2) (v:= .int .i64 n) q3 rfl
   have a3:=CBox.cell (i:=3) (v:= .int .i64 0) q3 rfl
   have b0:=CBox.cell (i:=0) (v:= .int .i64 uk) q4 rfl
   have b1:=CBox.cell (i:=1) (v:= .string us) q4 rfl
   have b2:=CBox.cell (i:=2) (v:= .int .i64 un) q4 rfl
   have b3:=CBox.cell (i:=3) (v:= .int .i64 up) q4 rfl
   clear q3 q4 c3 f3 Q2 HB2
   have EQ:=uQ HEQ
   go_quiet (fail)
   go_wp2
   go_ret2
   exact ⟨_,rfl,fun _=>rfl,q4N (uQ HBF) _⟩
open Go.RowKit Go.Deep
open Go.RowKit
def q2a (l:List Tk):Bool:=match l.getLast? with|some t=>t.kd==0|none=>false
def cutL (l:List Tk):List Tk:=if q2a l=true then l.dropLast else l
def endT (l:List Tk):Tk:=if q2a l=true then l.getLast?.getD ⟨0,⟨#[]⟩,0,0⟩ else ⟨0,⟨#[]⟩,0,0⟩
theorem TksAt.take {w:World}{ad:Option Addr}{l:List Tk}(h:TksAt w ad l)(n:Nat):TksAt w ad (l.take n):=fun hl=>by
 obtain ⟨b,off,e,hlt,hc⟩:=h (by intro e;subst e;simp at hl)
 refine ⟨b,off,e,hlt,fun i hi=>?_⟩
 rw[List.length_take]at hi
 have:=hc i (by omega)
 simpa using this
theorem TksAt.cut {w:World}{ad:Option Addr}{l:List Tk}(h:TksAt w ad l):TksAt w ad (cutL l):=by
 unfold cutL
 split
 ·rw[List.dropLast_eq_take];exact h.take _
 ·exact h
theorem qam {l:List Tk}{t:Tk}(h:t∈cutL l):t∈l:=by
 unfold cutL at h
 split at h
 ·exact List.dropLast_subset _ h
 ·exact h
theorem qaV (l:List Tk)(m:Nat)(h:l.length=m+1):q2a l=(l[m].kd==0):=by
 unfold q2a
 rw[List.getLast?_eq_getElem?,show l.length-1=m by omega,List.getElem?_eq_getElem (by omega)]
theorem q1P (l:List Tk)(m:Nat)(h:l.length=m+1)(he:q2a l=true):endT l=l[m]:=by
 unfold endT
 rw[if_pos he,List.getLast?_eq_getElem?,show l.length-1=m by omega,List.getElem?_eq_getElem (by omega)]
 rfl
theorem q83 (ad:Option Addr)(cap:Nat)(l:List Tk)(w:World)(hl:l.length<=9223372036854775807)(hcap:l.length<=cap)(hA:TksAt w ad l):
  Calls Tryz.prog 152 #[.slice ad l.length cap] w fun e w'=>e= .returned (.tuple #[.slice ad (cutL l).length cap,(endT l).v])/\Below w.heap.size w w':=by
 cases hn:l.length with
 |zero=>
  obtain rfl:=List.eq_nil_of_length_eq_zero hn
  have e1:cutL []=[]:=rfl
  have e2:endT []=⟨0,⟨#[]⟩,0,0⟩:=rfl
  rw[e1,e2]
  clear hA e1 e2 hn
  go_enter Tryz.func152,Tryz.ntmps152
  go_wp2
  exact bodyPost_ret (v:= .tuple #[.slice ad 0 cap, .agg #[.int .i64 0, .string ⟨#[]⟩, .int .i64 0, .int .i64 0]]) (by simp[results,Tryz.results152,go_sem]) rfl ⟨rfl,(Below.refl _ _).alloc (Nat.le_refl _) _⟩
 |succ m=>
  obtain ⟨b,off,rfl,hlt,c0,c1,c2,c3⟩:=hA.at m (by omega)
  have h1:=qaV l m hn
  have h2:=q1P l m hn
  have k1:=Kp.alloc w (.cells #[.int .i64 0, .string ⟨#[]⟩, .int .i64 0, .int .i64 0] 78)
  have d0:=k1.cell c0 (by simp)
  have d1:=k1.cell c1 (by simp)
  have d2:=k1.cell c2 (by simp)
  have d3:=k1.cell c3 (by simp)
  generalize l[m]=T at *
  obtain ⟨k,s,n,p⟩:=T
  dsimp only at *
  clear c0 c1 c2 c3 k1 hA
  by_cases he:k=0
  ·subst he
   rw[show ((0:Int)==0)=true from rfl]at h1
   rw[h2 h1,show (cutL l).length=m by unfold cutL;rw[if_pos h1,List.length_dropLast];omega]
   clear h1 h2
   have HL:=hZq hn
   have hl2:m+1<=9223372036854775807:=by omega
   have hcap2:m+1<=cap:=by omega
   clear hn hl hcap
   go_enter Tryz.func152,Tryz.ntmps152
   go_wp2_with fail
   have HB:Hid (Below w.heap.size w (w.alloc (.cells #[.int .i64 0, .string ⟨#[]⟩, .int .i64 0, .int .i64 0] 78))):=hZq ((Below.refl _ _).alloc (Nat.le_refl _) _)
   have hbx:CBox w.heap.size #[.int .i64 0, .string ⟨#[]⟩, .int .i64 0, .int .i64 0] 78 (w.alloc (.cells #[.int .i64 0, .string ⟨#[]⟩, .int .i64 0, .int .i64 0] 78)):=CBox.new w _ _
   have hne:b≠w.heap.size:=by omega
   generalize w.alloc (.cells #[.int .i64 0, .string ⟨#[]⟩, .int .i64 0, .int .i64 0] 78)=W at *
   have x0:=CBox.cell (i:=0) (v:= .int .i64 0) hbx rfl
   have x1:=CBox.cell (i:=1) (v:= .string ⟨#[]⟩) hbx rfl
   have x2:=CBox.cell (i:=2) (v:= .int .i64 0) hbx rfl
   have x3:=CBox.cell (i:=3) (v:= .int .i64 0) hbx rfl
   have f0:=CBox.froz hbx 0
   have f1:=CBox.froz hbx 1
   have f2:=CBox.froz hbx 2
   have f3:=CBox.froz hbx 3
   clear hbx
   go_region_with (fail)
   all_goals (go_wp2;exact bodyPost_ret (v:= .tuple #[.slice (some ⟨b,off,none⟩) m cap, .agg #[.int .i64 0, .string s, .int .i64 n, .int .i64 p]]) (by simp[results,Tryz.results152,go_sem,x0,x1,x2,x3]) rfl ⟨rfl,((((uQ HB).drew.setCell (p:=⟨w.heap.size,0,none⟩) (Nat.le_refl _) _).setCell (p:=⟨w.heap.size,1,none⟩) (Nat.le_refl _) _).setCell (p:=⟨w.heap.size,2,none⟩) (Nat.le_refl _) _).setCell (p:=⟨w.heap.size,3,none⟩) (Nat.le_refl _) _⟩)
  ·have g:(k==0)=false:=by simpa using he
   rw[g]at h1
   have e2:endT l=⟨0,⟨#[]⟩,0,0⟩:=by unfold endT;rw[h1];rfl
   have e1:cutL l=l:=by unfold cutL;rw[h1];rfl
   rw[e1,e2,hn]
   have HL:=hZq hn
   have hl2:m+1<=9223372036854775807:=by omega
   have g2:(k != 0)=true:=by simpa using he
   clear e1 e2 h1 h2 hn hl hcap
   go_enter Tryz.func152,Tryz.ntmps152
   go_wp2
   exact bodyPost_ret (v:= .tuple #[.slice (some ⟨b,off,none⟩) (m+1) cap, .agg #[.int .i64 0, .string ⟨#[]⟩, .int .i64 0, .int .i64 0]]) (by simp[results,Tryz.results152,go_sem]) rfl ⟨rfl,(Below.refl _ _).alloc (Nat.le_refl _) _⟩
open Go.RowKit
def Bld (B b:Nat)(l:List UInt8)(w:World):Prop:=Lib.IsBuilder 221 5 B b (q0C l) w
theorem qek:(Tryz.prog.info? 221).map (·.size)=some 2:=by kernel_rfl
theorem qel:liesAt Tryz.prog Tryz.prog.depth 221 (2 / Tryz.prog.cellsOf 221) 0 221 1=true:=by kernel_rfl
theorem Bld.new (w:World):Bld w.heap.size w.heap.size [] (w.alloc (.cells #[.pointer none, .slice none 0 0] 221)):=
 Or.inl ⟨Nat.le_refl _,_,heap_alloc_new w _,World.ownsRow_nil _ _ _ _,by simp[Value.ownBlock]⟩
theorem q2V (B b:Nat)(l:List UInt8)(w:World)(h:Bld B b l w):
  Calls Tryz.prog 155 #[.pointer (some ⟨b,0,none⟩)] w fun e w'=>e= .returned (.tuple #[])/\B<=b/\(∃v,w'.heap[b]?=some (.cells #[.pointer (some ⟨b,0,none⟩),v] 221 (0,0))/\Owns B w' v l)/\Below B w w':=by
 obtain ⟨j,hj,hjs⟩:=Option.map_eq_some_iff.1 qek
 rcases h with h|h
 ·have c0:=h.cell0
  have hsh:=h.shape
  have hfz:=h.frozen0
  have HH:=hZq h
  clear h
  go_enter Tryz.func155,Tryz.ntmps155
  go_wp2
  rw[Lib.run_to_unsafe w ⟨b,0,none⟩ Tryz.underlying219 Tryz.underlying279 hj (by rw[hjs];decide) hsh (Nat.zero_lt_succ 1)]
  simp only[Result.andThen]
  rw[Oper.upon_value]
  go_wp2
  rw[run_callFunc_extern Tryz.func180 (by kernel_rfl) (by kernel_rfl) (by kernel_rfl) (e:=Extern.AbiNoEscape.same) (by kernel_rfl)]
  rw[Lib.run_noEscape]
  simp only[Result.andThen]
  rw[Oper.upon_value]
  go_wp2
  rw[Lib.run_from_unsafe w ⟨b,0,none⟩ Tryz.underlying279 Tryz.underlying219 hj hsh qel]
  simp only[Result.andThen]
  rw[Oper.upon_value]
  go_wp2
  have h:=uQ HH
  obtain ⟨h1,v,h2,h3,h4⟩:=h.used (.pointer (some ⟨b,0,none⟩))
  rw[q0V]at h3
  go_end0
  exact ⟨rfl,h1,⟨v,h2,h3⟩,(Below.refl B w).setCell (p:=⟨b,0,none⟩) h1 _⟩
 ·have c0:=h.cell0
  have HH:=hZq h
  clear h
  go_enter Tryz.func155,Tryz.ntmps155
  go_wp2
  rw[Lib.run_neq_ptr_same w _ Tryz.underlying219 hj]
  go_wp2
  obtain ⟨h1,v,h2,h3,h4⟩:=uQ HH
  rw[q0V]at h3
  go_end0
  exact ⟨rfl,h1,⟨v,h2,h3⟩,Below.refl B w⟩
theorem q5m (B b:Nat)(l:List UInt8)(c:Nat)(w:World)(h:Bld B b l w)(hc:c<256)(hl:l.length+1<=140737488355328)(hB:B<=w.heap.size):
  Calls Tryz.prog 154 #[.pointer (some ⟨b,0,none⟩), .int .u8 (c:Int)] w fun e w'=>e= .returned .nilIface/\Bld B b (l++[UInt8.ofNat c]) w'/\Below B w w':=by
 obtain ⟨i0,hi,hz0,hz1,hz2⟩:=info_parts q7A
 go_enter Tryz.func154,Tryz.ntmps154
 go_wp2_with fail
 refine (q2V B b l w h).mono ?_
 rintro e w1 ⟨rfl,hBb,⟨v,hbk,hown⟩,hb1⟩
 have c1:w1.cell? ⟨b,1,none⟩=some v:=by rw[Lib.cell_of_heap hbk];rfl
 clear h
 unfold Owns at hown
 go_wp2_with (at_builtin;refine wpList_append_own _ rfl _ _ 103 rfl B 5 i0 (.int .u8 0) 1 1 Tryz.underlying103 hi hz0 hz1 hz2 rfl (by decide) _ _ _ rfl (hown.alloc _) ⟨w1.heap.size,0,none⟩ 1 1 [.int .u8 (c:Int)] rfl rfl ?c1 ?c2 ?c3 ?c4 ?c5 ?_)
 case c1=>
  intro j u hj
  match j,hj with
  |0,hj=>simp at hj;subst hj;simp[Addr.add]
 case c2=>intro u hu;simp at hu;subst hu;rfl
 case c3=>unfold maxLen;omega
 case c4=>omega
 case c5=>have:=hb1.size;simp;omega
 intro v' w2 hown' hgrow _
 have hlt:b<w1.heap.size:=(Array.getElem?_eq_some_iff.1 hbk).1
 have hne:=Lib.ownBlock_ne hown hbk (by decide)
 have hb2:w2.heap[b]?=some (.cells #[.pointer (some ⟨b,0,none⟩),v] 221 (0,0)):=by
  rw[hgrow.block b (by simp;omega) (fun e=>hne e.symm),Lib.alloc_old w1 _ b hlt]
  exact hbk
 have d1:w2.cell? ⟨b,1,none⟩=some v:=by rw[Lib.cell_of_heap hb2];rfl
 have f1:w2.frozen? ⟨b,1,none⟩=false:=Lib.frozen_of_heap hb2 1
 obtain ⟨ao,n',cp,rfl⟩: ∃ao n' cp,v'= .slice ao n' cp:=by
  rcases hown'.2 with ⟨hv,_⟩|⟨g,cap,cur,hv,_⟩
  ·exact ⟨_,_,_,hv⟩
  ·exact ⟨_,_,_,hv⟩
 have HR:Hid (Bld B b (l++[UInt8.ofNat c]) (w2.setCell ⟨b,1,none⟩ (.slice ao n' cp))/\Below B w (w2.setCell ⟨b,1,none⟩ (.slice ao n' cp))):=by
  refine hZq ⟨?_,?_⟩
  ·have:=Lib.BuilderAt.put (T:=221) (e:=5) hBb hb2 (bs':=q0C (l++[UInt8.ofNat c])) (by rw[q0V,q31, <-q8P c hc];simpa using hown') (by decide)
   exact Or.inr this
  ·exact ((hb1.alloc (by have:=hb1.size;omega) _).grown hgrow (by have:=hb1.size;simp;omega) (fun k hk=>(hown.lt k hk).1)).setCell (p:=⟨b,1,none⟩) hBb _
 clear hown' hgrow hown hbk
 go_wp2
 go_ret
 exact ⟨rfl,uQ HR⟩
theorem q0T (B b:Nat)(l:List UInt8)(s:ByteArray)(w:World)(h:Bld B b l w)(hl:l.length+s.size<=140737488355328)(hB:B<=w.heap.size):
  Calls Tryz.prog 132 #[.pointer (some ⟨b,0,none⟩), .string s] w fun e w'=>e= .returned (.tuple #[.int .i64 s.size, .nilIface])/\Bld B b (l++s.data.toList) w'/\Below B w w':=by
 obtain ⟨i0,hi,hz0,hz1,hz2⟩:=info_parts q7A
 go_enter Tryz.func132,Tryz.ntmps132
 go_wp2_with fail
 refine (q2V B b l w h).mono ?_
 rintro e w1 ⟨rfl,hBb,⟨v,hbk,hown⟩,hb1⟩
 have c1:w1.cell? ⟨b,1,none⟩=some v:=by rw[Lib.cell_of_heap hbk];rfl
 clear h
 unfold Owns at hown
 go_wp2_with (at_builtin;refine Lib.wpList_append_own_string _ rfl _ _ 103 9 rfl B 5 i0 Tryz.underlying103 Tryz.underlying9 hi hz0 hz1 hz2 _ _ _ rfl hown s rfl ?c3 ?c4 ?c5 ?_)
 case c3=>unfold maxLen;omega
 case c4=>omega
 case c5=>have:=hb1.size;omega
 intro v' w2 hown' hgrow _
 have hlt:b<w1.heap.size:=(Array.getElem?_eq_some_iff.1 hbk).1
 have hne:=Lib.ownBlock_ne hown hbk (by decide)
 have hb2:w2.heap[b]?=some (.cells #[.pointer (some ⟨b,0,none⟩),v] 221 (0,0)):=by
  rw[hgrow.block b hlt (fun e=>hne e.symm)]
  exact hbk
 have d1:w2.cell? ⟨b,1,none⟩=some v:=by rw[Lib.cell_of_heap hb2];rfl
 have f1:w2.frozen? ⟨b,1,none⟩=false:=Lib.frozen_of_heap hb2 1
 obtain ⟨ao,n',cp,rfl⟩: ∃ao n' cp,v'= .slice ao n' cp:=by
  rcases hown'.2 with ⟨hv,_⟩|⟨g,cap,cur,hv,_⟩
  ·exact ⟨_,_,_,hv⟩
  ·exact ⟨_,_,_,hv⟩
 have HR:Hid (Bld B b (l++s.data.toList) (w2.setCell ⟨b,1,none⟩ (.slice ao n' cp))/\Below B w (w2.setCell ⟨b,1,none⟩ (.slice ao n' cp))):=by
  refine hZq ⟨?_,?_⟩
  ·have:=Lib.BuilderAt.put (T:=221) (e:=5) hBb hb2 (bs':=q0C (l++s.data.toList)) (by rw[q0V,q31, <-q8Q s,List.length_append,Array.length_toList];exact hown') (by decide)
   exact Or.inr this
  ·exact (hb1.grown hgrow (by have:=hb1.size;omega) (fun k hk=>(hown.lt k hk).1)).setCell (p:=⟨b,1,none⟩) hBb _
 clear hown' hgrow hown hbk
 go_wp2
 go_ret2
 exact ⟨rfl,uQ HR⟩
theorem q3y (B b:Nat)(l:List UInt8)(w:World)(h:Bld B b l w):
  Calls Tryz.prog 131 #[.pointer (some ⟨b,0,none⟩)] w fun e w'=>e= .returned (.int .i64 l.length)/\w'=w:=by
 have:=Tryz.Builder_Len B b (q0C l) w h
 rw[q0V]at this
 exact this
theorem q3u (B b:Nat)(l:List UInt8)(w:World)(h:Bld B b l w)(hB:B<=w.heap.size):
  Calls Tryz.prog 134 #[.pointer (some ⟨b,0,none⟩)] w fun e w'=>e= .returned (.string ⟨l.toArray⟩)/\Below B w w':=
 Tryz.Builder_String_any B b l w h hB
open Go.RowKit
theorem Bld.below {B b:Nat}{l:List UInt8}{w w':World}(h:Bld B b l w)(hb:Below w.heap.size w w'):Bld B b l w':=by
 have key: ∀p,Lib.BuilderAt 221 5 B b p (q0C l) w->Lib.BuilderAt 221 5 B b p (q0C l) w':=fun p h=>by
  have hlt:=h.lt
  obtain ⟨h1,v,h2,h3,h4⟩:=h
  refine ⟨h1,v,(hb.block b hlt).trans h2,?_,h4⟩
  refine World.ownsRow.kept (row:=none) h3 ⟨hb.os,hb.tape,hb.output,hb.size,fun k hk _=>hb.block k hk⟩ ?_
  cases v.ownBlock
  ·exact Or.inl rfl
  ·exact Or.inr (by simp)
 rcases h with h|h
 ·exact Or.inl (key _ h)
 ·exact Or.inr (key _ h)
theorem Bld.alloc {B b:Nat}{l:List UInt8}{w:World}(h:Bld B b l w)(o:Obj):Bld B b l (w.alloc o):=h.below ((Below.refl _ _).alloc (Nat.le_refl _) o)
theorem q9Z (l:List Tk)(h: ∀t∈l,wrOk t=true):(q0O l).length<=l.length * 259:=by
 induction l with
 |nil=>simp[q0O]
 |cons t r ih=>
  have h1:=(q3Q t).1 (h t (by simp))
  obtain ⟨_,hl,hsp,_,_,_,_,hn0,hn1,_⟩:=q0o h1.2
  have h2:=q3f t h1.1 (by have:(t.out 0).n=t.n:=rfl;omega) (by have:(t.out 0).n=t.n:=rfl;omega)
  have h3:=ih (fun x hx=>h x (by simp[hx]))
  rw[show q0O (t::r)=32::(q04 t++q0O r) by unfold q0O;simp]
  simp only[List.length_cons,List.length_append]
  omega
theorem q4W (l:List Tk)(h: ∀t∈l,wrOk t=true):(q0i l).length<=l.length * 259:=by
 have:=q9Z l h
 cases l with
 |nil=>simp[q0i]
 |cons t r=>
  rw[show q0O (t::r)=32::q0i (t::r) by unfold q0i q0O;simp]at this
  simp only[List.length_cons]at this ⊢
  omega
theorem TksAt.below {w w':World}{ad:Option Addr}{l:List Tk}{B:Nat}(h:TksAt w ad l)(hb:Below B w w')(hB:w.heap.size<=B):TksAt w' ad l:=h.kp ⟨hb.os,hb.tape,hb.output,hb.size,fun k hk _=>hb.block k (by omega)⟩
theorem q9n {a:List Tk}{k:Nat}(h:k<a.length):q0i (a.take (k+1))=if k=0 then q04 a[k] else (q0i (a.take k)++[32])++q04 a[k]:=by
 rw[List.take_succ_eq_append_getElem h,q8l]
 by_cases hk:k=0
 ·rw[if_pos hk,if_pos (by subst hk;rfl)]
 ·rw[if_neg hk,if_neg (fun e=>by have:=congrArg List.length e;rw[List.length_take]at this;simp only[List.length_nil]at this;omega),List.append_assoc]
  rfl
theorem qdk {a:List Tk}{k:Nat}(h:k<a.length)(h1: ∀t∈a.take k,wrOk t=true)(h2:wrOk a[k]=true): ∀t∈a.take (k+1),wrOk t=true:=by
 rw[List.take_succ_eq_append_getElem h]
 intro t ht
 rcases List.mem_append.1 ht with h3|h3
 ·exact h1 t h3
 ·simp at h3;subst h3;exact h2
theorem q5W {a:List Tk}{k:Nat}(h:k<=a.length)(ha:a.length<=4096)(h1: ∀t∈a.take k,wrOk t=true):(q0i (a.take k)).length<=1060864:=by
 have:=q4W _ h1
 rw[List.length_take]at this
 omega
def joR (l:List Tk):List UInt8 × Int:=
 if 4096<(cutL l).length then ([],2) else if ¬ (∀t∈cutL l,wrOk t=true) then ([],100) else if ¬ ((endT l).s.size=0/\(endT l).n=0) then ([],100) else
 if 262144<(q0i (cutL l)).length then ([],2) else (q0i (cutL l),0)
theorem qaZ (ad:Option Addr)(cap:Nat)(l:List Tk)(w:World)(hT:TbW w)(hl:l.length<=9223372036854775807)(hcap:l.length<=cap)(hA:TksAt w ad l)(hok: ∀t∈l,t.ok):
  Calls Tryz.prog 130 #[.slice ad l.length cap] w fun e w'=>e= .returned (.tuple #[.string (txt (joR l).1), .int .i64 (joR l).2])/\Below w.heap.size w w':=by
 have CE:=q83 ad cap l w hl hcap hA
 have hAc:=hA.cut
 have hokc: ∀t∈cutL l,t.ok:=fun t ht=>hok t (qam ht)
 have hlc:(cutL l).length<=9223372036854775807:=by
  unfold cutL
  split
  ·rw[List.length_dropLast];omega
  ·exact hl
 have hlow:=hT.low
 generalize hR:joR l=R
 unfold joR at hR
 generalize cutL l=a at *
 generalize endT l=E at *
 generalize l.length=nl at *
 clear hA hok hl hcap
 obtain ⟨ek,es,en,ep⟩:=E
 dsimp only[Tk.v]at CE hR
 have HCE:=hZq CE
 clear CE
 by_cases hbig:4096<a.length
 ·rw[if_pos hbig]at hR
  subst hR
  clear hAc hokc
  generalize a.length=n at *
  go_enter Tryz.func130,Tryz.ntmps130
  go_wp2_with fail
  refine (uQ HCE).mono ?_
  rintro e w1 ⟨rfl,hb1⟩
  have HB:Hid (Below w.heap.size w (w1.alloc (.cells #[.int .i64 ek, .string es, .int .i64 en, .int .i64 ep] 78))):=hZq (hb1.alloc hb1.size _)
  clear hb1
  go_wp2
  go_ret2
  exact ⟨rfl,uQ HB⟩
 ·rw[if_neg hbig]at hR
  have HR:=hZq hR
  clear hR
  have HOK:=hZq hokc
  clear hokc
  go_enter Tryz.func130,Tryz.ntmps130
  go_wp2_with fail
  refine (uQ HCE).mono ?_
  rintro e w1 ⟨rfl,hb1⟩
  have hA1:TksAt w1 ad a:=hAc.kp (Kp.ofBelow hb1)
  have hl1:=hb1.size
  have HB1:=hZq hb1
  clear hb1 HCE hAc
  go_wp2_with fail
  have hA2:TksAt (w1.alloc (.cells #[.int .i64 ek, .string es, .int .i64 en, .int .i64 ep] 78)) ad a:=hA1.kp (Kp.alloc _ _)
  have hE2:CBox w1.heap.size #[.int .i64 ek, .string es, .int .i64 en, .int .i64 ep] 78 (w1.alloc (.cells #[.int .i64 ek, .string es, .int .i64 en, .int .i64 ep] 78)):=CBox.new _ _ _
  have hb2:Below w.heap.size w (w1.alloc (.cells #[.int .i64 ek, .string es, .int .i64 en, .int .i64 ep] 78)):=(uQ HB1).alloc hl1 _
  have hT2:=hT.below hb2 (by omega)
  have hBl:=Bld.new (w1.alloc (.cells #[.int .i64 ek, .string es, .int .i64 en, .int .i64 ep] 78))
  have hsz:(w1.alloc (.cells #[.int .i64 ek, .string es, .int .i64 en, .int .i64 ep] 78)).heap.size=w1.heap.size+1:=by simp
  have hbw:Below (w1.alloc (.cells #[.int .i64 ek, .string es, .int .i64 en, .int .i64 ep] 78)).heap.size (w1.alloc (.cells #[.int .i64 ek, .string es, .int .i64 en, .int .i64 ep] 78)) ((w1.alloc (.cells #[.int .i64 ek, .string es, .int .i64 en, .int .i64 ep] 78)).alloc (.cells #[.pointer none, .slice none 0 0] 221)):=(Below.refl _ _).alloc (Nat.le_refl _) _
  have hlw:w.heap.size<w1.heap.size+1:=by omega
  rw[hsz]at hBl hbw
  clear hA1 HB1
  generalize w1.alloc (.cells #[.int .i64 ek, .string es, .int .i64 en, .int .i64 ep] 78)=W1 at *
  have hbE:w1.heap.size<w1.heap.size+1:=by omega
  generalize w1.heap.size+1=B at *
  generalize w1.heap.size=bE at *
  have HSZ:=hZq hsz
  clear hsz hl1
  have HB2:=hZq hb2
  clear hb2
  go_loopw [21] (fun i wr=> ∃k:Nat,k<=a.length/\i= .int .i64 k/\Bld B B (q0i (a.take k)) wr/\Below B W1 wr/\Hid (∀t∈a.take k,wrOk t=true)) (fun i _=>a.length-(intOf i).toNat)
  case atStart=>exact ⟨0,Nat.zero_le _,rfl,hBl,hbw,hZq (by simp)⟩
  case round=>
   obtain ⟨k,hk,rfl,hbl,hbe,HW⟩:=hrel
   have hBr:B<=wr.heap.size:=by have:=hbe.size;have:=uQ HSZ;omega
   have hTr:TbW wr:=hT2.below hbe (by omega)
   clear hBl hbw
   by_cases hlt:k<a.length
   ·obtain ⟨b,off,rfl,hbl2,c0,c1,c2,c3⟩:=(hA2.below hbe (by rw[uQ HSZ];exact Nat.le_refl _)).at k hlt
    have hokk:=uQ HOK a[k] (List.getElem_mem hlt)
    have JN:=q9n hlt
    have HJL:=hZq (q5W hk (by omega) (uQ HW))
    have WN:=fun h=>qdk hlt (uQ HW) h
    have WR:=q76 a[k] (wr.alloc (.cells a[k].c 78)) (hTr.alloc _) hokk.2.1 hokk.2.2.1.1 hokk.2.2.1.2
    have hbx:Bld B B (q0i (a.take k)) (wr.alloc (.cells a[k].c 78)):=hbl.alloc _
    have hbex:Below B W1 (wr.alloc (.cells a[k].c 78)):=hbe.alloc hBr _
    have hno:wrOk a[k]=false-> ¬ (∀t∈a,wrOk t=true):=fun h hh=>by have:=hh a[k] (List.getElem_mem hlt);rw[h]at this;cases this
    generalize wrOk a[k]=OK at *
    have hsl: ∀h:OK=true,True:=fun _=>trivial
    generalize hTe:a[k]=T at *
    obtain ⟨tk,ts,tn,tp⟩:=T
    unfold Tk.v at WR
    unfold Tk.c at WR hbx hbex
    dsimp only at *
    have HTE:=hZq hTe
    have HJN:=hZq JN
    have HWN:=hZq WN
    have HWR:=hZq WR
    have HNO:=hZq hno
    clear JN WN WR hno hTe hbl hbe hsl
    go_wp2_with fail
    refine (uQ HWR).mono ?_
    rintro e w2 ⟨bb,rfl,hbb,hb2⟩
    have hx2:=hbx.below hb2
    have hbe2:Below B W1 w2:=hbex.trans (hb2.mono (by simp;omega))
    have hs2:B<=w2.heap.size:=by have:=hb2.size;simp at this;omega
    clear hbx hbex hb2 HWR c0 c1 c2 c3
    cases OK with
    |false=>
     have hr:=uQ HR
     rw[if_pos (uQ HNO rfl)]at hr
     subst hr
     have HB3:Hid (Below w.heap.size w w2):=hZq ((uQ HB2).trans (hbe2.mono (by omega)))
     go_wp2
     go_ret2
     exact ⟨rfl,uQ HB3⟩
    |true=>
     obtain rfl:=hbb rfl
     have hall:=uQ HWN rfl
     have hlen:=q5W (k:=k+1) hlt (by omega) hall
     have hJL:=uQ HJL
     have hjn:=uQ HJN
     rw[hjn]at hlen
     have HALL:=hZq hall
     clear hall hbb HWN HJN HJL HNO
     generalize q04 ⟨tk,ts,tn,tp⟩=sp at *
     by_cases hk0:0<k
     ·rw[if_neg (by omega)]at hlen hjn
      have WB:Calls Tryz.prog 154 #[.pointer (some ⟨B,0,none⟩), .int .u8 32] w2 fun e w'=>e= .returned .nilIface/\Bld B B (q0i (a.take k)++[32]) w'/\Below B w2 w':=q5m B B _ 32 w2 hx2 (by omega) (by omega) hs2
      have hsp:(txt sp).size<=1060864:=by rw[q0k];simp only[List.length_append,List.length_singleton]at hlen;omega
      have hjl1:(q0i (a.take k)++[32]).length<=1060865:=by simp only[List.length_append,List.length_singleton];omega
      have HJ:Hid (q0i (a.take k)++[32]++(txt sp).data.toList=q0i (a.take (k+1))):=hZq (by rw[hjn,q0y])
      have HWB:=hZq WB
      clear WB hjn hlen
      go_wp2_with fail
      refine (uQ HWB).mono ?_
      rintro e w3 ⟨rfl,hx3,hb3⟩
      have hs3:B<=w3.heap.size:=Nat.le_trans hs2 hb3.size
      have WS:=q0T B B (q0i (a.take k)++[32]) (txt sp) w3 hx3 (by omega) hs3
      have HWS:=hZq WS
      have hbe3:Below B W1 w3:=hbe2.trans hb3
      clear WS hx3 hb3 hbe2 hx2 HWB
      go_wp2_with fail
      refine (uQ HWS).mono ?_
      rintro e w4 ⟨rfl,hx4,hb4⟩
      rw[uQ HJ]at hx4
      have hbe4:Below B W1 w4:=hbe3.trans hb4
      clear hb4 hbe3 HWS HJ
      go_wp2
      go_roundw
      case rel=>exact ⟨k+1,by omega,by go_num,hx4,hbe4,HALL⟩
      case measure=>simp[intOf];omega
     ·rw[if_pos (by omega)]at hlen hjn
      have hsp:(txt sp).size<=1060864:=by rw[q0k];exact hlen
      have WS:=q0T B B (q0i (a.take k)) (txt sp) w2 hx2 (by omega) hs2
      have HWS:=hZq WS
      have HJ:Hid (q0i (a.take k)++(txt sp).data.toList=q0i (a.take (k+1))):=hZq (by rw[hjn,q0y,show k=0 by omega];rfl)
      clear WS hjn hlen hJL
      go_wp2_with fail
      refine (uQ HWS).mono ?_
      rintro e w3 ⟨rfl,hx3,hb3⟩
      rw[uQ HJ]at hx3
      have hbe3:Below B W1 w3:=hbe2.trans hb3
      clear hb3 hx2 hbe2 HWS HJ
      go_wp2
      go_roundw
      case rel=>exact ⟨k+1,by omega,by go_num,hx3,hbe3,HALL⟩
      case measure=>simp[intOf];omega
   ·have hka:k=a.length:=by omega
    have hhw:=uQ HW
    rw[hka,List.take_length]at hbl hhw
    have hr:=uQ HR
    rw[if_neg (not_not_intro hhw)]at hr
    have hJL:=q4W a hhw
    have q:CBox bE #[.int .i64 ek, .string es, .int .i64 en, .int .i64 ep] 78 wr:=by unfold CBox;rw[hbe.block bE (by omega)];exact hE2
    have q1:=CBox.cell (i:=1) (v:= .string es) q rfl
    have q2:=CBox.cell (i:=2) (v:= .int .i64 en) q rfl
    have HBW:Hid (Below w.heap.size w wr):=hZq ((uQ HB2).trans (hbe.mono (by omega)))
    clear HR HW hka hhw q hbe hE2 hA2
    by_cases hes:es.size=0
    ·have g1:es.toList.isEmpty=true:=by rw[ByteArray.toList_eq,List.isEmpty_iff];exact List.eq_nil_of_length_eq_zero (by rw[q0f];exact hes)
     by_cases hen:en=0
     ·rw[if_neg (not_not_intro ⟨hes,hen⟩)]at hr
      have HES:=hZq hes
      subst hen
      clear hes
      have BL:=q3y B B _ wr hbl
      have BS:=q3u B B _ wr hbl hBr
      generalize q0i a=J at *
      have HBL:=hZq BL
      have HBS:=hZq BS
      clear BL BS hbl
      by_cases hJ:262144<J.length
      ·rw[if_pos hJ]at hr
       subst hr
       go_wp2_with fail
       refine (uQ HBL).mono ?_
       rintro e w3 ⟨rfl,rfl⟩
       go_wp2
       go_ret2
       exact ⟨rfl,uQ HBW⟩
      ·rw[if_neg hJ]at hr
       subst hr
       go_wp2_with fail
       refine (uQ HBL).mono ?_
       rintro e w3 ⟨rfl,rfl⟩
       go_wp2_with fail
       refine (uQ HBS).mono ?_
       rintro e w3 ⟨rfl,hb3⟩
       have HB3:Hid (Below w.heap.size w w3):=hZq ((uQ HBW).trans (hb3.mono (by omega)))
       clear hb3
       go_wp2
       go_ret2
       exact ⟨rfl,uQ HB3⟩
     ·rw[if_pos (fun h=>hen h.2)]at hr
      subst hr
      have g2:(en != 0)=true:=by simpa using hen
      have HES:=hZq hes
      clear hes hbl hen
      go_wp2
      go_ret2
      exact ⟨rfl,uQ HBW⟩
    ·rw[if_pos (fun h=>hes h.1)]at hr
     subst hr
     have g1:es.toList.isEmpty=false:=by
      rw[ByteArray.toList_eq,List.isEmpty_eq_false_iff]
      intro e
      have:=q0f es
      rw[e]at this
      simp at this
      omega
     clear hes hbl
     go_wp2
     go_ret2
     exact ⟨rfl,uQ HBW⟩
open Go.RowKit Go.Shelf
theorem OwnsK.low {B:Nat}{w:World}{v:Value}{l:List Tk}(h:OwnsK B w v l)(hl:l≠[]):TksLow w.heap.size w v l:=by
 obtain ⟨ad,cp,rfl,ha,_⟩:=h.at
 obtain ⟨b,off,rfl,hlt,hc⟩:=ha hl
 exact ⟨b,off,cp,rfl,hlt,hc⟩
open Go.RowKit Go.Shelf
theorem qa0 (t:Tk):tkEq t t=true:=(q3P t t).2 rfl
theorem q5D (a1 a2:Option Addr)(c1 c2:Nat)(l:List Tk)(w:World)(h1:TksAt w a1 l)(h2:TksAt w a2 l)(hl:l.length<=9223372036854775807):
  Calls Tryz.prog 135 #[.slice a1 l.length c1, .slice a2 l.length c2] w fun e w'=>e= .returned (.bool true)/\Kp [] w w':=by
 have H1:=hZq h1
 have H2:=hZq h2
 clear h1 h2
 go_enter Tryz.func135,Tryz.ntmps135
 go_wp2_with fail
 go_loopw [13] (fun i wr=> ∃k:Nat,k<=l.length/\i= .int .i64 (k:Int)/\Kp [] w wr) (fun i _=>l.length-(intOf i).toNat)
 case atStart=>exact ⟨0,Nat.zero_le _,rfl,Kp.refl _ _⟩
 case round=>
  obtain ⟨k,hk,rfl,kp⟩:=hrel
  by_cases hlt:k<l.length
  ·have kp2:=kp.trans (Kp.drew wr) (by simp)
   obtain ⟨b1,o1,rfl,_,x0,x1,x2,x3⟩:=((uQ H1).kp kp2).at k hlt
   obtain ⟨b2,o2,rfl,_,y0,y1,y2,y3⟩:=((uQ H2).kp kp2).at k hlt
   obtain ⟨_,_,e1,_,u0,u1,u2,u3⟩:=((uQ H1).kp kp).at k hlt
   obtain ⟨_,_,e2,_,v0,v1,v2,v3⟩:=((uQ H2).kp kp).at k hlt
   cases e1
   cases e2
   have hli:(k:Int)<(l.length:Int):=by omega
   have KP:=hZq kp
   have KP2:=hZq kp2
   have HEQ:=fun d W=>eqT d l[k] l[k] W
   clear H1 H2 kp kp2
   generalize l[k]=e at *
   rw[qa0]at HEQ
   obtain ⟨ek,es,en,ep⟩:=e
   unfold Tk.v at HEQ
   dsimp only at x0 x1 x2 x3 y0 y1 y2 y3 u0 u1 u2 u3 v0 v1 v2 v3 HEQ
   go_wp2_with fail
   first
    |(go_roundw
      case rel=>exact ⟨k+1,by omega,by go_num,uQ KP⟩
      case measure=>simp[intOf];omega)
    |(have cS:=And.intro x0 (And.intro x1 (And.intro x2 (And.intro x3 (And.intro y0 (And.intro y1 (And.intro y2 y3))))))
      go_region_held3 (fun W=>W.cell? ⟨b1,o1+k * 4,none⟩=some (.int .i64 ek)/\W.cell? ⟨b1,o1+k * 4+1,none⟩=some (.string es)/\W.cell? ⟨b1,o1+k * 4+2,none⟩=some (.int .i64 en)/\W.cell? ⟨b1,o1+k * 4+3,none⟩=some (.int .i64 ep)/\W.cell? ⟨b2,o2+k * 4,none⟩=some (.int .i64 ek)/\W.cell? ⟨b2,o2+k * 4+1,none⟩=some (.string es)/\W.cell? ⟨b2,o2+k * 4+2,none⟩=some (.int .i64 en)/\W.cell? ⟨b2,o2+k * 4+3,none⟩=some (.int .i64 ep))
       (first|with_reducible exact cS)
       (first|fail)
      go_wp2
      go_roundw
      case rel=>exact ⟨k+1,by omega,by go_num,uQ KP2⟩
      case measure=>simp[intOf];omega)
  ·go_wp2
   go_ret
   exact ⟨rfl,kp⟩
theorem qeG (n:Nat):Lib.repeatL [32] n=List.replicate n 32:=by
 induction n with
 |zero=>rfl
 |succ n ih=>rw[Lib.repeatL,ih,List.replicate_succ];rfl
theorem q6p (n:Nat)(w:World)(hn:n<=262144):Calls Tryz.prog 133 #[.string ⟨#[32]⟩, .int .i64 (n:Int)] w fun e w'=>e= .returned (.string (txt (List.replicate n 32)))/\Below w.heap.size w w':=by
 have:=Tryz.strings_Repeat ⟨#[32]⟩ n w (by omega) (by show 1 * n<=_;omega)
 have e:(⟨#[32]⟩:ByteArray).data.toList=[32]:=rfl
 rw[e,qeG]at this
 exact this
theorem qcL {t:Tk}(h:wrOk t=true\/ ∃n,t=endZ n):joR [t]=(q04 t,0):=by
 rcases h with h|⟨n,rfl⟩
 ·obtain ⟨h0,_,_,_,h4⟩:=q3R h
  have e:q2a [t]=false:=by unfold q2a;simpa using h0
  have e1:cutL [t]=[t]:=by unfold cutL;rw[e];rfl
  have e2:endT [t]=⟨0,⟨#[]⟩,0,0⟩:=by unfold endT;rw[e];rfl
  have e3:q0i [t]=q04 t:=by unfold q0i q0O;simp
  unfold joR
  rw[e1,e2,e3,if_neg (by simp),if_neg (not_not_intro (by simpa using h)),if_neg (not_not_intro ⟨rfl,rfl⟩),if_neg (by omega)]
 ·have e:q2a [endZ n]=true:=rfl
  have e1:cutL [endZ n]=[]:=by unfold cutL;rw[e];rfl
  have e2:endT [endZ n]=endZ n:=by unfold endT;rw[e];rfl
  unfold joR
  rw[e1,e2,if_neg (by simp),if_neg (not_not_intro (by simp)),if_neg (not_not_intro ⟨rfl,rfl⟩),if_neg (by simp[q0i]),q3e]
  rfl
end Go.Proofs.YtcmjnlpofebbmaaGreatDoor
