/-
  Walks.
-/
import Derived.Test.YtfgkikeeadlcfaaGreatDoorMs04
import Derived.Deep.DeepCutAuto
import Derived.Deep.QuietTactic
set_option maxRecDepth 100000
set_option maxHeartbeats 8000000
set_option linter.unusedSimpArgs false
namespace Go.Proofs.YtfgkikeeadlcfaaGreatDoor
open Go.RowKit Go.Shelf
def Vl.v (a:Vl):Value:= .agg #[.int .i64 a.n, .string a.s, .bool a.t]
theorem q0s:(Tryz.prog.info? 165).map (·.size)=some 3:=by kernel_rfl
theorem eqVl (d:Nat)(a b:Vl)(w:World):(Op.equalIn (d+2) 165 a.v b.v).run Tryz.prog w= .ok (eqV a b) w:=by
 obtain ⟨n,s,t⟩:=a
 obtain ⟨n',s',t'⟩:=b
 have hi6:=fun (a b:Int) (w:World)=>run_equalIn_int (P:=Tryz.prog) w d 2 .i64 .i64 a b Tryz.underlying2
 have hs:=fun (a b:ByteArray) (w:World)=>run_equalIn_string (P:=Tryz.prog) w d 9 a b Tryz.underlying9
 have hb:=fun (a b:Bool) (w:World)=>run_equalIn_bool (P:=Tryz.prog) w d 4 a b Tryz.underlying4
 unfold Op.equalIn Vl.v eqV
 simp only[Sem.run_bind,run_underlying Tryz.underlying165,Result.andThen_ok]
 simp[part,Tryz.sizeOf2,Tryz.sizeOf4,Tryz.sizeOf9,go_sem,hi6,hs,hb,ByteArray.toList_eq]
 by_cases h0:n=n' <;> by_cases h1:s.data=s'.data <;> by_cases h2:t=t' <;> simp[h0,h1,h2]
theorem q1F (w:World)(A B X:Obj):(((w.alloc A).alloc B).alloc X).heap[w.heap.size+1+1]?=some X:=by
 have:=heap_alloc_new ((w.alloc A).alloc B) X
 rwa [show ((w.alloc A).alloc B).heap.size=w.heap.size+1+1 by simp]at this
theorem q1a (w:World)(A B X:Obj):Below w.heap.size w (((w.alloc A).alloc B).alloc X):=
 (((Below.refl _ _).alloc (zM _) _).alloc (by simp) _).alloc (by simp;omega) _
theorem opf1 (a b:Vl)(w:World):Calls Tryz.prog 134 #[a.v,b.v] w fun e w'=>e= .returned (opV 4 a b).v/\Below w.heap.size w w':=by
 obtain ⟨n,s,t⟩:=a
 obtain ⟨n',s',t'⟩:=b
 unfold Vl.v at *
 unfold opV
 rw[if_pos rfl]
 dsimp only at *
 go_enter Tryz.func134,Tryz.ntmps134
 go_wp2
 exact bodyPost_ret (results_cell_row Tryz.results134 _ _ (w.heap.size+1+1) 165 _ (0,0) _ rfl (q1F w _ _ _) Tryz.underlying165 rfl q0s) rfl ⟨by first|rfl|(rw[IntWalk.i64_left];rfl),q1a w _ _ _⟩
theorem opf2 (a b:Vl)(w:World):Calls Tryz.prog 135 #[a.v,b.v] w fun e w'=>e= .returned (opV 5 a b).v/\Below w.heap.size w w':=by
 obtain ⟨n,s,t⟩:=a
 obtain ⟨n',s',t'⟩:=b
 unfold Vl.v at *
 unfold opV
 rw[if_neg (by decide)]
 rw[if_pos rfl]
 dsimp only at *
 go_enter Tryz.func135,Tryz.ntmps135
 go_wp2
 exact bodyPost_ret (results_cell_row Tryz.results135 _ _ (w.heap.size+1+1) 165 _ (0,0) _ rfl (q1F w _ _ _) Tryz.underlying165 rfl q0s) rfl ⟨by first|rfl|(rw[IntWalk.i64_left];rfl),q1a w _ _ _⟩
theorem opf3 (a b:Vl)(w:World):Calls Tryz.prog 136 #[a.v,b.v] w fun e w'=>e= .returned (opV 6 a b).v/\Below w.heap.size w w':=by
 obtain ⟨n,s,t⟩:=a
 obtain ⟨n',s',t'⟩:=b
 unfold Vl.v at *
 unfold opV
 rw[if_neg (by decide)]
 rw[if_neg (by decide)]
 rw[if_pos rfl]
 dsimp only at *
 go_enter Tryz.func136,Tryz.ntmps136
 go_wp2
 exact bodyPost_ret (results_cell_row Tryz.results136 _ _ (w.heap.size+1+1) 165 _ (0,0) _ rfl (q1F w _ _ _) Tryz.underlying165 rfl q0s) rfl ⟨by first|rfl|(rw[IntWalk.i64_left];rfl),q1a w _ _ _⟩
theorem opf4 (a b:Vl)(w:World):Calls Tryz.prog 137 #[a.v,b.v] w fun e w'=>e= .returned (opV 7 a b).v/\Below w.heap.size w w':=by
 obtain ⟨n,s,t⟩:=a
 obtain ⟨n',s',t'⟩:=b
 unfold Vl.v at *
 unfold opV
 rw[if_neg (by decide)]
 rw[if_neg (by decide)]
 rw[if_neg (by decide)]
 rw[if_pos rfl]
 dsimp only at *
 go_enter Tryz.func137,Tryz.ntmps137
 go_wp2
 exact bodyPost_ret (results_cell_row Tryz.results137 _ _ (w.heap.size+1+1) 165 _ (0,0) _ rfl (q1F w _ _ _) Tryz.underlying165 rfl q0s) rfl ⟨by first|rfl|(rw[IntWalk.i64_left];rfl),q1a w _ _ _⟩
theorem opf5 (a b:Vl)(w:World):Calls Tryz.prog 138 #[a.v,b.v] w fun e w'=>e= .returned (opV 8 a b).v/\Below w.heap.size w w':=by
 obtain ⟨n,s,t⟩:=a
 obtain ⟨n',s',t'⟩:=b
 unfold Vl.v at *
 unfold opV
 rw[if_neg (by decide)]
 rw[if_neg (by decide)]
 rw[if_neg (by decide)]
 rw[if_neg (by decide)]
 rw[if_pos rfl]
 dsimp only at *
 go_enter Tryz.func138,Tryz.ntmps138
 go_wp2
 exact bodyPost_ret (results_cell_row Tryz.results138 _ _ (w.heap.size+1+1) 165 _ (0,0) _ rfl (q1F w _ _ _) Tryz.underlying165 rfl q0s) rfl ⟨by first|rfl|(rw[IntWalk.i64_left];rfl),q1a w _ _ _⟩
theorem opf6 (a b:Vl)(w:World):Calls Tryz.prog 139 #[a.v,b.v] w fun e w'=>e= .returned (opV 9 a b).v/\Below w.heap.size w w':=by
 have q:=fun W=>eqVl 9998 a b W
 obtain ⟨n,s,t⟩:=a
 obtain ⟨n',s',t'⟩:=b
 unfold Vl.v at *
 unfold opV
 rw[if_neg (by decide)]
 rw[if_neg (by decide)]
 rw[if_neg (by decide)]
 rw[if_neg (by decide)]
 rw[if_neg (by decide)]
 rw[if_pos rfl]
 dsimp only at *
 go_enter Tryz.func139,Tryz.ntmps139
 go_wp2
 exact bodyPost_ret (results_cell_row Tryz.results139 _ _ (w.heap.size+1+1) 165 _ (0,0) _ rfl (q1F w _ _ _) Tryz.underlying165 rfl q0s) rfl ⟨by first|rfl|(rw[IntWalk.i64_left];rfl),q1a w _ _ _⟩
theorem opf7 (a b:Vl)(w:World):Calls Tryz.prog 140 #[a.v,b.v] w fun e w'=>e= .returned (opV 10 a b).v/\Below w.heap.size w w':=by
 have q:=fun W=>eqVl 9998 a b W
 obtain ⟨n,s,t⟩:=a
 obtain ⟨n',s',t'⟩:=b
 unfold Vl.v at *
 unfold opV
 rw[if_neg (by decide)]
 rw[if_neg (by decide)]
 rw[if_neg (by decide)]
 rw[if_neg (by decide)]
 rw[if_neg (by decide)]
 rw[if_neg (by decide)]
 rw[if_pos rfl]
 dsimp only at *
 go_enter Tryz.func140,Tryz.ntmps140
 go_wp2
 exact bodyPost_ret (results_cell_row Tryz.results140 _ _ (w.heap.size+1+1) 165 _ (0,0) _ rfl (q1F w _ _ _) Tryz.underlying165 rfl q0s) rfl ⟨by first|rfl|(rw[IntWalk.i64_left];rfl),q1a w _ _ _⟩
theorem opf8 (a b:Vl)(w:World):Calls Tryz.prog 141 #[a.v,b.v] w fun e w'=>e= .returned (opV 11 a b).v/\Below w.heap.size w w':=by
 obtain ⟨n,s,t⟩:=a
 obtain ⟨n',s',t'⟩:=b
 unfold Vl.v at *
 unfold opV
 rw[if_neg (by decide)]
 rw[if_neg (by decide)]
 rw[if_neg (by decide)]
 rw[if_neg (by decide)]
 rw[if_neg (by decide)]
 rw[if_neg (by decide)]
 rw[if_neg (by decide)]
 rw[if_pos rfl]
 dsimp only at *
 cases t
 all_goals
  go_enter Tryz.func141,Tryz.ntmps141
  go_wp2
  exact bodyPost_ret (results_cell_row Tryz.results141 _ _ (w.heap.size+1+1) 165 _ (0,0) _ rfl (q1F w _ _ _) Tryz.underlying165 rfl q0s) rfl ⟨by first|rfl|(rw[IntWalk.i64_left];rfl),q1a w _ _ _⟩
theorem opf9 (a b:Vl)(w:World):Calls Tryz.prog 142 #[a.v,b.v] w fun e w'=>e= .returned (opV 12 a b).v/\Below w.heap.size w w':=by
 obtain ⟨n,s,t⟩:=a
 obtain ⟨n',s',t'⟩:=b
 unfold Vl.v at *
 unfold opV
 rw[if_neg (by decide)]
 rw[if_neg (by decide)]
 rw[if_neg (by decide)]
 rw[if_neg (by decide)]
 rw[if_neg (by decide)]
 rw[if_neg (by decide)]
 rw[if_neg (by decide)]
 rw[if_neg (by decide)]
 rw[if_pos rfl]
 dsimp only at *
 cases t
 all_goals
  go_enter Tryz.func142,Tryz.ntmps142
  go_wp2
  exact bodyPost_ret (results_cell_row Tryz.results142 _ _ (w.heap.size+1+1) 165 _ (0,0) _ rfl (q1F w _ _ _) Tryz.underlying165 rfl q0s) rfl ⟨by first|rfl|(rw[IntWalk.i64_left];rfl),q1a w _ _ _⟩
theorem qfg (a b:Vl)(w:World):Calls Tryz.prog 143 #[a.v,b.v] w fun e w'=>e= .returned (opV 13 a b).v/\Below w.heap.size w w':=by
 obtain ⟨n,s,t⟩:=a
 obtain ⟨n',s',t'⟩:=b
 unfold Vl.v at *
 unfold opV
 rw[if_neg (by decide)]
 rw[if_neg (by decide)]
 rw[if_neg (by decide)]
 rw[if_neg (by decide)]
 rw[if_neg (by decide)]
 rw[if_neg (by decide)]
 rw[if_neg (by decide)]
 rw[if_neg (by decide)]
 rw[if_neg (by decide)]
 dsimp only at *
 go_enter Tryz.func143,Tryz.ntmps143
 go_wp2
 exact bodyPost_ret (results_cell_row Tryz.results143 _ _ (w.heap.size+1+1) 165 _ (0,0) _ rfl (q1F w _ _ _) Tryz.underlying165 rfl q0s) rfl ⟨by first|rfl|(rw[IntWalk.i64_left];rfl),q1a w _ _ _⟩
theorem q14 (s:ByteArray):s.toList.isEmpty=q05 s:=q5F s
theorem q1R (s:ByteArray):(s.toList==([]:List UInt8))=q05 s:=by
 rw[toList_data]
 unfold q05
 rw[Bool.eq_iff_iff,beq_iff_eq,beq_iff_eq]
 exact List.length_eq_zero_iff.symm
def moC (M:Mo)(nv lv:Value):Array Value:=#[.string M.e.k, .string M.e.t, .int .i64 M.e.n0, .int .i64 M.e.n1, .int .i64 M.e.n2, .int .i64 M.e.n3, .string M.e.x,nv,lv]
structure MoAt (gm:Nat)(M:Mo)(an al:Option Addr)(cn cl:Nat)(W:World):Prop where
 box:CBox gm (moC M (.slice an M.ns.length cn) (.slice al M.la.length cl)) 162 W
 nms:NmsAt W an M.ns
 evs:EvsAt W al M.la
 len:M.ns.length<=9223372036854775807
 both:M.ns.length=M.la.length
theorem MoAt.below {gm:Nat}{M:Mo}{an al:Option Addr}{cn cl:Nat}{W W':World}(h:MoAt gm M an al cn cl W)(hb:Below W.heap.size W W'):MoAt gm M an al cn cl W':=
 ⟨h.box.kp (Kp.ofBelow hb) (by simp),h.nms.kp (Kp.ofBelow hb) (by simp),h.evs.kp (Kp.ofBelow hb) (by simp),h.len,h.both⟩
theorem qeW {g:Nat}{t:TypeId}{a b c:Value}{w W:World}(h:CBox g #[a,b,c] t W)(hb:Below g w W)(x y z:Value):
  CBox g #[x,y,z] t (((W.setCell ⟨g,0,none⟩ x).setCell ⟨g,1,none⟩ y).setCell ⟨g,2,none⟩ z)/\Below g w (((W.setCell ⟨g,0,none⟩ x).setCell ⟨g,1,none⟩ y).setCell ⟨g,2,none⟩ z):=
 ⟨((h.set 0 x).set 1 y).set 2 z,((hb.setCell (p:=⟨g,0,none⟩) (zM _) _).setCell (p:=⟨g,1,none⟩) (zM _) _).setCell (p:=⟨g,2,none⟩) (zM _) _⟩
theorem q4z {gm:Nat}{M:Mo}{an al:Option Addr}{cn cl:Nat}{W:World}(h:MoAt gm M an al cn cl W)(st:ByteArray)(f:Int)(hf:0<=f/\f<=5)(hs:q05 st=true\/hasN M.ns st=true):
  Calls Tryz.prog 123 #[.pointer (some ⟨gm,0,none⟩), .string st, .int .i64 f] W fun e w'=>e= .returned (fdV (M.at st) f).v/\Below W.heap.size W w':=by
 have hgm:=(zB.1 h.box).1
 have h0:=h.below ((Below.refl _ _).alloc (zM _) (.cells #[.int .i64 0, .string { data:=#[] }, .bool false] 165))
 have bx:CBox W.heap.size #[.int .i64 0, .string { data:=#[] }, .bool false] 165 (W.alloc (.cells #[.int .i64 0, .string { data:=#[] }, .bool false] 165)):=CBox.new W _ _
 have hb0:Below W.heap.size W (W.alloc (.cells #[.int .i64 0, .string { data:=#[] }, .bool false] 165)):=(Below.refl _ _).alloc (zM _) _
 have HM:=hZq h0
 have HX:=hZq bx
 have HB:=hZq hb0
 clear h h0 bx hb0
 go_enter Tryz.func123,Tryz.ntmps123
 go_upto_if 12 with fail
 generalize W.alloc (.cells #[.int .i64 0, .string { data:=#[] }, .bool false] 165)=W1 at *
 go_cut [7] (fun p wc=> ∃b o,p= .pointer (some ⟨b,o,none⟩)/\Hid (wc.cell? ⟨b,o+1,none⟩=some (.string (M.at st).t)/\wc.cell? ⟨b,o+2,none⟩=some (.int .i64 (M.at st).n0)/\wc.cell? ⟨b,o+3,none⟩=some (.int .i64 (M.at st).n1)/\wc.cell? ⟨b,o+4,none⟩=some (.int .i64 (M.at st).n2)/\wc.cell? ⟨b,o+5,none⟩=some (.int .i64 (M.at st).n3)/\wc.cell? ⟨b,o+6,none⟩=some (.string (M.at st).x))/\Hid (CBox W.heap.size #[.int .i64 0, .string { data:=#[] }, .bool false] 165 wc/\Below W.heap.size W wc))
 case first=>
  by_cases he:q05 st=true
  ·have g1:st.toList.isEmpty=true:=by rw[q14];exact he
   have g2:(st.toList==([]:List UInt8))=true:=by rw[q1R];exact he
   have e:M.at st=M.e:=by unfold Mo.at;rw[if_pos he]
   have bx:=(uQ HM).box
   have HC:Hid (W1.cell? ⟨gm,0+1,none⟩=some (.string (M.at st).t)/\W1.cell? ⟨gm,0+2,none⟩=some (.int .i64 (M.at st).n0)/\W1.cell? ⟨gm,0+3,none⟩=some (.int .i64 (M.at st).n1)/\W1.cell? ⟨gm,0+4,none⟩=some (.int .i64 (M.at st).n2)/\W1.cell? ⟨gm,0+5,none⟩=some (.int .i64 (M.at st).n3)/\W1.cell? ⟨gm,0+6,none⟩=some (.string (M.at st).x)):=by rw[e];exact hZq ⟨bx.cell rfl,bx.cell rfl,bx.cell rfl,bx.cell rfl,bx.cell rfl,bx.cell rfl⟩
   clear he e bx HM hs
   rw[g1]
   go_wp2
   go_meet
   exact ⟨gm,0,rfl,HC,hZq ⟨uQ HX,uQ HB⟩⟩
  ·have he':q05 st=false:=by simpa using he
   have g1:st.toList.isEmpty=false:=by rw[q14];exact he'
   have g2:(st.toList==([]:List UInt8))=false:=by rw[q1R];exact he'
   have hin:fstN st M.ns<M.ns.length:=by
    rcases hs with hs|hs
    ·exact absurd hs he
    ·unfold hasN at hs;exact of_decide_eq_true hs
   have e:M.at st=M.la[fstN st M.ns]'(by rw[<-(uQ HM).both];exact hin):=by
    unfold Mo.at
    rw[if_neg he,List.getD_eq_getElem?_getD,zE (by rw[<-(uQ HM).both];exact hin)]
    rfl
   obtain ⟨b,o,rfl,q0,q1,q2,q3,q4,q5,q6⟩:=(uQ HM).evs.seven (fstN st M.ns) (by rw[<-(uQ HM).both];exact hin)
   rw[<-e]at q1 q2 q3 q4 q5 q6
   have HC:Hid (W1.drew.cell? ⟨b,o+fstN st M.ns * 7+1,none⟩=some (.string (M.at st).t)/\W1.drew.cell? ⟨b,o+fstN st M.ns * 7+2,none⟩=some (.int .i64 (M.at st).n0)/\W1.drew.cell? ⟨b,o+fstN st M.ns * 7+3,none⟩=some (.int .i64 (M.at st).n1)/\W1.drew.cell? ⟨b,o+fstN st M.ns * 7+4,none⟩=some (.int .i64 (M.at st).n2)/\W1.drew.cell? ⟨b,o+fstN st M.ns * 7+5,none⟩=some (.int .i64 (M.at st).n3)/\W1.drew.cell? ⟨b,o+fstN st M.ns * 7+6,none⟩=some (.string (M.at st).x)):=hZq ⟨q1,q2,q3,q4,q5,q6⟩
   have IX:=hZq (q9B an cn M.ns st W1.drew (uQ HM).len ((uQ HM).nms.kp (Kp.drew W1) (by simp)) hin)
   have bx:=(uQ HM).box
   have c7:W1.drew.cell? ⟨gm,7,none⟩=some (.slice an M.ns.length cn):=bx.cell rfl
   have c8:W1.drew.cell? ⟨gm,8,none⟩=some (.slice (some ⟨b,o,none⟩) M.la.length cl):=bx.cell rfl
   have cS:=And.intro c7 c8
   have hil:((fstN st M.ns:Nat):Int)<((M.la.length:Nat):Int):=by have:=(uQ HM).both;omega
   have HX2:Hid (CBox W.heap.size #[.int .i64 0, .string { data:=#[] }, .bool false] 165 W1.drew/\Below W.heap.size W W1.drew):=hZq ⟨uQ HX,(uQ HB).drew⟩
   have hln:=(uQ HM).len
   clear q0 q1 q2 q3 q4 q5 q6
   clear e
   clear he he' bx HM hs hin c7 c8 HX HB
   rw[g1]
   generalize fstN st M.ns=I at *
   generalize M.ns.length=NL at *
   generalize M.la.length=LL at *
   generalize M.at st=EV at *
   go_wp2_with fail
   go_region_held3 (fun w'=>w'.cell? ⟨gm,7,none⟩=some (.slice an NL cn)/\w'.cell? ⟨gm,8,none⟩=some (.slice (some ⟨b,o,none⟩) LL cl))
    (first|with_reducible exact cS)
    (first|(go_at_call 104;refine (uQ IX).mono ?_;rintro e w2 ⟨rfl,rfl⟩))
   go_wp2
   go_meet
   exact ⟨b,_,rfl,HC,HX2⟩
 case rest=>
  obtain ⟨b,o,rfl,HC,HXB⟩:=hcut
  obtain ⟨c1,c2,c3,c4,c5,c6⟩:=uQ HC
  obtain ⟨bx,hb⟩:=uQ HXB
  have z0:=bx.cell (i:=0) (v:= .int .i64 0) rfl
  have z1:=bx.cell (i:=1) (v:= .string { data:=#[] }) rfl
  have z2:=bx.cell (i:=2) (v:= .bool false) rfl
  have fz:=bx.froz
  have hlt:=(zB.1 bx).1
  have HXX:=hZq (qeW bx hb)
  clear hb bx HXB HC HM HX HB
  obtain ⟨EV,hEV⟩: ∃EV,M.at st=EV:=⟨_,rfl⟩
  rw[hEV]at c1 c2 c3 c4 c5 c6
  have HEV:=hZq hEV
  clear hEV
  generalize wc=WC at *
  rcases (show f=0\/f=1\/f=2\/f=3\/f=4\/f=5 by omega)with rfl|rfl|rfl|rfl|rfl|rfl
  all_goals
   go_wp2
   exact bodyPost_ret (results_cell_row Tryz.results123 _ _ W.heap.size 165 _ (0,0) _ rfl (uQ HXX _ _ _).1 Tryz.underlying165 rfl q0s) rfl ⟨by rw[uQ HEV];rfl,(uQ HXX _ _ _).2⟩
theorem q8W (w:World)(A B C X:Obj):((((w.alloc A).alloc B).alloc C).alloc X).heap[w.heap.size+1+1+1]?=some X:=by
 have:=heap_alloc_new (((w.alloc A).alloc B).alloc C) X
 rwa [show (((w.alloc A).alloc B).alloc C).heap.size=w.heap.size+1+1+1 by simp]at this
theorem q4r (w:World)(A B C X:Obj):Below w.heap.size w ((((w.alloc A).alloc B).alloc C).alloc X):=
 ((((Below.refl _ _).alloc (zM _) _).alloc (by simp) _).alloc (by simp;omega) _).alloc (by simp;omega) _
theorem qdS {g B:Nat}{t:TypeId}{a b c:Value}{w W:World}(hB:B<=g)(h:CBox g #[a,b,c] t W)(hb:Below B w W)(x y z:Value):
  CBox g #[x,y,z] t (((W.setCell ⟨g,0,none⟩ x).setCell ⟨g,1,none⟩ y).setCell ⟨g,2,none⟩ z)/\Below B w (((W.setCell ⟨g,0,none⟩ x).setCell ⟨g,1,none⟩ y).setCell ⟨g,2,none⟩ z):=
 ⟨((h.set 0 x).set 1 y).set 2 z,((hb.setCell (p:=⟨g,0,none⟩) hB _).setCell (p:=⟨g,1,none⟩) hB _).setCell (p:=⟨g,2,none⟩) hB _⟩
theorem q8e {w W:World}{A B C:Obj}{r0 r1 r2:Value}{t:TypeId}(hb:Below ((((w.alloc A).alloc B).alloc C).alloc (.cells #[r0,r1,r2] t)).heap.size ((((w.alloc A).alloc B).alloc C).alloc (.cells #[r0,r1,r2] t)) W):
  (W.cell? ⟨w.heap.size+1+1+1,0,none⟩=some r0/\W.cell? ⟨w.heap.size+1+1+1,1,none⟩=some r1/\W.cell? ⟨w.heap.size+1+1+1,2,none⟩=some r2/\(∀i,W.frozen? ⟨w.heap.size+1+1+1,i,none⟩=false))/\w.heap.size+1+1+1<W.heap.size/\Hid (∀x y z,CBox (w.heap.size+1+1+1) #[x,y,z] t (((W.setCell ⟨w.heap.size+1+1+1,0,none⟩ x).setCell ⟨w.heap.size+1+1+1,1,none⟩ y).setCell ⟨w.heap.size+1+1+1,2,none⟩ z)/\Below w.heap.size w (((W.setCell ⟨w.heap.size+1+1+1,0,none⟩ x).setCell ⟨w.heap.size+1+1+1,1,none⟩ y).setCell ⟨w.heap.size+1+1+1,2,none⟩ z)):=by
 have h:CBox (w.heap.size+1+1+1) #[r0,r1,r2] t W:=CBox.kp (q8W w A B C _) (Kp.ofBelow hb) (by simp)
 exact ⟨⟨h.cell rfl,h.cell rfl,h.cell rfl,h.froz⟩,(zB.1 h).1,hZq (qdS (by omega) h ((q4r w A B C _).trans (hb.mono (by simp;omega))))⟩
theorem q4q {gm:Nat}(p:Pt)(a b R:Vl)(EF:Nat)(w:World)(h0:sds p.kd≠0)(hfn:fnO p.kd= .func (.func EF) #[] #[])
  (hen: ∀args W,(callFunc EF args).run Tryz.prog W= .ok (.enter EF args) W) (HC: ∀W,Calls Tryz.prog EF #[a.v,b.v] W fun e w'=>e= .returned R.v/\Below W.heap.size W w'):
  Calls Tryz.prog 99 #[.pointer (some ⟨gm,0,none⟩),p.v, .agg (rowC p.kd), .agg #[.int .i64 a.n, .string a.s, .bool a.t, .int .i64 b.n, .string b.s, .bool b.t]] w fun e w'=>e= .returned R.v/\Below w.heap.size w w':=by
 have hs0:((0:Int)<(sds p.kd:Nat)):=by omega
 have HEN:=hZq hen
 have HCC:=hZq HC
 unfold rowC
 rw[hfn]
 generalize txt (sgO p.kd)=S at *
 generalize ofO p.kd=O at *
 generalize isO p.kd=I at *
 generalize sds p.kd=N at *
 clear hen HC hfn h0
 obtain ⟨kd,n,s,st,fl⟩:=p
 obtain ⟨an,as_,at_⟩:=a
 obtain ⟨bn,bs,bt⟩:=b
 obtain ⟨rn,rs,rt⟩:=R
 unfold Pt.v Vl.v at *
 dsimp only at *
 go_enter Tryz.func99,Tryz.ntmps99
 go_wp2_with fail
 rw[uQ HEN,Oper.upon_enter]
 refine (uQ HCC _).mono ?_
 rintro e w1 ⟨rfl,hb1⟩
 obtain ⟨⟨r0,r1,r2,rf⟩,hlt,HX⟩:=q8e hb1
 clear hb1 HCC HEN
 dsimp only
 go_wp2
 exact bodyPost_ret (results_cell_row Tryz.results99 _ _ (w.heap.size+1+1+1) 165 _ (0,0) _ rfl (uQ HX _ _ _).1 Tryz.underlying165 rfl q0s) rfl ⟨rfl,(uQ HX _ _ _).2⟩
theorem q6O {gm:Nat}{M:Mo}{an al:Option Addr}{cn cl:Nat}(p:Pt)(w:World)(h0:sds p.kd=0)(hM:MoAt gm M an al cn cl w)(hl:lfK p≠0)(hs:q05 p.st=true\/hasN M.ns p.st=true):
  Calls Tryz.prog 99 #[.pointer (some ⟨gm,0,none⟩),p.v, .agg (rowC p.kd), .agg #[.int .i64 0, .string { data:=#[] }, .bool false, .int .i64 0, .string { data:=#[] }, .bool false]] w fun e w'=>e= .returned (lfV M p).v/\Below w.heap.size w w':=by
 have hone:=q1U p.kd
 have hx:=q9K hl
 have HFV:Hid (p.kd=3-> ∀W,Below w.heap.size w W->Calls Tryz.prog 123 #[.pointer (some ⟨gm,0,none⟩), .string p.st, .int .i64 p.fl] W fun e w'=>e= .returned (fdV (M.at p.st) p.fl).v/\Below W.heap.size W w'):=hZq (fun hk W hb=>q4z (hM.below hb) p.st p.fl (by
  rcases hx with ⟨e,_⟩|⟨e,_⟩|⟨_,a,b,_⟩
  ·omega
  ·omega
  ·exact ⟨a,b⟩) hs)
 have hkd:p.kd=1\/p.kd=2\/p.kd=3:=by
  rcases hx with ⟨e,_⟩|⟨e,_⟩|⟨e,_⟩
  ·exact Or.inl e
  ·exact Or.inr (Or.inl e)
  ·exact Or.inr (Or.inr e)
 have HLV:Hid (lfV M p=if p.kd=1 then ⟨p.n,noB,false⟩ else if p.kd=2 then ⟨0,p.s,false⟩ else fdV (M.at p.st) p.fl):=hZq rfl
 obtain ⟨F3,hF3⟩: ∃F3,fdV (M.at p.st) p.fl=F3:=⟨_,rfl⟩
 rw[hF3]at HFV HLV
 obtain ⟨LV,hLV⟩: ∃LV,lfV M p=LV:=⟨_,rfl⟩
 rw[hLV]at HLV ⊢
 unfold rowC
 rw[h0]
 generalize fnO p.kd=F at *
 generalize txt (sgO p.kd)=S at *
 generalize ofO p.kd=O at *
 generalize isO p.kd=I at *
 clear hM hl hs hx h0 hF3 hLV
 obtain ⟨kd,n,s,st,fl⟩:=p
 unfold Pt.v
 dsimp only at *
 rcases hkd with rfl|rfl|rfl
 ·obtain rfl:LV=⟨n,noB,false⟩:=(uQ HLV).trans (if_pos rfl)
  clear HFV HLV
  unfold Vl.v noB
  dsimp only
  go_enter Tryz.func99,Tryz.ntmps99
  go_wp2
  exact bodyPost_ret (results_cell_row Tryz.results99 _ _ (w.heap.size+1+1+1) 165 _ (0,0) _ rfl (q8W w _ _ _ _) Tryz.underlying165 rfl q0s) rfl ⟨rfl,q4r w _ _ _ _⟩
 ·obtain rfl:LV=⟨0,s,false⟩:=(uQ HLV).trans ((if_neg (by decide)).trans (if_pos rfl))
  clear HFV HLV
  unfold Vl.v
  dsimp only
  go_enter Tryz.func99,Tryz.ntmps99
  go_wp2
  exact bodyPost_ret (results_cell_row Tryz.results99 _ _ (w.heap.size+1+1+1) 165 _ (0,0) _ rfl (q8W w _ _ _ _) Tryz.underlying165 rfl q0s) rfl ⟨rfl,q4r w _ _ _ _⟩
 ·obtain rfl:LV=F3:=(uQ HLV).trans ((if_neg (by decide)).trans (if_neg (by decide)))
  have HFV2:=hZq (uQ HFV rfl)
  clear HFV HLV
  obtain ⟨rn,rs,rt⟩:=LV
  unfold Vl.v at *
  dsimp only at *
  go_enter Tryz.func99,Tryz.ntmps99
  go_wp2_with fail
  refine (uQ HFV2 _ (q4r w _ _ _ _)).mono ?_
  rintro e w1 ⟨rfl,hb1⟩
  obtain ⟨⟨r0,r1,r2,rf⟩,hlt,HX⟩:=q8e hb1
  clear hb1 HFV2
  go_wp2
  exact bodyPost_ret (results_cell_row Tryz.results99 _ _ (w.heap.size+1+1+1) 165 _ (0,0) _ rfl (uQ HX _ _ _).1 Tryz.underlying165 rfl q0s) rfl ⟨rfl,(uQ HX _ _ _).2⟩
theorem q7U (k:Int)(h4:4<=k)(h13:k<=13)(a b:Vl): ∃EF,fnO k= .func (.func EF) #[] #[]/\(∀args W,(callFunc EF args).run Tryz.prog W= .ok (.enter EF args) W)/\ ∀W,Calls Tryz.prog EF #[a.v,b.v] W fun e w'=>e= .returned (opV k a b).v/\Below W.heap.size W w':=by
 rcases (show k=4\/k=5\/k=6\/k=7\/k=8\/k=9\/k=10\/k=11\/k=12\/k=13 by omega)with rfl|rfl|rfl|rfl|rfl|rfl|rfl|rfl|rfl|rfl
 ·exact ⟨134,rfl,enters_of Tryz.func134 (by kernel_rfl) rfl,opf1 a b⟩
 ·exact ⟨135,rfl,enters_of Tryz.func135 (by kernel_rfl) rfl,opf2 a b⟩
 ·exact ⟨136,rfl,enters_of Tryz.func136 (by kernel_rfl) rfl,opf3 a b⟩
 ·exact ⟨137,rfl,enters_of Tryz.func137 (by kernel_rfl) rfl,opf4 a b⟩
 ·exact ⟨138,rfl,enters_of Tryz.func138 (by kernel_rfl) rfl,opf5 a b⟩
 ·exact ⟨139,rfl,enters_of Tryz.func139 (by kernel_rfl) rfl,opf6 a b⟩
 ·exact ⟨140,rfl,enters_of Tryz.func140 (by kernel_rfl) rfl,opf7 a b⟩
 ·exact ⟨141,rfl,enters_of Tryz.func141 (by kernel_rfl) rfl,opf8 a b⟩
 ·exact ⟨142,rfl,enters_of Tryz.func142 (by kernel_rfl) rfl,opf9 a b⟩
 ·exact ⟨143,rfl,enters_of Tryz.func143 (by kernel_rfl) rfl,qfg a b⟩
theorem q6N {gm:Nat}{M:Mo}{an al:Option Addr}{cn cl:Nat}{xs:List Pt}{w:World}(hM:MoAt gm M an al cn cl w)(hlv: ∀q∈xs,sds q.kd=0->lfK q≠0)(hst:hasS M.ns xs=true)(p:Pt)(ts:List Ex)(W:World)(hp:p∈xs)(hs:ts.length=sds p.kd)(hb:Below w.heap.size w W):
  Calls Tryz.prog 99 #[.pointer (some ⟨gm,0,none⟩),p.v, .agg (rowC p.kd), .agg (sdCV (ts.map (Ex.val (vlv M))))] W fun e w'=>e= .returned (.agg (vlE ((vlv M) p (ts.map (Ex.val (vlv M))))).toArray)/\Below W.heap.size W w':=by
 have h2:=q22 p.kd
 have hk:sds p.kd≠0->4<=p.kd/\p.kd<=13:=fun h=>by
  rcases (show sds p.kd=1\/sds p.kd=2 by omega)with e|e
  ·have:=q4K e;omega
  ·have:=q4L e;omega
 match ts,hs with
 |[],hs=>
  have hq:=List.all_eq_true.1 hst p hp
  simp only[Bool.or_eq_true]at hq
  exact q6O p W hs.symm (hM.below hb) (hlv p hp hs.symm) hq
 |[a],hs=>
  have h0:sds p.kd≠0:=by rw[<-hs];simp
  obtain ⟨EF,e1,e2,e3⟩:=q7U p.kd (hk h0).1 (hk h0).2 (a.val (vlv M)) ⟨0,noB,false⟩
  exact q4q p (a.val (vlv M)) ⟨0,noB,false⟩ _ EF W h0 e1 e2 e3
 |[a,b],hs=>
  have h0:sds p.kd≠0:=by rw[<-hs];simp
  obtain ⟨EF,e1,e2,e3⟩:=q7U p.kd (hk h0).1 (hk h0).2 (a.val (vlv M)) (b.val (vlv M))
  exact q4q p (a.val (vlv M)) (b.val (vlv M)) _ EF W h0 e1 e2 e3
 |a::b::c::r,hs=>simp at hs;omega
theorem q6Z {gm:Nat}{M:Mo}{an al:Option Addr}{cn cl:Nat}(ad:Option Addr)(cap:Nat)(xs:List Pt)(hsz:xs.length<=200)(w:World)(hc:PtsAt w ad xs)(hM:MoAt gm M an al cn cl w)(hlv: ∀q∈xs,sds q.kd=0->lfK q≠0)(hst:hasS M.ns xs=true):
  Calls Tryz.prog 98 #[.slice ad xs.length cap, .func (.func 99) #[.pointer (some ⟨gm,0,none⟩)] #[]] w fun e w'=>e= .returned (foRV (fdX (vlv M) xs))/\Below w.heap.size w w':=
 callsIn_wide.1 (qbj 99 ad cap xs hsz w (PtsLow.of hc) (enters_of Tryz.func99 (by kernel_rfl) rfl) (fun p ts W hp _ _ hs hb=>q6N hM hlv hst p ts W hp hs hb))
def okS (ns:List ByteArray)(p:Pt):Bool:=q05 p.st||hasN ns p.st
theorem qbl (ns:List ByteArray)(x:List Pt):hasS ns x=x.all (okS ns):=rfl
theorem q5b {xs:List Pt}{f:Pt->Bool}{k:Nat}(h:(xs.take k).all f=true)(hk:k<xs.length)(hf:f xs[k]=true):(xs.take (k+1)).all f=true:=by
 rw[List.take_succ_eq_append_getElem hk,List.all_append,h]
 simp[hf]
theorem qdX {xs:List Pt}{f:Pt->Bool}{k:Nat}(hk:k<xs.length)(hf:f xs[k]=false):xs.all f=false:=by
 rw[List.all_eq_false]
 exact ⟨xs[k],zJ _,by rw[hf];simp⟩
theorem q5i {gm:Nat}{M:Mo}{an:Option Addr}{cn:Nat}{nl lv:Value}(ad:Option Addr)(cap:Nat)(xs:List Pt)(hsz:xs.length<=200)(W:World)(hc:PtsAt W ad xs)(hbx:CBox gm (moC M nl lv) 162 W)(hnl:nl= .slice an M.ns.length cn)(hln:M.ns.length<=9223372036854775807)(hnm:NmsAt W an M.ns):
  Calls Tryz.prog 97 #[.pointer (some ⟨gm,0,none⟩), .slice ad xs.length cap] W fun e w'=>e= .returned (.bool (hasS M.ns xs))/\Below W.heap.size W w':=by
 subst hnl
 rw[qbl]
 have HNO:Hid (∀k (hk:k<xs.length),okS M.ns xs[k]=false->xs.all (okS M.ns)=false):=hZq (fun k hk hf=>qdX hk hf)
 have HNX:Hid (∀k (hk:k<xs.length),(xs.take k).all (okS M.ns)=true->okS M.ns xs[k]=true->(xs.take (k+1)).all (okS M.ns)=true):=hZq (fun k hk h hf=>q5b h hk hf)
 have HYS:Hid ((xs.take xs.length).all (okS M.ns)=true->xs.all (okS M.ns)=true):=hZq (fun h=>by rwa [List.take_length]at h)
 have HF:Hid (∀w1,Below W.heap.size W w1->w1.cell? ⟨gm,7,none⟩=some (.slice an M.ns.length cn)/\gm<w1.heap.size/\Hid (NmsAt w1 an M.ns)/\Hid (PtsAt w1 ad xs)):=hZq (fun w1 hb=>⟨(Kp.ofBelow hb).cell (hbx.cell rfl) (by simp),by have:=(zB.1 hbx).1;have:=hb.size;omega,hZq (hnm.kp (Kp.ofBelow hb) (by simp)),hZq (hc.kp (Kp.ofBelow hb))⟩)
 clear hc hbx hnm
 obtain ⟨R,hR⟩: ∃R,xs.all (okS M.ns)=R:=⟨_,rfl⟩
 rw[hR]at HNO HYS ⊢
 clear hR
 obtain ⟨n,hn⟩: ∃n,xs.length=n:=⟨_,rfl⟩
 have HN:=hZq hn
 rw[hn]at HYS hsz ⊢
 clear hn
 go_enter Tryz.func97,Tryz.ntmps97
 go_wp2
 go_loopw [9] (fun i wr=> ∃k:Nat,k<=n/\i= .int .i64 (k:Int)/\Below W.heap.size W wr/\Hid ((xs.take k).all (okS M.ns)=true)) (fun i _=>n-(intOf i).toNat)
 case atStart=>exact ⟨0,Nat.zero_le _,rfl,Below.refl _ _,hZq (by simp)⟩
 case round=>
  obtain ⟨k,hk,rfl,hb,HK⟩:=hrel
  by_cases hlt:k<n
  ·have hkx:k<xs.length:=by rw[uQ HN];exact hlt
   obtain ⟨_,_,_,HP⟩:=uQ HF wr hb
   obtain ⟨b,off,rfl,hbl,x0,x1,x2,x3,x4⟩:=(uQ HP).at k hkx
   have HNO2:Hid (okS M.ns xs[k]=false->R=false):=hZq (uQ HNO k hkx)
   have HNX2:Hid (okS M.ns xs[k]=true->(xs.take (k+1)).all (okS M.ns)=true):=hZq (uQ HNX k hkx (uQ HK))
   have hok:okS M.ns xs[k]=(q05 xs[k].st||hasN M.ns xs[k].st):=rfl
   rw[hok]at HNO2 HNX2
   have hli:(k:Int)<(n:Int):=by omega
   clear hok HP HNO HNX HYS HK
   generalize xs[k]=p at *
   obtain ⟨pk,pn,ps,pt,pf⟩:=p
   dsimp only at x0 x1 x2 x3 x4 HNO2 HNX2
   have hb2:Below W.heap.size W (wr.alloc (.cells #[.int .i64 pk, .int .i64 pn, .string ps, .string pt, .int .i64 pf] 178)):=hb.alloc hb.size _
   have hbd:Below W.heap.size W (wr.alloc (.cells #[.int .i64 pk, .int .i64 pn, .string ps, .string pt, .int .i64 pf] 178)).drew:=hb2.drew
   have c3:(wr.alloc (.cells #[.int .i64 pk, .int .i64 pn, .string ps, .string pt, .int .i64 pf] 178)).drew.cell? ⟨wr.heap.size,3,none⟩=some (.string pt):=(CBox.new wr _ _).cell rfl
   obtain ⟨c7,hgl,HNM,_⟩:=uQ HF _ hbd
   have CT:=hZq (q1r an cn M.ns pt _ hln (uQ HNM))
   have HBD:=hZq hbd
   have hgw:=(uQ HF wr hb).2.1
   clear hb hb2 hbd HNM HF
   go_wp2_with fail
   generalize wr.alloc (.cells #[.int .i64 pk, .int .i64 pn, .string ps, .string pt, .int .i64 pf] 178)=W2 at *
   clear x0 x1 x2 x3 x4
   by_cases he:q05 pt=true
   ·have g1:pt.toList.isEmpty=true:=by rw[q14];exact he
    have g2:(pt.toList==([]:List UInt8))=true:=by rw[q1R];exact he
    rw[he,Bool.true_or]at HNX2
    have HX:=hZq (uQ HNX2 rfl)
    have c3':W2.cell? ⟨wr.heap.size,3,none⟩=some (.string pt):=c3
    clear HNX2 HNO2 he CT c3
    go_quiet (fail)
    go_wp2
    go_roundw
    case rel=>exact ⟨k+1,by omega,by go_num,(uQ HBD).trans ⟨rfl,rfl,rfl,zM _,fun _ _=>rfl⟩,HX⟩
    case measure=>simp[intOf];omega
   ·have he':q05 pt=false:=by simpa using he
    have g1:pt.toList.isEmpty=false:=by rw[q14];exact he'
    have g2:(pt.toList==([]:List UInt8))=false:=by rw[q1R];exact he'
    rw[he',Bool.false_or]at HNX2 HNO2
    generalize hasN M.ns pt=B at *
    generalize M.ns.length=NL at *
    have cS:=And.intro c3 c7
    clear he he' c3 c7
    generalize wr.heap.size=G at *
    go_region_held3 (fun w'=>w'.cell? ⟨G,3,none⟩=some (.string pt)/\w'.cell? ⟨gm,7,none⟩=some (.slice an NL cn))
     (first|with_reducible exact cS)
     (first|(go_at_call 82;refine (uQ CT).mono ?_;rintro e w2 ⟨rfl,rfl⟩))
    clear cS CT
    cases B with
    |true=>
     have HX:=hZq (uQ HNX2 rfl)
     clear HNX2 HNO2
     go_wp2
     go_roundw
     case rel=>exact ⟨k+1,by omega,by go_num,(uQ HBD),HX⟩
     case measure=>simp[intOf];omega
    |false=>
     obtain rfl:=uQ HNO2 rfl
     clear HNX2 HNO2
     go_wp2
     go_ret
     exact ⟨rfl,uQ HBD⟩
  ·obtain rfl:k=n:=by omega
   obtain rfl:=uQ HYS (uQ HK)
   clear HYS HNO
   go_wp2
   go_ret
   exact ⟨rfl,hb⟩
theorem q9w {x:List Pt}{M:Mo}(h:ckK x≠3):hdE x M=110/\hdB x M=false:=by
 have e:hdE x M=110:=by unfold hdE;rw[if_pos h]
 exact ⟨e,by unfold hdB;rw[if_pos (by rw[e];decide)]⟩
theorem q9x {x:List Pt}{M:Mo}(h:ckK x=3)(h2:M.ns.length≠M.la.length\/hasS M.ns x=false):hdE x M=5/\hdB x M=false:=by
 have e:hdE x M=5:=by unfold hdE;rw[if_neg (by rw[h];decide),if_pos h2]
 exact ⟨e,by unfold hdB;rw[if_pos (by rw[e];decide)]⟩
theorem qdd {x:List Pt}{M:Mo}(h:ckK x=3)(h1:M.ns.length=M.la.length)(h2:hasS M.ns x=true):hdE x M=0/\ ∃v,fdX (vlv M) x=some v/\hdB x M=v.t:=by
 have e:hdE x M=0:=by unfold hdE;rw[if_neg (by rw[h];decide),if_neg (by rw[h1,h2];simp)]
 obtain ⟨t,t1,_,t3,_⟩:=q1q (x:=x) (by rw[h];decide)
 refine ⟨e,t.val (vlv M),by rw[t3];exact q5J _ t t1,?_⟩
 unfold hdB
 rw[if_neg (by rw[e];decide),t3,q5J _ t t1]
theorem q9y (ad an al:Option Addr)(cap cn cl:Nat)(xs:List Pt)(ev:Ev)(ns:List ByteArray)(la:List Ev)(w:World)(hc:PtsAt w ad xs)(hn:NmsAt w an ns)(hln:ns.length<=9223372036854775807)(he:EvsAt w al la)(hT:TbE w)(hfit: ∀p∈xs,p.fit):
  Calls Tryz.prog 70 #[.slice ad xs.length cap, .agg ev.c, .slice an ns.length cn, .slice al la.length cl] w fun e w'=>e= .returned (.tuple #[.bool (hdB xs ⟨ev,ns,la⟩), .int .i64 (hdE xs ⟨ev,ns,la⟩)])/\Below w.heap.size w w':=by
 have hev:ev.c=#[.string ev.k, .string ev.t, .int .i64 ev.n0, .int .i64 ev.n1, .int .i64 ev.n2, .int .i64 ev.n3, .string ev.x]:=rfl
 have b1:Below w.heap.size w (w.alloc (.cells ev.c 30)):=(Below.refl _ _).alloc (zM _) _
 have e1:EBox w.heap.size ev (w.alloc (.cells ev.c 30)):=CBox.new w _ _
 have CK:=q1G ad cap xs _ (hc.kp (Kp.alloc w (.cells ev.c 30))) (hT.alloc (.cells ev.c 30)) hfit
 have HL:Hid (∀w2,Below (w.alloc (.cells ev.c 30)).heap.size (w.alloc (.cells ev.c 30)) w2->EBox w.heap.size ev w2/\Hid (Below w.heap.size w w2)/\Hid (PtsAt w2 ad xs/\NmsAt w2 an ns/\EvsAt w2 al la)):=hZq (fun w2 hb=>⟨e1.below hb e1.lt,hZq (b1.trans (hb.mono (by simp))),hZq ⟨(hc.kp (Kp.alloc w (.cells ev.c 30))).kp (Kp.ofBelow hb),(hn.kp (Kp.alloc w (.cells ev.c 30)) (by simp)).kp (Kp.ofBelow hb) (by simp),(he.kp (Kp.alloc w (.cells ev.c 30)) (by simp)).kp (Kp.ofBelow hb) (by simp)⟩⟩)
 rw[hev]at CK HL
 have HCK:=hZq CK
 clear CK b1 e1 hc hn he hT
 rw[hev]
 clear hev
 by_cases h3:ckK xs=3
 ·have hcode:(if ckK xs=0 then (110:Int) else 0)=0:=if_neg (by rw[h3];decide)
  rw[hcode,h3]at HCK
  clear hcode
  obtain ⟨t,t1,t2,t3,_,t5,_⟩:=q1q (x:=xs) (by rw[h3];decide)
  have HLV:Hid (∀q∈xs,sds q.kd=0->lfK q≠0):=hZq (by rw[t3];exact t.fine_leaves t2)
  clear t1 t2 t3
  have HN0:Hid (ns.length≠la.length\/hasS ns xs=false->hdE xs ⟨ev,ns,la⟩=5/\hdB xs ⟨ev,ns,la⟩=false):=hZq (fun h=>q9x h3 h)
  have HOKK:Hid (ns.length=la.length->hasS ns xs=true->hdE xs ⟨ev,ns,la⟩=0/\ ∃v,fdX (vlv ⟨ev,ns,la⟩) xs=some v/\hdB xs ⟨ev,ns,la⟩=v.t):=hZq (fun h1 h2=>qdd h3 h1 h2)
  obtain ⟨D,hD⟩: ∃D,hdE xs ⟨ev,ns,la⟩=D:=⟨_,rfl⟩
  obtain ⟨B,hB⟩: ∃B,hdB xs ⟨ev,ns,la⟩=B:=⟨_,rfl⟩
  rw[hD,hB]at HN0 HOKK ⊢
  clear hD hB h3
  go_enter Tryz.func70,Tryz.ntmps70
  go_wp2_with fail
  refine (uQ HCK).mono ?_
  rintro e w2 ⟨rfl,hb2⟩
  obtain ⟨eb,HB,HAT⟩:=uQ HL w2 hb2
  obtain ⟨v0,v1,v2,v3,v4,v5,v6⟩:=eb.cells
  have hlt:=eb.lt
  clear HCK HL hb2 eb hfit
  by_cases hll:ns.length=la.length
  ·have gl:((ns.length:Int)==(la.length:Int))=true:=by rw[hll];exact beq_self_eq_true _
   obtain ⟨hA,hN,hE⟩:=uQ HAT
   have k2:Kp [] w2 (w2.alloc (.cells (moC ⟨ev,ns,la⟩ (.slice an ns.length cn) (.slice al la.length cl)) 162)):=Kp.alloc _ _
   have bx:CBox w2.heap.size (moC ⟨ev,ns,la⟩ (.slice an ns.length cn) (.slice al la.length cl)) 162 (w2.alloc (.cells (moC ⟨ev,ns,la⟩ (.slice an ns.length cn) (.slice al la.length cl)) 162)):=CBox.new w2 _ _
   have hM:MoAt w2.heap.size ⟨ev,ns,la⟩ an al cn cl (w2.alloc (.cells (moC ⟨ev,ns,la⟩ (.slice an ns.length cn) (.slice al la.length cl)) 162)):=⟨bx,hN.kp k2 (by simp),hE.kp k2 (by simp),hln,hll⟩
   have HS:=q5i (M:=⟨ev,ns,la⟩) ad cap xs t5 _ (hA.kp k2) bx rfl hln (hN.kp k2 (by simp))
   have HB3:=hZq ((uQ HB).alloc (uQ HB).size (.cells (moC ⟨ev,ns,la⟩ (.slice an ns.length cn) (.slice al la.length cl)) 162))
   have HFV:Hid (hasS ns xs=true-> ∀w3,Below (w2.alloc (.cells (moC ⟨ev,ns,la⟩ (.slice an ns.length cn) (.slice al la.length cl)) 162)).heap.size (w2.alloc (.cells (moC ⟨ev,ns,la⟩ (.slice an ns.length cn) (.slice al la.length cl)) 162)) w3->Calls Tryz.prog 98 #[.slice ad xs.length cap, .func (.func 99) #[.pointer (some ⟨w2.heap.size,0,none⟩)] #[]] w3 fun e w'=>e= .returned (foRV (fdX (vlv ⟨ev,ns,la⟩) xs))/\Below w3.heap.size w3 w'):=hZq (fun hs w3 hb3=>q6Z (M:=⟨ev,ns,la⟩) ad cap xs t5 w3 ((hA.kp k2).kp (Kp.ofBelow hb3)) (hM.below hb3) (uQ HLV) hs)
   have HHS:Hid (Calls Tryz.prog 97 #[.pointer (some ⟨w2.heap.size,0,none⟩), .slice ad xs.length cap] (w2.alloc (.cells (moC ⟨ev,ns,la⟩ (.slice an ns.length cn) (.slice al la.length cl)) 162)) fun e w'=>e= .returned (.bool (hasS ns xs))/\Below (w2.alloc (.cells (moC ⟨ev,ns,la⟩ (.slice an ns.length cn) (.slice al la.length cl)) 162)).heap.size (w2.alloc (.cells (moC ⟨ev,ns,la⟩ (.slice an ns.length cn) (.slice al la.length cl)) 162)) w'):=hZq HS
   have HOK2:=hZq (uQ HOKK hll)
   have HNO2:Hid (hasS ns xs=false->D=5/\B=false):=hZq (fun h=>uQ HN0 (Or.inr h))
   clear HAT hA hN hE k2 bx hM HS HN0 HOKK HLV HB
   unfold moC at HHS HFV HB3
   dsimp only at HHS HFV HB3
   rw[hll]at HHS HFV HB3 ⊢
   clear gl
   generalize fdX (vlv ⟨ev,ns,la⟩) xs=FX at *
   generalize hasS ns xs=SB at *
   go_wp2_with fail
   refine (uQ HHS).mono ?_
   rintro e w3 ⟨rfl,hb3⟩
   have HB4:=hZq ((uQ HB3).trans (hb3.mono (uQ HB3).size))
   cases SB with
   |false=>
    obtain ⟨rfl,rfl⟩:=uQ HNO2 rfl
    clear HOK2 HNO2 HFV HHS HB3 hb3
    go_wp2
    exact bodyPost_ret (results_tmp2 rfl _ _ _) rfl ⟨rfl,uQ HB4⟩
   |true=>
    have FV:=hZq (uQ HFV rfl w3 hb3)
    obtain ⟨rfl,v,hv,rfl⟩:=uQ HOK2 rfl
    rw[hv]at FV
    unfold foRV vlE at FV
    dsimp only at FV
    clear HOK2 HNO2 HFV HHS HB3 hb3 hv
    obtain ⟨vn,vs,vt⟩:=v
    dsimp only at FV ⊢
    go_wp2_with fail
    refine (uQ FV).mono ?_
    rintro e w4 ⟨rfl,hb4⟩
    have HB5:=hZq (((uQ HB4).trans (hb4.mono (uQ HB4).size)).alloc (by have:=(uQ HB4).size;have:=hb4.size;omega) (.cells #[.int .i64 vn, .string vs, .bool vt] 165))
    clear hb4 HB4 FV
    go_wp2
    exact bodyPost_ret (results_tmp2 rfl _ _ _) rfl ⟨rfl,uQ HB5⟩
  ·have gl:((ns.length:Int)==(la.length:Int))=false:=beq_eq_false_iff_ne.2 (by omega)
   obtain ⟨rfl,rfl⟩:=uQ HN0 (Or.inl hll)
   have HB3:=hZq ((uQ HB).alloc (uQ HB).size (.cells (moC ⟨ev,ns,la⟩ (.slice an ns.length cn) (.slice al la.length cl)) 162))
   clear HN0 HOKK HAT HLV HB
   go_wp2
   exact bodyPost_ret (results_tmp2 rfl _ _ _) rfl ⟨rfl,uQ HB3⟩
 ·obtain ⟨q1,q2⟩:=q9w (M:=⟨ev,ns,la⟩) h3
  rw[q1,q2]
  clear q1 q2
  have g3:(ckK xs==3)=false:=beq_eq_false_iff_ne.2 h3
  generalize (if ckK xs=0 then (110:Int) else 0)=EC at *
  generalize ckK xs=ck at *
  go_enter Tryz.func70,Tryz.ntmps70
  go_wp2_with fail
  refine (uQ HCK).mono ?_
  rintro e w2 ⟨rfl,hb2⟩
  obtain ⟨eb,HB,HAT⟩:=uQ HL w2 hb2
  clear HCK HL hb2 eb hfit
  go_wp2
  exact bodyPost_ret (results_tmp2 rfl _ _ _) rfl ⟨rfl,uQ HB⟩
theorem q4j (ad:Option Addr)(cap:Nat)(xs:List Pt)(w:World)(hc:PtsAt w ad xs)(hT:TbE w)(hfit: ∀p∈xs,p.fit):
  Calls Tryz.prog 105 #[.slice ad xs.length cap] w fun e w'=> ∃v,e= .returned (.tuple #[v, .int .i64 (if ckK xs=0 then 110 else 0)])/\OwnsW w.heap.size w' v (stgS xs)/\Below w.heap.size w w':=by
 have CK:=hZq (q1G ad cap xs w hc hT hfit)
 by_cases h0:ckK xs=0
 ·have hs:stgS xs=[]:=by unfold stgS;rw[if_pos h0]
  rw[hs]
  rw[h0,if_pos rfl]at CK
  rw[if_pos h0]
  clear hc hT hfit h0 hs
  go_enter Tryz.func105,Tryz.ntmps105
  go_wp2_with fail
  refine (uQ CK).mono ?_
  rintro e w1 ⟨rfl,hb⟩
  clear CK
  go_wp2
  exact bodyPost_ret (results_tmp2 rfl _ _ _) rfl ⟨_,rfl,OwnsW.nil _ _,hb⟩
 ·have hs:stgS xs=stgL xs:=by unfold stgS;rw[if_neg h0]
  rw[hs]
  rw[if_neg h0]at CK
  rw[if_neg h0]
  have HST:=hZq (qf0 h0)
  obtain ⟨_,_,_,_,_,hx,_⟩:=q1q h0
  have HC:=hZq hc
  have HTK:=hZq (fun k (hk:k<xs.length)=>qal xs k hk)
  have HLN:=hZq (fun k=>Nat.le_trans (q6G (xs.take k)) (by rw[zL];omega:(xs.take k).length<=200))
  have HEN:Hid (stgL (xs.take xs.length)=stgL xs):=hZq (by rw[List.take_length])
  clear hc hT hfit h0 hs
  generalize ckK xs=ck at *
  obtain ⟨n,hn⟩: ∃n,xs.length=n:=⟨_,rfl⟩
  have HN:=hZq hn
  rw[hn]at hx CK HEN ⊢
  clear hn
  go_enter Tryz.func105,Tryz.ntmps105
  go_wp2_with fail
  refine (uQ CK).mono ?_
  rintro e w1 ⟨rfl,hb1⟩
  have HB1:=hZq hb1
  clear CK hb1
  go_wp2_with fail
  go_loopw [6,19] (fun v i wr=> ∃(k:Nat) (a:Option Addr) (c NL:Nat),k<=n/\i= .int .i64 (k:Int)/\v= .slice a NL c/\NL=(stgL (xs.take k)).length/\Hid (OwnsW w.heap.size wr (.slice a NL c) (stgL (xs.take k)))/\Below w.heap.size w wr) (fun _ i _=>n-(intOf i).toNat)
  case atStart=>exact ⟨0,none,0,0,Nat.zero_le _,rfl,rfl,rfl,hZq (OwnsW.nil _ _),uQ HB1⟩
  case round=>
   obtain ⟨k,a,c,NL,hk,rfl,rfl,hNL,HO,hb⟩:=hrel
   by_cases hlt:k<n
   ·have hkx:k<xs.length:=by rw[uQ HN];exact hlt
    have hli:(k:Int)<(n:Int):=by omega
    obtain ⟨b,off,rfl,hbl,x0,x1,x2,x3,x4⟩:=((uQ HC).kp (Kp.ofBelow hb)).at k hkx
    have HSG:=hZq (uQ HST _ (zJ hkx))
    have HNX:=hZq (uQ HTK k hkx)
    have hl2:=uQ HLN k
    unfold stgA at HNX
    clear HTK HLN HST HEN HC HB1
    generalize xs[k]=p at *
    obtain ⟨pk,pn,ps,pt,pf⟩:=p
    dsimp only at x0 x1 x2 x3 x4 HSG HNX
    have hb2:Below w.heap.size w (wr.alloc (.cells #[.int .i64 pk, .int .i64 pn, .string ps, .string pt, .int .i64 pf] 178)):=hb.alloc hb.size _
    have ho2:=(uQ HO).kp (Kp.alloc wr (.cells #[.int .i64 pk, .int .i64 pn, .string ps, .string pt, .int .i64 pf] 178))
    have c3:(wr.alloc (.cells #[.int .i64 pk, .int .i64 pn, .string ps, .string pt, .int .i64 pf] 178)).cell? ⟨wr.heap.size,3,none⟩=some (.string pt):=(CBox.new wr _ _).cell rfl
    generalize stgL (xs.take k)=L at *
    obtain ⟨a',c',hv,hnm,_⟩:=ho2.at
    injection hv with e1 e2 e3
    subst e1 e3
    have CT:=hZq (q1r a c L pt _ (by omega) hnm)
    rw[<-hNL]at CT
    have HB2:=hZq hb2
    have HO2:=hZq ho2
    have HNL:=hZq hNL
    have hwl:wr.heap.size<(wr.alloc (.cells #[.int .i64 pk, .int .i64 pn, .string ps, .string pt, .int .i64 pf] 178)).heap.size:=by simp
    clear hb hb2 ho2 HO hnm hNL e2
    have g1:=q14 pt
    have g2:=q1R pt
    cases hE:q05 pt with
    |true=>
     rw[hE]at g1 g2
     rw[hE,Bool.true_or,if_pos rfl]at HNX
     clear hE CT
     go_wp2_with fail
     go_roundw
     case rel=>exact ⟨k+1,a,c,NL,by omega,by go_num,rfl,by rw[uQ HNX];exact uQ HNL,by rw[uQ HNX];exact HO2,uQ HB2⟩
     case measure=>simp[intOf];omega
    |false=>
     rw[hE]at g1 g2
     rw[hE,Bool.false_or]at HNX
     clear hE
     cases hH:hasN L pt with
     |true=>
      rw[hH]at CT HNX
      rw[if_pos rfl]at HNX
      clear hH
      go_wp2_with fail
      refine (uQ CT).mono ?_
      rintro e w4 ⟨rfl,rfl⟩
      clear CT
      go_wp2
      go_roundw
      case rel=>exact ⟨k+1,a,c,NL,by omega,by go_num,rfl,by rw[uQ HNX];exact uQ HNL,by rw[uQ HNX];exact HO2,uQ HB2⟩
      case measure=>simp[intOf];omega
     |false=>
      rw[hH]at CT HNX
      rw[if_neg (by simp)]at HNX
      clear hH
      have hpz:pt.size<=32:=(uQ HSG).2
      have CL:=hZq (fun W=>q1H pt W (by omega))
      go_wp2_with fail
      refine (uQ CT).mono ?_
      rintro e w4 ⟨rfl,rfl⟩
      clear CT
      generalize wr.alloc (.cells #[.int .i64 pk, .int .i64 pn, .string ps, .string pt, .int .i64 pf] 178)=W2 at *
      go_wp2_with fail
      refine (uQ CL _).mono ?_
      rintro e w5 ⟨rfl,hb5⟩
      have k5:=(Kp.ofBelow hb5).trans (Kp.alloc w5 (.cells #[.string pt] 9)) (by simp)
      have hb6:=(uQ HB2).trans (k5.below (uQ HB2).size (by simp))
      have ho6:=(uQ HO2).kp k5
      obtain ⟨g',cap',w',hrun,hO',hbw,_⟩:=OwnsW.app (c:=1) ho6 hb6.size pt (g:=w5.heap.size) ((CBox.new w5 _ _).cell rfl) (by omega) 102
      rw[<-uQ HNL]at hrun hO'
      have HRUN:=hZq hrun
      have HO':=hZq hO'
      have HBW:=hZq (hb6.trans hbw)
      clear hrun hO' hbw hb6 ho6 k5 hb5 CL
      dsimp only
      go_wp2_with (at_builtin;refine q0g rfl _ _ _ rfl rfl rfl (uQ HRUN) ?_)
      go_roundw
      case rel=>exact ⟨k+1,_,cap',NL+1,by omega,by go_num,rfl,by rw[uQ HNX,zF, <-uQ HNL];rfl,by rw[uQ HNX];exact HO',uQ HBW⟩
      case measure=>simp[intOf];omega
   ·obtain rfl:k=n:=by omega
    have HE:=uQ HEN
    rw[HE]at HO
    clear HE HEN HTK HLN HST HC HB1 hNL
    go_wp2
    exact bodyPost_ret (results_tmp2 rfl _ _ _) rfl ⟨_,rfl,uQ HO,hb⟩
theorem qdi:(Tryz.prog.info? 254).map (·.size)=some 75:=by kernel_rfl
def OwnsP (B:Nat)(w:World)(v:Value)(l:List Pt):Prop:=w.ownsRow B 178 5 v l.length (l.flatMap ptE)
def PsT (l:List Tk)(B:Nat)(P:PR)(e:Ending)(w':World):Prop:=match P with
 | .bad q=>e= .returned (.tuple #[.slice none 0 0, .int .i64 0, .agg #[.int .i64 (hdPl q), .int .i64 110]])
 | .good x q=>if ckK x=0 then e= .returned (.tuple #[.slice none 0 0, .int .i64 0, .agg #[.int .i64 0, .int .i64 110]]) else∃v k,e= .returned (.tuple #[v, .int .i64 ((k:Nat):Int), .agg #[.int .i64 0, .int .i64 0]])/\k<=l.length/\l.drop k=q/\OwnsP B w' v x
theorem PsT.bad {l:List Tk}{B:Nat}{P:PR}{t:Tk}{r:List Tk}{w':World}(h:P= .bad (t::r)):PsT l B P (.returned (.tuple #[.slice none 0 0, .int .i64 0, .agg #[.int .i64 t.pl, .int .i64 110]])) w':=by subst h;rfl
theorem PsT.no {l:List Tk}{B:Nat}{P:PR}{x:List Pt}{q:List Tk}{w':World}(h:P= .good x q)(h0:ckK x=0):PsT l B P (.returned (.tuple #[.slice none 0 0, .int .i64 0, .agg #[.int .i64 0, .int .i64 110]])) w':=by
 subst h
 unfold PsT
 dsimp only
 rw[if_pos h0]
theorem PsT.yes {l:List Tk}{B:Nat}{P:PR}{x:List Pt}{q:List Tk}{w':World}{v:Value}{k:Nat}(h:P= .good x q)(h0:ckK x≠0)(hk:k<=l.length)(hq:l.drop k=q)(ho:OwnsP B w' v x):PsT l B P (.returned (.tuple #[v, .int .i64 (k:Int), .agg #[.int .i64 0, .int .i64 0]])) w':=by
 subst h
 unfold PsT
 dsimp only
 rw[if_neg h0]
 exact ⟨v,k,rfl,hk,hq,ho⟩
theorem TksLow.mono {B B':Nat}{W:World}{tk:Value}{l:List Tk}(h:TksLow B W tk l)(hB:B<=B'):TksLow B' W tk l:=by
 obtain ⟨b,off,cap,e,hlt,hc⟩:=h
 exact ⟨b,off,cap,e,by omega,hc⟩
theorem OpsLow.mono {B B':Nat}{W:World}{ov:Value}{os:List Int}(h:OpsLow B W ov os)(hB:B<=B'):OpsLow B' W ov os:=by
 rcases h with h|⟨b,e,hlt,hc⟩
 ·exact Or.inl h
 ·exact Or.inr ⟨b,e,by omega,hc⟩
theorem LvsLow.mono {B B':Nat}{W:World}{lv:Value}(h:LvsLow B W lv)(hB:B<=B'):LvsLow B' W lv:=by
 obtain ⟨b,e,hlt,hc⟩:=h
 refine ⟨b,e,by omega,fun n hn=>?_⟩
 obtain ⟨c0,ov,c1,c2⟩:=hc n hn
 exact ⟨c0,ov,c1,c2.mono hB⟩
theorem OwnsP.mono {B B':Nat}{w:World}{v:Value}{l:List Pt}(h:OwnsP B w v l)(hB:B'<=B):OwnsP B' w v l:=by
 obtain ⟨h1,h2|⟨g,cap,cur,e,hg,r⟩⟩:=h
 ·exact ⟨h1,Or.inl h2⟩
 ·exact ⟨h1,Or.inr ⟨g,cap,cur,e,by omega,r⟩⟩
theorem OwnsP.kp {B:Nat}{w w':World}{v:Value}{l:List Pt}(h:OwnsP B w v l)(hk:Kp [] w w'):OwnsP B w' v l:=q03 h hk (by simp)
theorem OwnsP.nil (B:Nat)(w:World):OwnsP B w (.slice none 0 0) []:=World.ownsRow_nil _ _ _ _
theorem OwnsP.at {B:Nat}{w:World}{v:Value}{l:List Pt}(h:OwnsP B w v l): ∃ad cp,v= .slice ad l.length cp/\PtsAt w ad l/\l.length<=cp:=by
 obtain ⟨_,⟨rfl,h0⟩|⟨g,cp,cur,rfl,_,_,hcap,_⟩⟩:=id h
 ·refine ⟨none,0,by rw[h0],fun hne=>?_,by omega⟩
  exact absurd (List.eq_nil_of_length_eq_zero h0) hne
 ·have hl:=World.ownsRow.lt h g rfl
  refine ⟨_,_,rfl,fun _=>⟨g,0,rfl,hl.2,fun i hi=>?_⟩,hcap⟩
  have c:=fun j (hj:j<5)=>q0t q0T h i j hi hj
  simp only[Nat.zero_add]
  exact ⟨c 0 (by omega),c 1 (by omega),c 2 (by omega),c 3 (by omega),c 4 (by omega)⟩
theorem FBox.two {b:Nat}{w:World}(h:FBox b w)(x y:Value):CBox b #[x,y] 47 ((w.setCell ⟨b,0,none⟩ x).setCell ⟨b,1,none⟩ y):=CBox.set (CBox.set h 0 x) 1 y
theorem q1o {b:Nat}{w:World}{x y:Value}(h:CBox b #[x,y] 47 w):w.cell? ⟨b,0,none⟩=some x/\w.cell? ⟨b,1,none⟩=some y:=⟨h.cell rfl,h.cell rfl⟩
theorem q2j {b B:Nat}{w w':World}(h:Below B w w')(hB:B<=b)(x y:Value):Below B w (((w'.setCell ⟨b,0,none⟩ x).setCell ⟨b,1,none⟩ y)):=(h.setCell (p:=⟨b,0,none⟩) hB _).setCell (p:=⟨b,1,none⟩) hB _
theorem qbM (lv tk:Value):((Array.foldl (fun cs x=>cs.setIfInBounds (1+x.snd) x.fst) (Tryz.zeroCells254.setIfInBounds 0 lv) opsV.zipIdx 0 opsV.size).setIfInBounds 71 tk)=rdC lv tk 0 0 (.slice none 0 0):=by kernel_rfl
theorem qdH (lv:Value):(Array.foldl (fun cs x=>cs.setIfInBounds (1+x.snd) x.fst) (Tryz.zeroCells254.setIfInBounds 0 lv) opsV.zipIdx 0 opsV.size).size=75:=by kernel_rfl
theorem qdE (lv tk:Value)(h1:lv.oneCell'=true)(h2:tk.oneCell'=true):(rdC lv tk 0 0 (.slice none 0 0)).all (·.oneCell')=true:=by
 unfold rdC
 rw[Array.all_append,Array.all_append,q3N]
 simp[h1,h2]
 exact ⟨rfl,rfl⟩
theorem q6o (lv tk:Value):(rdC lv tk 0 0 (.slice none 0 0)).size=75:=by
 unfold rdC
 rw[Array.size_append,Array.size_append,q0x]
 rfl
theorem qbN (w:World)(lv tk:Value)(h1:lv.oneCell'=true)(h2:tk.oneCell'=true):(storeCells ⟨w.heap.size,0,none⟩ ((Array.foldl (fun cs x=>cs.setIfInBounds (1+x.snd) x.fst) (Tryz.zeroCells254.setIfInBounds 0 lv) opsV.zipIdx 0 opsV.size).toList.set 71 tk) 0).run Tryz.prog (w.alloc (.cells Tryz.zeroCells254 254))= .ok () (w.alloc (.cells (rdC lv tk 0 0 (.slice none 0 0)) 254)):=by
 rw[<-Array.toList_setIfInBounds,qbM]
 exact run_storeCells_new w 254 Tryz.zeroCells254 (rdC lv tk 0 0 (.slice none 0 0)) (by rw[q6o];exact qdi) (by rw[q6o];kernel_rfl) (qdE lv tk h1 h2)
attribute [local irreducible] opsV
theorem qa0 (tk:Value)(l:List Tk)(w:World)(ht:TksLow w.heap.size w tk l)(hT:TbE w)(hl:l.length<=100000)(hok: ∀t∈l,t.s.size<=140737488351232)(hE:Endd l)(hk: ∀t∈l,t.ok):
  Calls Tryz.prog 127 #[tk] w fun e w'=>PsT l w.heap.size (psR l) e w'/\Below w.heap.size w w':=by
 obtain ⟨tb,tf,tc,rfl,htb,htc⟩:=id ht
 clear htb htc
 have HT:=hZq ht
 have HTb:=hZq hT
 have HE:=hZq hE
 have HK:=hZq hk
 have HOK:=hZq hok
 clear ht hT hE hk hok
 go_enter Tryz.func127,Tryz.ntmps127
 go_wp2_with fail
 refine (q70 _).mono ?_
 rintro e w1 ⟨lv,rfl,hlv,hk1⟩
 obtain ⟨lb,rfl,hlb,hlc⟩:=id hlv
 clear hlb hlc
 have HLV:=hZq hlv
 have HK1:=hZq hk1
 clear hlv hk1
 go_wp2_with fail
 refine (q1B _).mono ?_
 rintro e w2 ⟨rfl,hk2⟩
 have HK2:=hZq hk2
 clear hk2
 have rs:=qdH (.slice (some ⟨lb,0,none⟩) 7 7)
 have st:=qbN w2 (.slice (some ⟨lb,0,none⟩) 7 7) (.slice (some ⟨tb,tf,none⟩) l.length tc) rfl rfl
 have hs70:=q0x
 rw[q0x]at rs st
 go_wp2_with fail
 clear rs st
 have hb0:Below w.heap.size w w2:=by
  have a0:Below w.heap.size w (w.alloc (.cells #[.int .i64 0, .int .i64 0] 47)):=(Below.refl _ _).alloc (zM _) _
  have a1:=(uQ HK1).below (B:=w.heap.size) (by simp) (by simp)
  have a2:=(uQ HK2).below (B:=w.heap.size) (by have:=(uQ HK1).size;simp at this;omega) (by simp)
  exact (a0.trans a1).trans a2
 have fb0:FBox w.heap.size w2:=CBox.kp (CBox.kp (CBox.new w _ _) (uQ HK1) (by simp)) (uQ HK2) (by simp)
 have hw2:=hb0.size
 have hB3:Below w2.heap.size w2 (w2.alloc (.cells (rdC (.slice (some ⟨lb,0,none⟩) 7 7) (.slice (some ⟨tb,tf,none⟩) l.length tc) 0 0 (.slice none 0 0)) 254)):=(Below.refl _ _).alloc (zM _) _
 have hRd:Rd w2.heap.size (.slice (some ⟨lb,0,none⟩) 7 7) (.slice (some ⟨tb,tf,none⟩) l.length tc) l 0 0 [] (w2.alloc (.cells (rdC (.slice (some ⟨lb,0,none⟩) 7 7) (.slice (some ⟨tb,tf,none⟩) l.length tc) 0 0 (.slice none 0 0)) 254)):=by
  have t1:TbE w2:=(uQ HTb).below hb0 (uQ HTb).low
  have t2:TksLow w2.heap.size w2 (.slice (some ⟨tb,tf,none⟩) l.length tc) l:=((uQ HT).below hb0).mono hw2
  have t3:LvsLow w2.heap.size w2 (.slice (some ⟨lb,0,none⟩) 7 7):=((uQ HLV).below ((uQ HK2).below (zM _) (by simp))).mono (uQ HK2).size
  exact ⟨⟨t2.below hB3,t3.below hB3,t1.alloc _,t1.low,hl,uQ HOK⟩,_,CBox.new w2 _ _,World.ownsRow_nil _ _ _ _⟩
 have RD:=qeJ (mRd 0 l) w2.heap.size (.slice (some ⟨lb,0,none⟩) 7 7) (.slice (some ⟨tb,tf,none⟩) l.length tc) l 0 0 [] _ 0 hRd (by omega) (by rw[List.drop_zero];exact uQ HE) (by omega) (by rw[List.drop_zero];simp;omega) (by rw[List.drop_zero];exact zM _)
 rw[List.drop_zero]at RD
 have HRD:=hZq RD
 clear RD
 refine (uQ HRD).mono ?_
 intro e w3 hR
 clear HRD hRd
 have hfit:=q6m (mRd 0 l) 0 0 [] l (uQ HK) (fun p hp=>by cases hp)
 have hend:=(q2z (mRd 0 l) 0 0 [] l (uQ HE)).1
 have hP0:psR l=pRd (mRd 0 l) 0 0 [] l:=rfl
 rw[<-hP0]at hR hfit hend
 clear hP0
 cases hP:psR l with
 |bad q=>
  rw[hP]at hR hend
  obtain ⟨rfl,⟨k,ps',hq,hkl,hr⟩,hb3⟩:=hR
  have hb:Below w.heap.size w w3:=hb0.trans ((hB3.trans hb3).mono hw2)
  have fb3:=fb0.below (hB3.trans hb3) fb0.lt
  cases q with
  |nil=>exact absurd rfl hend.1.ne
  |cons t r=>
   obtain ⟨hk,hlt,_⟩:=q0f hq
   obtain ⟨b',off',cap',e1,hlt2,hc⟩:=hr.env.tks
   cases e1
   obtain ⟨_,_,_,c3⟩:=hc k hk
   rw[hlt]at c3
   obtain ⟨c72,_,_,_⟩:=hr.cells
   obtain ⟨f0,f1,fz0,fz1⟩:=fb3.cells
   have hlf:=fb3.lt
   have HF3:=hZq fb3
   have HPs:=hZq hP
   have HPB:Hid (∀W,PsT l w.heap.size (psR l) (.returned (.tuple #[.slice none 0 0, .int .i64 0, .agg #[.int .i64 t.pl, .int .i64 110]])) W):=hZq (fun W=>PsT.bad (uQ HPs))
   have HB:=hZq hb
   clear hr hc hlt hq hend hfit hP hb hb3 hB3 hb0 fb0 fb3 HT HTb HE HK HOK HLV HK1 HK2
   generalize Value.agg (Array.setIfInBounds _ 71 _)=AG
   obtain ⟨tkd,ts,tn,tpl⟩:=t
   dsimp only at c3 HPB
   go_wp2
   go_region
   go_wp2
   have q2:CBox w.heap.size #[.int .i64 tpl, .int .i64 110] 47 (((w3.setCell ⟨w.heap.size,0,none⟩ (.int .i64 tpl)).setCell ⟨w.heap.size,1,none⟩ (.int .i64 110)).drew):=(uQ HF3).two _ _
   obtain ⟨z0,z1⟩:=q1o q2
   exact bodyPost_ret (v:= .tuple #[.slice none 0 0, .int .i64 0, .agg #[.int .i64 tpl, .int .i64 110]]) (by simp[results,Tryz.results127,go_sem,z0,z1]) rfl ⟨uQ HPB _,(q2j (uQ HB) (zM _) _ _).drew⟩
 |good x q=>
  rw[hP]at hR hend hfit
  obtain ⟨rfl,⟨k,hq,hkl,hr⟩,hb3⟩:=hR
  have hb:Below w.heap.size w w3:=hb0.trans ((hB3.trans hb3).mono hw2)
  have fb3:=fb0.below (hB3.trans hb3) fb0.lt
  rw[List.nil_append]at hr
  obtain ⟨pv,hbox,hown⟩:=hr.box
  have hown':OwnsP (w2.heap.size+1) w3 pv x:=hown
  obtain ⟨ad,cp,rfl,hat,hcp⟩:=hown'.at
  have CK:=q1G ad cp x w3 hat hr.env.tab (fun p hp=>(hfit p hp).2.2.2.1)
  have c72:=hbox.cell (q4b _ _ _ _ _)
  have c74:=hbox.cell (q21 _ _ _ _ _)
  have HL:Hid (∀w4,Below w3.heap.size w3 w4->(w4.cell? ⟨w2.heap.size,72,none⟩=some (.int .i64 (k:Int))/\w4.cell? ⟨w2.heap.size,74,none⟩=some (.slice ad x.length cp))/\FBox w.heap.size w4/\Hid (OwnsP w.heap.size w4 (.slice ad x.length cp) x)/\Hid (Below w.heap.size w w4)):=hZq (fun w4 hb4=>⟨⟨(Kp.ofBelow hb4).cell c72 (by simp),(Kp.ofBelow hb4).cell c74 (by simp)⟩,fb3.below hb4 fb3.lt,hZq ((hown'.kp (Kp.ofBelow hb4)).mono (by omega)),hZq (hb.trans (hb4.mono hb.size))⟩)
  have HCK:=hZq CK
  have HPs:=hZq hP
  clear hr hbox hown hown' hat hend hP hb hb3 hB3 hb0 fb0 fb3 HT HTb HE HK HOK HLV HK1 HK2 CK hfit c72
  generalize Value.agg (Array.setIfInBounds _ 71 _)=AG
  by_cases h0:ckK x=0
  ·have HPB:Hid (∀W,PsT l w.heap.size (psR l) (.returned (.tuple #[.slice none 0 0, .int .i64 0, .agg #[.int .i64 0, .int .i64 110]])) W):=hZq (fun W=>PsT.no (uQ HPs) h0)
   rw[h0,if_pos rfl]at HCK
   clear h0
   go_wp2_with fail
   refine (uQ HCK).mono ?_
   rintro e w4 ⟨rfl,hb4⟩
   obtain ⟨⟨d72,d74⟩,fb4,HO,HB⟩:=uQ HL w4 hb4
   obtain ⟨f0,f1,fz0,fz1⟩:=fb4.cells
   have HF4:=hZq fb4
   clear HCK HL hb4 fb4 c74
   go_wp2
   have q2:CBox w.heap.size #[.int .i64 0, .int .i64 110] 47 (((w4.setCell ⟨w.heap.size,0,none⟩ (.int .i64 0)).setCell ⟨w.heap.size,1,none⟩ (.int .i64 110))):=(uQ HF4).two _ _
   obtain ⟨z0,z1⟩:=q1o q2
   exact bodyPost_ret (v:= .tuple #[.slice none 0 0, .int .i64 0, .agg #[.int .i64 0, .int .i64 110]]) (by simp[results,Tryz.results127,go_sem,z0,z1]) rfl ⟨uQ HPB _,q2j (uQ HB) (zM _) _ _⟩
  ·have HPB:Hid (∀W,OwnsP w.heap.size W (.slice ad x.length cp) x->PsT l w.heap.size (psR l) (.returned (.tuple #[.slice ad x.length cp, .int .i64 (k:Int), .agg #[.int .i64 0, .int .i64 0]])) W):=hZq (fun W ho=>PsT.yes (uQ HPs) h0 hkl hq ho)
   rw[if_neg h0]at HCK
   generalize ckK x=ck at *
   clear h0
   go_wp2_with fail
   refine (uQ HCK).mono ?_
   rintro e w4 ⟨rfl,hb4⟩
   obtain ⟨⟨d72,d74⟩,fb4,HO,HB⟩:=uQ HL w4 hb4
   obtain ⟨f0,f1,fz0,fz1⟩:=fb4.cells
   have HF4:=hZq fb4
   clear HCK HL hb4 fb4 c74
   go_wp2
   have HO2:Hid (OwnsP w.heap.size (((w4.setCell ⟨w.heap.size,0,none⟩ (.int .i64 0)).setCell ⟨w.heap.size,1,none⟩ (.int .i64 0)).drew) (.slice ad x.length cp) x):=hZq (q03 (F:=[w.heap.size]) (W':=(w4.setCell ⟨w.heap.size,0,none⟩ (.int .i64 0)).setCell ⟨w.heap.size,1,none⟩ (.int .i64 0)) (uQ HO) ((Kp.set w4 w.heap.size 0 (.int .i64 0)).trans (Kp.set (w4.setCell ⟨w.heap.size,0,none⟩ (.int .i64 0)) w.heap.size 1 (.int .i64 0)) (by simp)) (fun g hg=>by have:=q0d (uQ HO) (uQ HF4) (by decide);rw[hg]at this;simp at this ⊢;exact this))
   go_region
   go_wp2
   have q2:CBox w.heap.size #[.int .i64 0, .int .i64 0] 47 (((w4.setCell ⟨w.heap.size,0,none⟩ (.int .i64 0)).setCell ⟨w.heap.size,1,none⟩ (.int .i64 0)).drew):=(uQ HF4).two _ _
   obtain ⟨z0,z1⟩:=q1o q2
   exact bodyPost_ret (v:= .tuple #[.slice ad x.length cp, .int .i64 (k:Int), .agg #[.int .i64 0, .int .i64 0]]) (by simp[results,Tryz.results127,go_sem,z0,z1]) rfl ⟨uQ HPB _ (uQ HO2),(q2j (uQ HB) (zM _) _ _).drew⟩
end Go.Proofs.YtfgkikeeadlcfaaGreatDoor
namespace Go.Proofs.YtfgkikeeadlcfaaGreatDoor
open Go.RowKit Go.Shelf
theorem OwnsP.one (w:World)(p:Pt):OwnsP w.heap.size (w.alloc (.cells (ptE p).toArray 178)) (.slice (some ⟨w.heap.size,0,none⟩) 1 1) [p]:=
 ⟨by simp[ptE],Or.inr ⟨w.heap.size,1,_,rfl,zM _,CBox.new w _ _,zM _,by unfold maxLen;omega,rfl,by simp[ptE]⟩⟩
theorem q46 (s:ByteArray)(w:World)(hT:TbE w)(hs:s.size<=9223372036854775807):
  Calls Tryz.prog 81 #[.string s] w fun e w'=>e= .returned (.bool (isSg s))/\Below w.heap.size w w':=by
 have ho:=OwnsP.one w ⟨3,0,⟨#[]⟩,s,0⟩
 obtain ⟨a',c',e',hat,_⟩:=ho.at
 injection e' with e1 e2 e3
 subst e1 e3
 have CK:=hZq (q1G (some ⟨w.heap.size,0,none⟩) 1 [⟨3,0,⟨#[]⟩,s,0⟩] _ hat (hT.alloc _) (fun p hp=>by simp only[zD]at hp;subst hp;exact hs))
 have HB:=hZq ((Below.refl w.heap.size w).alloc (zM _) (.cells (ptE ⟨3,0,⟨#[]⟩,s,0⟩).toArray 178))
 have hN:=qdu s
 have g1:=q14 s
 have g2:=q1R s
 rw[hN]
 unfold ptE at CK HB
 dsimp only at CK HB
 rw[List.length_singleton]at CK
 clear ho hat e2 hN hT
 generalize (if ckK [⟨3,0,⟨#[]⟩,s,0⟩]=0 then (110:Int) else 0)=EC at *
 generalize ckK [⟨3,0,⟨#[]⟩,s,0⟩]=KC at *
 generalize q05 s=ES at *
 cases ES with
 |true=>
  rw[Bool.not_true,Bool.false_and]
  go_enter Tryz.func81,Tryz.ntmps81
  go_wp2_with fail
  refine (uQ CK).mono ?_
  rintro e w1 ⟨rfl,hb1⟩
  have HB1:=hZq ((uQ HB).trans (hb1.mono (uQ HB).size))
  clear CK hb1 HB
  go_wp2
  go_ret
  exact ⟨rfl,uQ HB1⟩
 |false=>
  rw[Bool.not_false,Bool.true_and]
  go_enter Tryz.func81,Tryz.ntmps81
  go_wp2_with fail
  refine (uQ CK).mono ?_
  rintro e w1 ⟨rfl,hb1⟩
  have HB1:=hZq ((uQ HB).trans (hb1.mono (uQ HB).size))
  clear CK hb1 HB
  go_wp2
  go_ret
  exact ⟨rfl,uQ HB1⟩
theorem qaC {l:List ByteArray}{f:ByteArray->Bool}{k:Nat}(h:(l.take k).all f=true)(hk:k<l.length)(hf:f l[k]=true):(l.take (k+1)).all f=true:=by
 rw[List.take_succ_eq_append_getElem hk,List.all_append,h]
 simp[hf]
theorem q8Y {l:List ByteArray}{f:ByteArray->Bool}{k:Nat}(hk:k<l.length)(hf:f l[k]=false):l.all f=false:=by
 rw[List.all_eq_false]
 exact ⟨l[k],zJ _,by rw[hf];simp⟩
theorem q8z (ad aa:Option Addr)(cap ca:Nat)(xs:List Pt)(ah:List ByteArray)(w:World)(hc:PtsAt w ad xs)(hn:NmsAt w aa ah)(hl:ah.length<=9223372036854775807)(hT:TbE w)(hfit: ∀p∈xs,p.fit):
  Calls Tryz.prog 83 #[.slice ad xs.length cap, .slice aa ah.length ca] w fun e w'=>e= .returned (.bool (cdOk xs ah))/\Below w.heap.size w w':=by
 have CK:=hZq (q1G ad cap xs w hc hT hfit)
 unfold cdOk
 by_cases h3:ckK xs=3
 ·have h0:(if ckK xs=0 then (110:Int) else 0)=0:=if_neg (by rw[h3];decide)
  have ST:=hZq (fun W (hb:Below w.heap.size w W)=>q4j ad cap xs W (hc.kp (Kp.ofBelow hb)) (hT.blw hb) hfit)
  rw[h0]at ST CK
  rw[h3]at CK
  rw[decide_eq_true h3,Bool.true_and]
  have hsl:=q3V xs
  have HN:=hZq hn
  clear h0 h3 hc hT hfit hn
  generalize stgS xs=L at *
  have HAT:=hZq (fun k (hk:k<L.length) (h:(L.take k).all (hasN ah)=true) (hf:hasN ah L[k]=true)=>qaC h hk hf)
  have HAF:=hZq (fun k (hk:k<L.length) (hf:hasN ah L[k]=false)=>q8Y (f:=hasN ah) hk hf)
  have HAE:Hid ((L.take L.length).all (hasN ah)=true->L.all (hasN ah)=true):=hZq (fun h=>by rwa [List.take_length]at h)
  obtain ⟨R,hR⟩: ∃R,L.all (hasN ah)=R:=⟨_,rfl⟩
  rw[hR]at HAF HAE ⊢
  clear hR
  go_enter Tryz.func83,Tryz.ntmps83
  go_wp2_with fail
  refine (uQ CK).mono ?_
  rintro e w1 ⟨rfl,hb1⟩
  have ST1:=hZq (uQ ST w1 hb1)
  have HB1:=hZq hb1
  clear CK hb1 ST
  go_wp2_with fail
  refine (uQ ST1).mono ?_
  rintro e w2 ⟨v,rfl,ho,hb2⟩
  obtain ⟨a2,c2,rfl,hn2,_⟩:=ho.at
  have HN2:=hZq hn2
  have HB2:=hZq ((uQ HB1).trans (hb2.mono (uQ HB1).size))
  have HNA:=hZq ((uQ HN).kp (Kp.ofBelow (uQ HB2)) (by simp))
  obtain ⟨n,hn⟩: ∃n,L.length=n:=⟨_,rfl⟩
  have HNL:=hZq hn
  rw[hn]at hsl HAE ⊢
  clear ST1 hb2 ho hn2 HB1 HN hn
  go_wp2_with fail
  go_loopw [25] (fun i wr=> ∃k:Nat,k<=n/\i= .int .i64 (k:Int)/\wr=w2/\Hid ((L.take k).all (hasN ah)=true)) (fun i _=>n-(intOf i).toNat)
  case atStart=>exact ⟨0,Nat.zero_le _,rfl,rfl,hZq (by simp)⟩
  case round=>
   obtain ⟨k,hk,rfl,hwr,HK⟩:=hrel
   subst hwr
   by_cases hlt:k<n
   ·have hkl:k<L.length:=by rw[uQ HNL];exact hlt
    have hne:L≠[]:=fun e=>by rw[e]at hkl;simp at hkl
    obtain ⟨b,off,rfl,_,hc2⟩:=uQ HN2 hne
    have cj:=hc2 k hkl
    have hli:(k:Int)<(n:Int):=by omega
    have HX:=hZq (uQ HAT k hkl (uQ HK))
    have HY:=hZq (uQ HAF k hkl)
    clear hc2 hne HAT HAF HAE HK
    generalize L[k]=s at *
    have CT:=hZq (q1r aa ca ah s _ hl (uQ HNA))
    cases hH:hasN ah s with
    |true=>
     rw[hH]at CT
     have HX2:=hZq (uQ HX hH)
     clear HX HY hH
     go_wp2_with fail
     refine (uQ CT).mono ?_
     rintro e w4 ⟨rfl,rfl⟩
     clear CT
     go_wp2
     go_roundw
     case rel=>exact ⟨k+1,by omega,by go_num,by first|trivial|rfl,HX2⟩
     case measure=>simp[intOf];omega
    |false=>
     rw[hH]at CT
     obtain rfl:=uQ HY hH
     clear HX HY hH
     go_wp2_with fail
     refine (uQ CT).mono ?_
     rintro e w4 ⟨rfl,rfl⟩
     clear CT
     go_wp2
     go_ret
     exact ⟨rfl,uQ HB2⟩
   ·obtain rfl:k=n:=by omega
    obtain rfl:=uQ HAE (uQ HK)
    clear HAT HAF HAE
    go_wp2
    go_ret
    exact ⟨rfl,uQ HB2⟩
 ·rw[zK h3,Bool.false_and]
  have g3:(ckK xs==3)=false:=beq_eq_false_iff_ne.2 h3
  clear hc hT hfit hn h3
  generalize (if ckK xs=0 then (110:Int) else 0)=EC at *
  generalize ckK xs=ck at *
  go_enter Tryz.func83,Tryz.ntmps83
  go_wp2_with fail
  refine (uQ CK).mono ?_
  rintro e w1 ⟨rfl,hb1⟩
  clear CK
  go_wp2
  go_ret
  exact ⟨rfl,hb1⟩
def stV (s:Stg)(ad:Option Addr)(c:Nat):Array Value:=#[.string s.nm, .int .i64 s.hw, .bool s.mn, .slice ad s.cd.length c]
theorem box4 {w W:World}{a b c d:Value}{t:TypeId}(hk:Kp [] (w.alloc (.cells #[a,b,c,d] t)) W):W.cell? ⟨w.heap.size,0,none⟩=some a/\W.cell? ⟨w.heap.size,1,none⟩=some b/\W.cell? ⟨w.heap.size,3,none⟩=some d:=by
 have h:=(CBox.new w #[a,b,c,d] t).kp hk (by simp)
 exact ⟨h.cell rfl,h.cell rfl,h.cell rfl⟩
theorem q5l (s:Stg)(ad aa:Option Addr)(c ca:Nat)(ah:List ByteArray)(w:World)(hc:PtsAt w ad s.cd)(hn:NmsAt w aa ah)(hl:ah.length<=9223372036854775807)(hT:TbE w)(hfit: ∀p∈s.cd,p.fit)(hs:s.nm.size<=9223372036854775807):
  Calls Tryz.prog 54 #[.agg (stV s ad c), .slice aa ah.length ca] w fun e w'=>e= .returned (.bool (stOk s ah))/\Below w.heap.size w w':=by
 obtain ⟨nm,hw,mn,cd⟩:=s
 unfold stV stOk
 dsimp only at *
 have k0:=Kp.alloc w (.cells #[.string nm, .int .i64 hw, .bool mn, .slice ad cd.length c] 88)
 have b0:=(Below.refl w.heap.size w).alloc (zM _) (.cells #[.string nm, .int .i64 hw, .bool mn, .slice ad cd.length c] 88)
 have IN:=hZq (q46 nm _ (hT.alloc (.cells #[.string nm, .int .i64 hw, .bool mn, .slice ad cd.length c] 88)) hs)
 have HW:Hid (∀W,Kp [] (w.alloc (.cells #[.string nm, .int .i64 hw, .bool mn, .slice ad cd.length c] 88)) W->(W.cell? ⟨w.heap.size,0,none⟩=some (.string nm)/\W.cell? ⟨w.heap.size,1,none⟩=some (.int .i64 hw)/\W.cell? ⟨w.heap.size,3,none⟩=some (.slice ad cd.length c))/\Hid (Below w.heap.size w W)/\Hid (PtsAt W ad cd)/\Hid (NmsAt W aa ah)/\Hid (TbE W)):=hZq (fun W hk=>⟨box4 hk,hZq ((k0.trans hk (by simp)).below (zM _) (by simp)),hZq ((hc.kp k0).kp hk),hZq ((hn.kp k0 (by simp)).kp hk (by simp)),hZq ((hT.kp k0 (by simp)).kp hk (by simp))⟩)
 have HFIT:=hZq hfit
 obtain ⟨v0,v1,v3⟩:=(uQ HW _ (Kp.refl _ _)).1
 obtain ⟨R,hR⟩: ∃R,(isSg nm && (!hasN ah nm && (hwOk hw ah.length && cdOk cd ah)))=R:=⟨_,rfl⟩
 rw[hR]
 have HR:Hid (R=(isSg nm && (!hasN ah nm && (hwOk hw ah.length && cdOk cd ah)))):=hZq hR.symm
 clear k0 b0 hc hn hT hfit hs hR
 have eh:(hw==0)=decide (hw=0):=rfl
 have el:((ah.length:Int)==0)=decide (ah.length=0):=by
  by_cases h:ah.length=0 <;> simp[h]
 go_enter Tryz.func54,Tryz.ntmps54
 go_wp2_with fail
 refine (uQ IN).mono ?_
 rintro e w1 ⟨rfl,hb1⟩
 have HK1:=hZq (Kp.ofBelow hb1)
 obtain ⟨⟨u0,u1,u3⟩,HB1,HP1,HN1,HT1⟩:=uQ HW w1 (uQ HK1)
 clear IN hb1 v0 v1 v3
 have CT:=hZq (q1r aa ca ah nm w1 hl (uQ HN1))
 have IC:=hZq (q8z ad aa c ca cd ah w1 (uQ HP1) (uQ HN1) hl (uQ HT1) (uQ HFIT))
 clear HN1 HP1 HT1 HFIT HW HK1
 generalize isSg nm=SN at *
 generalize hasN ah nm=HH at *
 generalize cdOk cd ah=CD at *
 cases SN with
 |false=>
  obtain rfl:R=false:=by rw[uQ HR];rfl
  clear HR
  go_wp2
  go_ret
  exact ⟨rfl,uQ HB1⟩
 |true=>
  cases HH with
  |true=>
   obtain rfl:R=false:=by rw[uQ HR];rfl
   clear HR
   go_wp2_with fail
   refine (uQ CT).mono ?_
   rintro e w2 ⟨rfl,rfl⟩
   clear CT
   go_wp2
   go_ret
   exact ⟨rfl,uQ HB1⟩
  |false=>
   unfold hwOk at HR
   by_cases h0:hw<0
   ·have gd:decide (0<=hw)=false:=zK (by omega)
    obtain rfl:R=false:=by rw[uQ HR,gd];rfl
    have g0:(hw<0)=True:=by simp;omega
    clear gd IC HR
    go_wp2_with fail
    refine (uQ CT).mono ?_
    rintro e w2 ⟨rfl,rfl⟩
    clear CT
    go_wp2
    go_ret
    exact ⟨rfl,uQ HB1⟩
   ·have gd:decide (0<=hw)=true:=decide_eq_true (by omega)
    have g0:(hw<0)=False:=by simp;omega
    by_cases h3:3<hw
    ·have gd3:decide (hw<=3)=false:=zK (by omega)
     obtain rfl:R=false:=by rw[uQ HR,gd,gd3];rfl
     have g3:((3:Int)<hw)=True:=by simp;omega
     clear gd gd3 IC HR
     go_wp2_with fail
     refine (uQ CT).mono ?_
     rintro e w2 ⟨rfl,rfl⟩
     clear CT
     go_wp2
     go_ret
     exact ⟨rfl,uQ HB1⟩
    ·have gd3:decide (hw<=3)=true:=decide_eq_true (by omega)
     have g3:((3:Int)<hw)=False:=by simp;omega
     have HR2:Hid (R=((decide (hw=0)==decide (ah.length=0)) && CD)):=hZq (by rw[uQ HR,gd,gd3];rfl)
     clear gd gd3 h0 h3 HR
     generalize decide (hw=0)=X at *
     generalize decide (ah.length=0)=Y at *
     by_cases hXY:X=Y
     ·subst hXY
      obtain rfl:R=CD:=by rw[uQ HR2];cases X <;> rfl
      clear HR2
      cases X
      all_goals
       go_wp2_with fail
       refine (uQ CT).mono ?_
       rintro e w2 ⟨rfl,rfl⟩
       clear CT
       go_wp2_with fail
       refine (uQ IC).mono ?_
       rintro e w3 ⟨rfl,hb3⟩
       have HB3:=hZq ((uQ HB1).trans (hb3.mono (uQ HB1).size))
       clear IC hb3
       go_wp2
       go_ret
       exact ⟨rfl,uQ HB3⟩
     ·obtain rfl:R=false:=by rw[uQ HR2];revert hXY;cases X <;> cases Y <;> simp
      clear HR2 IC
      cases X <;> cases Y
      all_goals
       first
        |exact absurd rfl hXY
        |(clear hXY
          go_wp2_with fail
          refine (uQ CT).mono ?_
          rintro e w2 ⟨rfl,rfl⟩
          clear CT
          go_wp2
          go_ret
          try exact ⟨rfl,uQ HB1⟩)
structure SR where
 s:Stg
 ad:Option Addr
 c:Nat
def stgs (l:List SR):List Stg:=l.map (·.s)
def StsAt (w:World)(ad:Option Addr)(l:List SR):Prop:=l≠[]-> ∃b off,ad=some ⟨b,off,none⟩/\b<w.heap.size/\ ∀i (h:i<l.length),w.cell? ⟨b,off+i * 4,none⟩=some (.string l[i].s.nm)/\w.cell? ⟨b,off+i * 4+1,none⟩=some (.int .i64 l[i].s.hw)/\w.cell? ⟨b,off+i * 4+2,none⟩=some (.bool l[i].s.mn)/\w.cell? ⟨b,off+i * 4+3,none⟩=some (.slice l[i].ad l[i].s.cd.length l[i].c)/\PtsAt w l[i].ad l[i].s.cd
theorem StsAt.kp {w w':World}{ad:Option Addr}{l:List SR}(h:StsAt w ad l)(hk:Kp [] w w'):StsAt w' ad l:=fun hl=>by
 obtain ⟨b,off,e,hlt,hc⟩:=h hl
 refine ⟨b,off,e,Nat.lt_of_lt_of_le hlt hk.size,fun i hi=>?_⟩
 obtain ⟨c0,c1,c2,c3,c4⟩:=hc i hi
 exact ⟨hk.cell c0 (by simp),hk.cell c1 (by simp),hk.cell c2 (by simp),hk.cell c3 (by simp),c4.kp hk⟩
theorem StsAt.at {w:World}{ad:Option Addr}{l:List SR}(h:StsAt w ad l)(i:Nat)(hi:i<l.length): ∃b off,ad=some ⟨b,off,none⟩/\b<w.heap.size/\w.cell? ⟨b,off+i * 4,none⟩=some (.string l[i].s.nm)/\w.cell? ⟨b,off+i * 4+1,none⟩=some (.int .i64 l[i].s.hw)/\w.cell? ⟨b,off+i * 4+2,none⟩=some (.bool l[i].s.mn)/\w.cell? ⟨b,off+i * 4+3,none⟩=some (.slice l[i].ad l[i].s.cd.length l[i].c)/\PtsAt w l[i].ad l[i].s.cd:=by
 obtain ⟨b,off,e,hlt,hc⟩:=h (fun e=>by rw[e]at hi;simp at hi)
 exact ⟨b,off,e,hlt,hc i hi⟩
def Stg.ok (s:Stg):Prop:=s.nm.size<=9223372036854775807/\(-9223372036854775808<=s.hw/\s.hw<=9223372036854775807)/\ ∀p∈s.cd,p.ok
theorem q0L {l:List SR}{i:Nat}(h:i<l.length):(stgs l)[i]'(by unfold stgs;rw[zI];exact h)=l[i].s:=by
 unfold stgs
 rw[List.getElem_map]
theorem q02 (l:List SR):(stgs l).length=l.length:=by unfold stgs;rw[zI]
theorem qa2 {w W:World}{a b:Value}{t:TypeId}(hk:Kp [] (w.alloc (.cells #[a,b] t)) W):W.cell? ⟨w.heap.size,0,none⟩=some a/\W.cell? ⟨w.heap.size,1,none⟩=some b/\w.heap.size<W.heap.size:=by
 have h:=(CBox.new w #[a,b] t).kp hk (by simp)
 exact ⟨h.cell rfl,h.cell rfl,by have:=hk.size;simp at this;omega⟩
theorem q1O (sa:Option Addr)(sc:Nat)(l:List SR)(wi:Int)(w:World)(h:StsAt w sa l)(hT:TbE w)(hok: ∀r∈l,r.s.ok)(hl:l.length<=9223372036854775807):
  Calls Tryz.prog 32 #[.agg #[.slice sa l.length sc, .int .i64 wi]] w fun e w'=>e= .returned (.tuple #[.int .i64 (pcR ⟨stgs l,wi⟩).1, .int .i64 (pcR ⟨stgs l,wi⟩).2])/\Below w.heap.size w w':=by
 have b0:=(Below.refl w.heap.size w).alloc (zM _) (.cells #[.slice sa l.length sc, .int .i64 wi] 24)
 have HPC:Hid (∀W,Kp [] (w.alloc (.cells #[.slice sa l.length sc, .int .i64 wi] 24)) W->W.cell? ⟨w.heap.size,0,none⟩=some (.slice sa l.length sc)/\W.cell? ⟨w.heap.size,1,none⟩=some (.int .i64 wi)/\w.heap.size<W.heap.size):=hZq (fun W hk=>qa2 hk)
 have HB0:=hZq b0
 by_cases hn:l.length<1\/8<l.length
 ·have hp:pcR ⟨stgs l,wi⟩=(0,120):=by unfold pcR;rw[if_pos (by dsimp only;rw[q02];exact hn)]
  rw[hp]
  obtain ⟨c0,c1,_⟩:=uQ HPC _ (Kp.refl _ _)
  clear h hT hok hp b0
  rcases hn with hn|hn
  ·have g1:((l.length:Int)<1)=True:=by simp;omega
   go_enter Tryz.func32,Tryz.ntmps32
   go_wp2
   exact bodyPost_ret (results_tmp2 rfl _ _ _) rfl ⟨rfl,uQ HB0⟩
  ·have g1:((l.length:Int)<1)=False:=by simp;omega
   have g2:((8:Int)<(l.length:Int))=True:=by simp;omega
   go_enter Tryz.func32,Tryz.ntmps32
   go_wp2
   exact bodyPost_ret (results_tmp2 rfl _ _ _) rfl ⟨rfl,uQ HB0⟩
 ·have hp:pcR ⟨stgs l,wi⟩=match bad1 (stgs l) [] 0 with|some i=>((i:Int),120)|none=>if wiOk wi then (0,0) else ((l.length:Int),120):=by
   unfold pcR
   rw[if_neg (by dsimp only;rw[q02];exact hn)]
   dsimp only
   rw[q02]
   rfl
  rw[hp]
  have g1:((l.length:Int)<1)=False:=by simp;omega
  have g2:((8:Int)<(l.length:Int))=False:=by simp;omega
  have hl8:l.length<=8:=by omega
  obtain ⟨c0,c1,hlt0⟩:=uQ HPC _ (Kp.refl _ _)
  have HST:=hZq h
  have HTB:=hZq hT
  have HOK:=hZq hok
  have HNX:Hid (∀k (hk:k<l.length),bad1 ((stgs l).drop k) (q00 ((stgs l).take k)) k=if stOk l[k].s (q00 ((stgs l).take k)) then bad1 ((stgs l).drop (k+1)) (q00 ((stgs l).take (k+1))) (k+1) else some k):=hZq (fun k hk=>by
   have:=q94 (l:=stgs l) (k:=k) (by rw[q02];exact hk)
   rw[q0L hk]at this
   exact this)
  have HNM:Hid (∀k (hk:k<l.length),q00 ((stgs l).take (k+1))=q00 ((stgs l).take k)++[l[k].s.nm]):=hZq (fun k hk=>by
   have:=q49 (l:=stgs l) (k:=k) (by rw[q02];exact hk)
   rw[q0L hk]at this
   exact this)
  have HNL:Hid (∀k,k<=l.length->(q00 ((stgs l).take k)).length=k):=hZq (fun k hk=>by rw[q0F,zL,q02];omega)
  have HEN:Hid (bad1 ((stgs l).drop l.length) (q00 ((stgs l).take l.length)) l.length=none):=hZq (by have:=qaI (stgs l);rwa [q02]at this)
  obtain ⟨R,hR⟩: ∃R,bad1 (stgs l) [] 0=R:=⟨_,rfl⟩
  have HR0:Hid (R=bad1 ((stgs l).drop 0) (q00 ((stgs l).take 0)) 0):=hZq (by rw[<-hR];rfl)
  rw[hR]
  obtain ⟨P,hP⟩: ∃P,(match R with|some i=>((i:Int),(120:Int))|none=>if wiOk wi then (0,0) else ((l.length:Int),120))=P:=⟨_,rfl⟩
  have HPS:Hid (∀i,R=some i->P.1=(i:Int)/\P.2=120):=hZq (fun i e=>by rw[<-hP,e];exact ⟨rfl,rfl⟩)
  have HPN:Hid (R=none->P=if wiOk wi then (0,0) else ((l.length:Int),120)):=hZq (fun e=>by rw[<-hP,e])
  rw[hP]
  obtain ⟨PA,PC⟩:=P
  dsimp only at HPS ⊢
  clear hP hR h hT hok hp b0 hn
  obtain ⟨n,hn⟩: ∃n,l.length=n:=⟨_,rfl⟩
  have HN:=hZq hn
  rw[hn]at g1 g2 hl8 HEN HPC HB0 c0 c1 hlt0 HNL HPN ⊢
  clear hn hl
  obtain ⟨i0,hi,hz0,hz1,hz2⟩:=info_parts q5V
  obtain ⟨w1,hmk,how,hgr⟩:=run_make_own (P:=Tryz.prog) (w.alloc (.cells #[.slice sa n sc, .int .i64 wi] 24)) (w.heap.size+1) 102 9 i0 (.string ⟨#[]⟩) 1 Tryz.underlying102 hi hz0 hz1 .i64 .i64 8 (by rw[hz2];decide) (by decide) (by simp)
  have k1:Kp [] (w.alloc (.cells #[.slice sa n sc, .int .i64 wi] 24)) w1:=Kp.of hgr
  have HK1:=hZq k1
  have HB1:=hZq ((uQ HB0).trans (k1.below (uQ HB0).size (by simp)))
  have HOW:Hid (OwnsW (w.heap.size+1) w1 (.slice (some ⟨(w.alloc (.cells #[.slice sa n sc, .int .i64 wi] 24)).heap.size,0,none⟩) 0 8) []):=hZq how
  have hw1:(w.alloc (.cells #[.slice sa n sc, .int .i64 wi] 24)).heap.size=w.heap.size+1:=by simp
  rw[hw1]at hmk HOW
  have hmk':(Instr.makeSlice 102 (.int .i64 0) (.int .i64 8)).run Tryz.prog (w.alloc (.cells #[.slice sa n sc, .int .i64 wi] 24))= .ok (.slice (some ⟨w.heap.size+1,0,none⟩) 0 8) w1:=hmk
  obtain ⟨d0,d1,hlt1⟩:=uQ HPC w1 k1
  clear hi hz0 hz1 hz2 how hgr k1 hmk hw1 i0 HB0
  go_enter Tryz.func32,Tryz.ntmps32
  go_wp2_with fail
  go_loopw [4,21] (fun v i wr=> ∃(k:Nat) (g c:Nat),k<=n/\i= .int .i64 (k:Int)/\v= .slice (some ⟨g,0,none⟩) k c/\Hid (OwnsW (w.heap.size+1) wr (.slice (some ⟨g,0,none⟩) k c) (q00 ((stgs l).take k)))/\Hid (Kp [] (w.alloc (.cells #[.slice sa n sc, .int .i64 wi] 24)) wr/\Below w.heap.size w wr)/\Hid (R=bad1 ((stgs l).drop k) (q00 ((stgs l).take k)) k)) (fun _ i _=>n-(intOf i).toNat)
  case atStart=>exact ⟨0,w.heap.size+1,8,Nat.zero_le _,rfl,rfl,HOW,hZq ⟨uQ HK1,uQ HB1⟩,HR0⟩
  case round=>
   obtain ⟨k,g,c,hk,rfl,rfl,HO,HKB,HRR⟩:=hrel
   clear HOW HK1 HB1 HR0 d0 d1 c0 c1 hmk'
   by_cases hlt:k<n
   ·have hkx:k<l.length:=by rw[uQ HN];exact hlt
    have hli:(k:Int)<(n:Int):=by omega
    have kw:Kp [] w wr:=(Kp.alloc w (.cells #[.slice sa n sc, .int .i64 wi] 24)).trans (uQ HKB).1 (by simp)
    obtain ⟨b,off,rfl,hbl,x0,x1,x2,x3,hpts⟩:=((uQ HST).kp kw).at k hkx
    have hnl:=uQ HNL k (by omega)
    have HX:=hZq (uQ HNX k hkx)
    have HNX2:=hZq (uQ HNM k hkx)
    have hok1:=uQ HOK _ (zJ hkx)
    obtain ⟨a',c',hv,hnm,_⟩:=(uQ HO).at
    injection hv with e1 e2 e3
    subst e1 e3
    have kst:=Kp.alloc wr (.cells (stV l[k].s l[k].ad l[k].c) 88)
    have hTr:=(uQ HTB).kp kw (by simp)
    have MF:=q5l l[k].s l[k].ad (some ⟨g,0,none⟩) l[k].c c (q00 ((stgs l).take k)) _ (hpts.kp kst) (hnm.kp kst (by simp)) (by omega) (hTr.kp kst (by simp)) (fun p hp=>(hok1.2.2 p hp).2.2.2.1) hok1.1
    rw[hnl]at MF
    have HMF:=hZq MF
    have HKS:=hZq kst
    have HL8:Hid ((q00 ((stgs l).take k)).length=k):=hZq hnl
    clear hpts MF kst hnl hok1 hnm e2 hTr kw HNX HNM HNL HOK HTB HST
    generalize l[k].s=s at *
    generalize l[k].ad=ad at *
    generalize l[k].c=cc at *
    generalize q00 ((stgs l).take k)=AH at *
    obtain ⟨nm,hw,mn,cd⟩:=s
    unfold stV at HMF HKS
    dsimp only at x0 x1 x2 x3 HMF HKS HX HNX2
    generalize stOk ⟨nm,hw,mn,cd⟩ AH=SO at *
    generalize cd.length=CL at *
    have bx:=CBox.new wr #[.string nm, .int .i64 hw, .bool mn, .slice ad CL cc] 88
    have z0:=bx.cell (i:=0) (v:= .string nm) rfl
    have z1:=bx.cell (i:=1) (v:= .int .i64 hw) rfl
    have z2:=bx.cell (i:=2) (v:= .bool mn) rfl
    have z3:=bx.cell (i:=3) (v:= .slice ad CL cc) rfl
    go_wp2_with fail
    refine (uQ HMF).mono ?_
    rintro e w3 ⟨rfl,hb3⟩
    have k3:=(uQ HKS).trans (Kp.ofBelow hb3) (by simp)
    have y0:=(bx.kp (Kp.ofBelow hb3) (by simp)).cell (i:=0) (v:= .string nm) rfl
    have HB3:=hZq ((uQ HKB).2.trans (k3.below (uQ HKB).2.size (by simp)))
    have HK3:=hZq ((uQ HKB).1.trans k3 (by simp))
    have HO3:=hZq ((uQ HO).kp k3)
    have hlt3:wr.heap.size<w3.heap.size:=by have:=hb3.size;simp at this;omega
    clear HMF hb3 k3 HKS HKB HO bx z0 z1 z2 z3 x0 x1 x2 x3
    cases SO with
    |false=>
     obtain ⟨rfl,rfl⟩:=uQ HPS k (by rw[uQ HRR,uQ HX];rfl)
     clear HX HRR HNX2
     dsimp only
     go_wp2
     exact bodyPost_ret (results_tmp2 rfl _ _ _) rfl ⟨rfl,uQ HB3⟩
    |true=>
     have HR2:Hid (R=bad1 ((stgs l).drop (k+1)) (q00 ((stgs l).take (k+1))) (k+1)):=hZq (by rw[uQ HRR,uQ HX];rfl)
     have k6:=Kp.alloc w3 (.cells #[.string nm] 9)
     have hb6:=(uQ HB3).trans (k6.below (uQ HB3).size (by simp))
     obtain ⟨g',cap',w',hrun,hO',hbw,hgw⟩:=OwnsW.app (c:=1) ((uQ HO3).kp k6) (by have:=(uQ HK3).size;simp at this ⊢;omega) nm (g:=w3.heap.size) ((CBox.new w3 _ _).cell rfl) (by rw[uQ HL8];omega) 102
     rw[uQ HL8]at hrun hO'
     rw[<-uQ HNX2]at hO'
     have HRUN:=hZq hrun
     have HO':=hZq hO'
     have hgg:w.heap.size+1<=g:=(World.ownsRow.lt (uQ HO3) g rfl).1
     have HKB':Hid (Kp [] (w.alloc (.cells #[.slice (some ⟨b,off,none⟩) n sc, .int .i64 wi] 24)) w'/\Below w.heap.size w w'):=hZq ⟨((uQ HK3).trans k6 (by simp)).trans (Kp.of hgw) (fun x hx=>Or.inr (by simp[Value.ownBlock]at hx;simp;omega)),hb6.trans (hbw.mono (by omega))⟩
     clear hrun hO' hbw hb6 k6 hgw HX HRR
     dsimp only
     go_wp2_with (at_builtin;refine q0g rfl _ _ _ rfl rfl rfl (uQ HRUN) ?_)
     go_roundw
     case rel=>exact ⟨k+1,g',cap',by omega,by go_num,rfl,HO',HKB',HR2⟩
     case measure=>simp[intOf];omega
   ·obtain rfl:k=n:=by omega
    have hP:=uQ HPN (by rw[uQ HRR];exact uQ HEN)
    obtain ⟨e0,e1,hltw⟩:=uQ HPC wr (uQ HKB).1
    have HB:=hZq (uQ HKB).2
    clear HRR HEN HNX HNM HNL HO HKB HOK HTB HST HPN HPS
    unfold wiOk at hP
    by_cases h1:wi<1
    ·have gd:decide (1<=wi)=false:=zK (by omega)
     rw[gd,Bool.false_and,if_neg (by simp)]at hP
     obtain ⟨rfl,rfl⟩:=Prod.mk.inj hP
     have g1:(wi<1)=True:=by simp;omega
     clear hP gd
     go_wp2
     exact bodyPost_ret (results_tmp2 rfl _ _ _) rfl ⟨rfl,uQ HB⟩
    ·have gd:decide (1<=wi)=true:=decide_eq_true (by omega)
     rw[gd,Bool.true_and]at hP
     have g1:(wi<1)=False:=by simp;omega
     by_cases h2:256<wi
     ·rw[zK (by omega: ¬ wi<=256),if_neg (by simp)]at hP
      obtain ⟨rfl,rfl⟩:=Prod.mk.inj hP
      have g2:((256:Int)<wi)=True:=by simp;omega
      clear hP gd
      go_wp2
      exact bodyPost_ret (results_tmp2 rfl _ _ _) rfl ⟨rfl,uQ HB⟩
     ·rw[decide_eq_true (by omega:wi<=256),if_pos rfl]at hP
      obtain ⟨rfl,rfl⟩:=Prod.mk.inj hP
      have g2:((256:Int)<wi)=False:=by simp;omega
      clear hP gd
      go_wp2
      exact bodyPost_ret (results_tmp2 rfl _ _ _) rfl ⟨rfl,uQ HB⟩
structure HK where
 wB:World
 w0:World
 F0:List Nat
 gt:Nat
 sa:Option Addr
 sc:Nat
 l:List SR
 wi:Int
 ea:Option Addr
 ec:Nat
 es:List Ev
 an:Option Addr
 cn:Nat
def HK.p (k:HK):Ptn:=⟨stgs k.l,k.wi⟩
def HK.P (k:HK):Mt.Pm:=Mt.pm k.p k.es
structure HkI (k:HK):Prop where
 st:StsAt k.wB k.sa k.l
 ev:EvsAt k.wB k.ea k.es
 tb:TbE k.wB
 nm:NmsAt k.w0 k.an (q00 (stgs k.l))
 nf: ∀b off,k.an=some ⟨b,off,none⟩->b∉k.F0
 b0:Kp [] k.wB k.w0
 f0: ∀x∈k.F0,k.wB.heap.size<=x
 gf:k.gt∈k.F0
 ft: ∀r∈k.l, ∀q∈r.s.cd,q.fit
 l8:k.l.length<=8
 el:k.es.length<=4096
 cn:k.l.length<=k.cn
 cx:k.cn<=9223372036854775807
def hkC (k:HK)(pv lv:Value):Array Value:=#[.slice k.sa k.l.length k.sc, .int .i64 k.wi, .slice k.ea k.es.length k.ec, .slice k.an k.l.length k.cn,pv,lv]
def hkL (k:HK)(T:List (List Nat)):List Ev:=Mt.lasE k.es (Mt.las T T.length)
structure HkS (k:HK)(w:World)(T:List (List Nat))(L:List Ev)(pv lv:Value)(vs:List Value):Prop where
 box:CBox k.gt (hkC k pv lv) 113 w
 pl:PlS w pv vs T
 la:OwnsX 0 w lv L
 kp:Kp k.F0 k.w0 w
 lo: ∀x∈plB pv vs++lv.ownBlock.toList,k.w0.heap.size<=x
def hkF (k:HK)(pv lv:Value)(vs:List Value):List Nat:=k.gt::(plB pv vs++lv.ownBlock.toList)
theorem HkS.go {k:HK}{w w':World}{T:List (List Nat)}{L:List Ev}{pv lv:Value}{vs:List Value}{F:List Nat}(h:HkS k w T L pv lv vs)(hk:Kp F w w')(hF: ∀x∈hkF k pv lv vs,x∉F)(hF0: ∀x∈F,x∈k.F0\/k.w0.heap.size<=x):HkS k w' T L pv lv vs:=by
 refine ⟨h.box.kp hk (hF _ (by unfold hkF;simp)),h.pl.kp hk (fun x hx=>hF x (by unfold hkF;simp[hx])),q03 h.la hk (fun x hx=>hF x (by unfold hkF;simp[hx])),h.kp.trans hk hF0,h.lo⟩
theorem HkS.al {k:HK}{w w':World}{T:List (List Nat)}{L:List Ev}{pv lv:Value}{vs:List Value}(h:HkS k w T L pv lv vs)(hk:Kp [] w w'):HkS k w' T L pv lv vs:=h.go hk (by simp) (by simp)
theorem HkS.kb {k:HK}{w:World}{T:List (List Nat)}{L:List Ev}{pv lv:Value}{vs:List Value}(h:HkS k w T L pv lv vs)(hI:HkI k):Kp [] k.wB w:=hI.b0.trans h.kp (fun x hx=>Or.inr (hI.f0 x hx))
theorem q61 (T:List (List Nat)):(Mt.las T T.length).length=T.length:=Mt.las_len (zM _)
theorem q3J (es:List Ev)(L:List Nat):(Mt.lasE es L).length=L.length:=by unfold Mt.lasE;rw[zI]
theorem q2J {w:World}{u:Value}{l:List Nat}(h:IRo w u (l.map Int.ofNat))(h0:l≠[]): ∃g cap,u= .slice (some ⟨g,0,none⟩) l.length cap/\l.length<=cap/\cap<=maxLen/\w.cell? ⟨g,l.length-1,none⟩=some (.int .i64 (Mt.lst l:Int)):=by
 have hp:=List.length_pos_iff.2 h0
 have hlen:(l.map Int.ofNat).length=l.length:=zI _
 obtain ⟨a,c,e,hat⟩:=h.at
 obtain ⟨_,⟨e2,h1⟩|⟨g,cap,cur,rfl,_,hh,hc,hm,_⟩⟩:=h
 ·rw[hlen]at h1;omega
 ·rw[hlen]at hc
  injection e with e1 e2 e3
  subst e1
  obtain ⟨b,off,eb,_,hcell⟩:=hat (fun e=>h0 (List.map_eq_nil_iff.1 e))
  cases eb
  refine ⟨g,cap,by rw[hlen],hc,hm,?_⟩
  have:=hcell (l.length-1) (by rw[hlen];omega)
  rw[Nat.zero_add]at this
  rw[this]
  simp only[List.getElem_map,Option.some.injEq,Value.int.injEq,true_and]
  show ((l[l.length-1]:Nat):Int)=_
  congr 1
  unfold Mt.lst
  rw[List.getLastD_eq_getLast?,List.getLast?_eq_getElem?,zE (by omega)]
  rfl
theorem q5a (k:HK)(w:World)(T:List (List Nat))(L:List Ev)(pv lv:Value)(vs:List Value)(h:HkS k w T L pv lv vs)(i:Nat)(l:List Nat)(hl:T[i]?=some l)(h0:l≠[])(hlb:l.length<=1000000):
  Calls Tryz.prog 112 #[.pointer (some ⟨k.gt,0,none⟩), .int .i64 (i:Int)] w fun e w'=>e= .returned (.int .i64 (Mt.lst l:Int))/\w'=w:=by
 obtain ⟨u,hu,hiu⟩:=h.pl.at hl
 have hiT:i<T.length:=(zC.1 hl).1
 obtain ⟨g2,c2,rfl,hc2,_,hlast⟩:=q2J hiu h0
 have c4:w.cell? ⟨k.gt,4,none⟩=some pv:=h.box.cell rfl
 rcases h.pl.form with ⟨_,e⟩|⟨g,cap,rfl,hcap,_⟩
 ·rw[e]at hiT;simp at hiT
 have c5:=h.pl.cell hu
 have hp:=List.length_pos_iff.2 h0
 obtain ⟨m,hm⟩: ∃m,l.length=m+1:=⟨l.length-1,by omega⟩
 rw[hm,Nat.add_sub_cancel]at hlast
 rw[hm]at hlb hc2 c5
 clear h hiu hu hl h0 hp hm
 have g1:(i:Int)<(T.length:Int):=by omega
 generalize T.length=n at *
 generalize Mt.lst l=q at *
 go_enter Tryz.func112,Tryz.ntmps112
 go_wp2
 go_ret
 exact ⟨rfl,rfl⟩
theorem q11 {P:Program}{ops:Array Oper}{o:Oper}{a:Act}{w w':World}{K:Act->World->Prop}{Q:Exit->Act->World->Prop}{E:Prop}{v y r:Value}
  (hg:o.guard=none) (s x:Operand) (t:TypeId) (hop:o.op=Op.call { callee:=Callee.builtin Builtin.append,args:=#[s,x],argTypes:=#[t,t] }) (hs:a.eval s=v) (hx:a.eval x=y)
  (hrun:(Builtin.append_ #[t,t] o.type #[v,y]).run P w= .ok r w') (hK:K (a.put o.dst r) w'):if Region.wanted o (yielded ops a.tmps)=true then Oper.wp P o a w K Q else E:=by
 have hw:Region.wanted o (yielded ops a.tmps)=true:=by simp[Region.wanted,hg]
 rw[if_pos hw]
 unfold Oper.wp
 simp[execOp,hop,resolve,invoke,builtin,hs,hx,hrun,Result.andThen]
 exact hK
section
variable {B:Nat} {V W:World} {v u:Value} {ns:List ByteArray} {es:List Ev}
end
theorem OwnsX.app2 {w:World}{v:Value}{l:List Ev}(ho:OwnsX 0 w v l)(e:Ev){g c:Nat}(hc:CBox g e.c 30 w)(hl:l.length+1<=1000000)(ty:TypeId):
  ∃g' cap w',(Builtin.append_ #[25,25] ty #[v, .slice (some ⟨g,0,none⟩) 1 c]).run Tryz.prog w= .ok (.slice (some ⟨g',0,none⟩) (l.length+1) cap) w'/\OwnsX 0 w' (.slice (some ⟨g',0,none⟩) (l.length+1) cap) (l++[e])/\Kp v.ownBlock.toList w w'/\(v.ownBlock=some g'\/w.heap.size<=g'):=by
 obtain ⟨i0,hi,hz0,hz1,hz2⟩:=info_parts q3H
 obtain ⟨g',cap,w',hrun,r1,r2,r3,_⟩:=run_append_lies (P:=Tryz.prog) (w:=w) 25 ty 0 30 i0 _ 7 80 Tryz.underlying25 hi hz0 hz1 hz2 rfl (by decide) v l.length (l.flatMap evW) ho ⟨g,0,none⟩ 1 c (evW e) rfl (fun j u hj=>by
  have:e.c[j]?=some u:=by
   rw[<-hj]
   unfold evW Ev.c
   simp
  rw[Go.WideShapes.add_plain,Nat.zero_add]
  exact hc.cell this) (by
   intro u hu
   unfold evW at hu
   simp only[zH,List.not_mem_nil,or_false]at hu
   rcases hu with rfl|rfl|rfl|rfl|rfl|rfl|rfl <;> rfl) (by omega) (by unfold maxLen;omega) (by omega) (Nat.zero_le _) _ rfl
 refine ⟨g',cap,w',hrun,?_,Kp.of r2,r3.imp_right (fun e=>by omega)⟩
 unfold OwnsX
 rw[zF,List.flatMap_append]
 simpa using r1
theorem q1s (L:List Ev):(L.flatMap evW).length=L.length * 7:=by
 induction L with
 |nil=>rfl
 |cons a l ih=>rw[List.flatMap_cons,zF,ih,q1i,List.length_cons];omega
theorem q9o (L:List Ev)(i:Nat)(h:i<L.length)(e:Ev):(((((((L.flatMap evW).set (i * 7) (.string e.k)).set (i * 7+1) (.string e.t)).set (i * 7+2) (.int .i64 e.n0)).set (i * 7+3) (.int .i64 e.n1)).set (i * 7+4) (.int .i64 e.n2)).set (i * 7+5) (.int .i64 e.n3)).set (i * 7+6) (.string e.x)=(L.set i e).flatMap evW:=by
 have e1:L=L.take i++L[i]::L.drop (i+1):=by rw[List.getElem_cons_drop,List.take_append_drop]
 have hl:(L.take i).length=i:=by rw[zL];omega
 have e2:L.set i e=L.take i++e::L.drop (i+1):=by rw[List.set_eq_take_append_cons_drop,if_pos h]
 rw[e2]
 conv=>lhs;rw[e1]
 rw[List.flatMap_append,List.flatMap_append,List.flatMap_cons,List.flatMap_cons]
 have hA:((L.take i).flatMap evW).length=i * 7:=by rw[q1s,hl]
 generalize (L.take i).flatMap evW=A at *
 generalize (L.drop (i+1)).flatMap evW=B at *
 generalize L[i]=x at *
 rw[<-hA]
 have key: ∀(X:List Value) (j:Nat) (u:Value),(A++X).set (A.length+j) u=A++X.set j u:=fun X j u=>by
  rw[List.set_append_right _ _ (by omega)]
  congr 2
  omega
 have key0: ∀(X:List Value) (u:Value),(A++X).set A.length u=A++X.set 0 u:=fun X u=>key X 0 u
 rw[key0,key,key,key,key,key,key]
 unfold evW
 simp
theorem OwnsX.put7 {w:World}{g n cap:Nat}{L:List Ev}(h:OwnsX 0 w (.slice (some ⟨g,0,none⟩) n cap) L)(i:Nat)(hi:i<L.length)(e:Ev):
  OwnsX 0 (((((((w.setCell ⟨g,i * 7,none⟩ (.string e.k)).setCell ⟨g,i * 7+1,none⟩ (.string e.t)).setCell ⟨g,i * 7+2,none⟩ (.int .i64 e.n0)).setCell ⟨g,i * 7+3,none⟩ (.int .i64 e.n1)).setCell ⟨g,i * 7+4,none⟩ (.int .i64 e.n2)).setCell ⟨g,i * 7+5,none⟩ (.int .i64 e.n3)).setCell ⟨g,i * 7+6,none⟩ (.string e.x)) (.slice (some ⟨g,0,none⟩) n cap) (L.set i e)/\
  Kp [g] w (((((((w.setCell ⟨g,i * 7,none⟩ (.string e.k)).setCell ⟨g,i * 7+1,none⟩ (.string e.t)).setCell ⟨g,i * 7+2,none⟩ (.int .i64 e.n0)).setCell ⟨g,i * 7+3,none⟩ (.int .i64 e.n1)).setCell ⟨g,i * 7+4,none⟩ (.int .i64 e.n2)).setCell ⟨g,i * 7+5,none⟩ (.int .i64 e.n3)).setCell ⟨g,i * 7+6,none⟩ (.string e.x)):=by
 have hn:n=L.length:=by
  obtain ⟨_,⟨e,_⟩|⟨g',cap',cur',e,_⟩⟩:=id h
  ·cases e
  ·injection e with _ e2 _
 subst hn
 have s1:=(World.ownsRow.stored h (i * 7) (.string e.k)).1
 have s2:=(World.ownsRow.stored s1 (i * 7+1) (.string e.t)).1
 have s3:=(World.ownsRow.stored s2 (i * 7+2) (.int .i64 e.n0)).1
 have s4:=(World.ownsRow.stored s3 (i * 7+3) (.int .i64 e.n1)).1
 have s5:=(World.ownsRow.stored s4 (i * 7+4) (.int .i64 e.n2)).1
 have s6:=(World.ownsRow.stored s5 (i * 7+5) (.int .i64 e.n3)).1
 have s7:=(World.ownsRow.stored s6 (i * 7+6) (.string e.x)).1
 rw[q9o L i hi e]at s7
 refine ⟨by unfold OwnsX;rw[List.length_set];exact s7,?_⟩
 have hs: ∀(W:World) (j:Nat) (u:Value),Kp [g] W (W.setCell ⟨g,j,none⟩ u):=fun W j u=>Kp.set W g j u
 exact ((((((hs _ _ _).trans (hs _ _ _) (by simp)).trans (hs _ _ _) (by simp)).trans (hs _ _ _) (by simp)).trans (hs _ _ _) (by simp)).trans (hs _ _ _) (by simp)).trans (hs _ _ _) (by simp)
section
variable {k:HK} {w:World} {T:List (List Nat)} {L:List Ev} {pv lv:Value} {vs:List Value}
theorem HkS.ne (h:HkS k w T L pv lv vs):k.gt∉plB pv vs++lv.ownBlock.toList:=fun hm=>by
 rw[zG,mem_plB]at hm
 rcases hm with (hm|⟨u,hu,hm⟩)|hm
 ·exact q0d h.pl.row h.box (by decide) hm
 ·obtain ⟨i,hi,rfl⟩:=List.getElem_of_mem hu
  exact q0d (h.pl.ins.2 i _ _ (zE hi) (zE (by rw[<-h.pl.ins.1];exact hi))) h.box (by decide) hm
 ·exact q0d h.la h.box (by decide) (by simpa using hm)
theorem HkS.ne2 (h:HkS k w T L pv lv vs): ∀x∈lv.ownBlock.toList,x∉plB pv vs:=fun x hx hm=>by
 have hx':lv.ownBlock=some x:=by simpa using hx
 rw[mem_plB]at hm
 rcases hm with hm|⟨u,hu,hm⟩
 ·exact q2B h.la h.pl.row (by decide) x hx' (by rw[hm];simp)
 ·obtain ⟨i,hi,rfl⟩:=List.getElem_of_mem hu
  exact q2B h.la (h.pl.ins.2 i _ _ (zE hi) (zE (by rw[<-h.pl.ins.1];exact hi))) (by decide) x hx' (by rw[hm];simp)
structure HkN (k:HK)(w:World)(F:List Nat)(T':List (List Nat))(L':List Ev)(pv' lv':Value)(vs':List Value)(w':World):Prop where
 s:HkS k w' T' L' pv' lv' vs'
 kp:Kp F w w'
 nw: ∀x∈hkF k pv' lv' vs',x∈F\/w.heap.size<=x
theorem HkN.trans {F:List Nat}{w1 w2:World}{T1 T2:List (List Nat)}{L1 L2:List Ev}{p1 l1 p2 l2:Value}{v1 v2:List Value}(h:HkN k w F T1 L1 p1 l1 v1 w1)(h2:HkN k w1 (hkF k p1 l1 v1) T2 L2 p2 l2 v2 w2):HkN k w F T2 L2 p2 l2 v2 w2:=by
 have hs:=h.kp.size
 exact ⟨h2.s,h.kp.trans h2.kp h.nw,fun x hx=>(h2.nw x hx).elim (h.nw x) (fun e=>Or.inr (by omega))⟩
theorem HkS.next (h:HkS k w T L pv lv vs)(hI:HkI k){w':World}{T':List (List Nat)}{L':List Ev}{pv' lv':Value}{vs':List Value}(hp:PlS w' pv' vs' T')(hb:CBox k.gt (hkC k pv' lv') 113 w')(hl:OwnsX 0 w' lv' L')(hk:Kp (hkF k pv lv vs) w w')(hn: ∀x∈plB pv' vs'++lv'.ownBlock.toList,x∈plB pv vs++lv.ownBlock.toList\/w.heap.size<=x):HkN k w (hkF k pv lv vs) T' L' pv' lv' vs' w':=by
 have hz:=h.kp.size
 refine ⟨⟨hb,hp,hl,h.kp.trans hk (fun x hx=>?_),fun x hx=>(hn x hx).elim (h.lo x) (fun e=>by omega)⟩,hk,fun x hx=>?_⟩
 ·unfold hkF at hx
  rw[zH]at hx
  rcases hx with rfl|hx
  ·exact Or.inl hI.gf
  ·exact Or.inr (h.lo x hx)
 ·unfold hkF at hx ⊢
  rw[zH]at hx
  rcases hx with rfl|hx
  ·exact Or.inl (by simp)
  ·exact (hn x hx).imp_left (fun e=>List.mem_cons_of_mem _ e)
theorem HkS.gtlt (h:HkS k w T L pv lv vs):k.gt<w.heap.size:=(zB.1 h.box).1
theorem HkS.mono1 {F:List Nat}{w1 w2:World}(h:Kp F w w1)(g:Kp F w1 w2):Kp F w w2:=h.trans g (fun _ hx=>Or.inl hx)
theorem HkS.grow (h:HkS k w T L pv lv vs)(hI:HkI k){Wa:World}(hka:Kp [] w Wa){gz c:Nat}(hz:CBox gz #[.slice none 0 0] 51 Wa)(hl:T.length+1<=1000000)(ty:TypeId):
  ∃g' cap w1,(Builtin.append_ #[26,26] ty #[pv, .slice (some ⟨gz,0,none⟩) 1 c]).run Tryz.prog Wa= .ok (.slice (some ⟨g',0,none⟩) (T.length+1) cap) w1/\CBox k.gt (hkC k pv lv) 113 w1/\
   HkN k w (hkF k pv lv vs) (T++[[]]) L (.slice (some ⟨g',0,none⟩) (T.length+1) cap) lv (vs++[.slice none 0 0]) (w1.setCell ⟨k.gt,4,none⟩ (.slice (some ⟨g',0,none⟩) (T.length+1) cap)):=by
 have ha:=h.al hka
 obtain ⟨g',cap,w1,hrun,hp,hk,hor⟩:=ha.pl.grow hz hl ty
 have hsz:=hka.size
 have hmem: ∀x∈plB (.slice (some ⟨g',0,none⟩) (T.length+1) cap) (vs++[.slice none 0 0]),x∈plB pv vs\/w.heap.size<=x:=fun x hx=>by
  rw[mem_plB]at hx
  rcases hx with hx|⟨u,hu,hx⟩
  ·simp[Value.ownBlock]at hx
   subst hx
   exact hor.imp (fun e=>mem_plB.2 (Or.inl e)) (fun e=>by omega)
  ·rw[zG,zD]at hu
   rcases hu with hu|rfl
   ·exact Or.inl (mem_plB.2 (Or.inr ⟨u,hu,hx⟩))
   ·cases hx
 have hgt:k.gt∉pv.ownBlock.toList:=fun hm=>ha.ne (by rw[zG];exact Or.inl (mem_plB.2 (Or.inl (by simpa using hm))))
 have hb1:=ha.box.kp hk hgt
 have hks:=Kp.set w1 k.gt 4 (.slice (some ⟨g',0,none⟩) (T.length+1) cap)
 have hlt:=h.gtlt
 refine ⟨g',cap,w1,hrun,hb1,h.next hI (hp.kp hks (fun x hx hm=>?_)) (hb1.set 4 _) (q03 (q03 ha.la hk (fun x hx hm=>?_)) hks (fun x hx hm=>?_)) ?_ (fun x hx=>?_)⟩
 ·rw[zD]at hm
  subst hm
  rcases hmem _ hx with hm|hm
  ·exact ha.ne (by rw[zG];exact Or.inl hm)
  ·omega
 ·exact ha.ne2 x (by rw[hx];simp) (mem_plB.2 (Or.inl (by simpa using hm)))
 ·rw[zD]at hm
  subst hm
  exact ha.ne (by rw[zG];exact Or.inr (by rw[hx];simp))
 ·refine HkS.mono1 (HkS.mono1 (hka.mono (by simp)) (hk.mono (G:=hkF k pv lv vs) (fun x hx=>?_))) (hks.mono (G:=hkF k pv lv vs) (fun x hx=>?_))
  ·unfold hkF
   rw[zH,zG]
   exact Or.inr (Or.inl (mem_plB.2 (Or.inl (by simpa using hx))))
  ·rw[zD]at hx
   unfold hkF
   rw[hx]
   simp
 ·rw[zG]at hx ⊢
  rcases hx with hx|hx
  ·exact (hmem x hx).imp_left Or.inl
  ·exact Or.inl (Or.inr hx)
theorem HkS.growL (h:HkS k w T L pv lv vs)(hI:HkI k){Wa:World}(hka:Kp [] w Wa)(e:Ev){gz c:Nat}(hz:CBox gz e.c 30 Wa)(hl:L.length+1<=1000000)(ty:TypeId):
  ∃g' cap w1,(Builtin.append_ #[25,25] ty #[lv, .slice (some ⟨gz,0,none⟩) 1 c]).run Tryz.prog Wa= .ok (.slice (some ⟨g',0,none⟩) (L.length+1) cap) w1/\CBox k.gt (hkC k pv lv) 113 w1/\
   HkN k w (hkF k pv lv vs) T (L++[e]) pv (.slice (some ⟨g',0,none⟩) (L.length+1) cap) vs (w1.setCell ⟨k.gt,5,none⟩ (.slice (some ⟨g',0,none⟩) (L.length+1) cap)):=by
 have ha:=h.al hka
 obtain ⟨g',cap,w1,hrun,hp,hk,hor⟩:=ha.la.app2 e hz hl ty
 have hsz:=hka.size
 have hgt:k.gt∉lv.ownBlock.toList:=fun hm=>ha.ne (by rw[zG];exact Or.inr hm)
 have hb1:=ha.box.kp hk hgt
 have hks:=Kp.set w1 k.gt 5 (.slice (some ⟨g',0,none⟩) (L.length+1) cap)
 have hlt:=h.gtlt
 refine ⟨g',cap,w1,hrun,hb1,h.next hI ((ha.pl.kp hk (fun x hx hm=>ha.ne2 x hm hx)).kp hks (fun x hx hm=>?_)) (hb1.set 5 _) (q03 hp hks (fun x hx hm=>?_)) ?_ (fun x hx=>?_)⟩
 ·rw[zD]at hm
  subst hm
  exact ha.ne (by rw[zG];exact Or.inl hx)
 ·rw[zD]at hm
  subst hm
  simp[Value.ownBlock]at hx
  rcases hor with hor|hor
  ·exact hgt (by rw[hor,hx];simp)
  ·omega
 ·refine HkS.mono1 (HkS.mono1 (hka.mono (by simp)) (hk.mono (G:=hkF k pv lv vs) (fun x hx=>?_))) (hks.mono (G:=hkF k pv lv vs) (fun x hx=>?_))
  ·unfold hkF
   rw[zH,zG]
   exact Or.inr (Or.inr hx)
  ·rw[zD]at hx
   unfold hkF
   rw[hx]
   simp
 ·rw[zG]at hx ⊢
  rcases hx with hx|hx
  ·exact Or.inl (Or.inl hx)
  ·simp[Value.ownBlock]at hx
   subst hx
   exact hor.imp (fun e=>Or.inr (by rw[e];simp)) (fun e=>by omega)
theorem HkS.more {g n cap:Nat}(h:HkS k w T L (.slice (some ⟨g,0,none⟩) n cap) lv vs)(hI:HkI k){Wa:World}(hka:Kp [] w Wa){t q:Nat}{u:Value}{l:List Nat}(hu:vs[t]?=some u)(hl:T[t]?=some l){gz c:Nat}(hz:CBox gz #[.int .i64 (q:Int)] 3 Wa)(hb:l.length+1<=1000000)(ty:TypeId):
  ∃g' cap' w1,(Builtin.append_ #[51,51] ty #[u, .slice (some ⟨gz,0,none⟩) 1 c]).run Tryz.prog Wa= .ok (.slice (some ⟨g',0,none⟩) (l.length+1) cap') w1/\CBox k.gt (hkC k (.slice (some ⟨g,0,none⟩) n cap) lv) 113 w1/\w1.cell? ⟨g,t,none⟩=some u/\w1.frozen? ⟨g,t,none⟩=false/\
   HkN k w (hkF k (.slice (some ⟨g,0,none⟩) n cap) lv vs) (T.set t (l++[q])) L (.slice (some ⟨g,0,none⟩) n cap) lv (vs.set t (.slice (some ⟨g',0,none⟩) (l.length+1) cap')) (w1.setCell ⟨g,t,none⟩ (.slice (some ⟨g',0,none⟩) (l.length+1) cap')):=by
 have ha:=h.al hka
 have hiu:IRo Wa u (l.map Int.ofNat):=ha.pl.ins.2 t u _ hu (q4n hl)
 have hll:(l.map Int.ofNat).length=l.length:=zI _
 obtain ⟨g',cap',w1,hrun,hi1,hk,hor⟩:=hiu.app (q:Int) hz (by rw[hll];exact hb) ty
 rw[hll]at hrun hi1
 have hi2:IRo w1 (.slice (some ⟨g',0,none⟩) (l.length+1) cap') ((l++[q]).map Int.ofNat):=by rw[List.map_append];exact hi1
 have hsz:=hka.size
 have hum: ∀x∈u.ownBlock.toList,x∈plB (.slice (some ⟨g,0,none⟩) n cap) vs:=fun x hx=>mem_plB.2 (Or.inr ⟨u,List.mem_of_getElem? hu,by simpa using hx⟩)
 have hgt:k.gt∉u.ownBlock.toList:=fun hm=>ha.ne (by rw[zG];exact Or.inl (hum _ hm))
 have hb1:=ha.box.kp hk hgt
 have hgm:g∈plB (.slice (some ⟨g,0,none⟩) n cap) vs:=mem_plB.2 (Or.inl rfl)
 have hp:=ha.pl.put hu hk hi2 (hor.elim (fun e=>Or.inl (by rw[e];rfl)) (fun e=>Or.inr ⟨g',rfl,e⟩))
 have hgu:g∉u.ownBlock.toList:=fun hm=>ha.pl.apart hiu rfl (by simpa using hm) rfl
 have hrow1:VRo w1 (.slice (some ⟨g,0,none⟩) n cap) vs:=ha.pl.row.kp hk (fun b hb hm=>by simp[Value.ownBlock]at hb;subst hb;exact hgu hm)
 obtain ⟨cur,hcur⟩:=hrow1.block (b:=g) rfl
 have hcell:w1.cell? ⟨g,t,none⟩=some u:=hk.cell (ha.pl.cell hu) hgu
 have hks:=Kp.set w1 g t (.slice (some ⟨g',0,none⟩) (l.length+1) cap')
 have hggt:g≠k.gt:=fun e=>ha.ne (by rw[<-e,zG];exact Or.inl hgm)
 refine ⟨g',cap',w1,hrun,hb1,hcell,CBox.froz (show CBox g cur 51 w1 from hcur) t,h.next hI hp (hb1.kp hks (by simpa using hggt.symm)) (q03 (q03 ha.la hk (fun x hx hm=>?_)) hks (fun x hx hm=>?_)) ?_ (fun x hx=>?_)⟩
 ·exact ha.ne2 x (by rw[hx];simp) (hum x hm)
 ·rw[zD]at hm
  subst hm
  exact ha.ne2 x (by rw[hx];simp) hgm
 ·refine HkS.mono1 (HkS.mono1 (hka.mono (by simp)) (hk.mono (G:=hkF k (.slice (some ⟨g,0,none⟩) n cap) lv vs) (fun x hx=>?_))) (hks.mono (G:=hkF k (.slice (some ⟨g,0,none⟩) n cap) lv vs) (fun x hx=>?_))
  ·unfold hkF
   rw[zH,zG]
   exact Or.inr (Or.inl (hum x hx))
  ·rw[zD]at hx
   unfold hkF
   rw[hx,zH,zG]
   exact Or.inr (Or.inl hgm)
 ·rw[zG]at hx ⊢
  rcases hx with hx|hx
  ·rw[mem_plB]at hx
   rcases hx with hx|⟨y,hy,hx⟩
   ·exact Or.inl (Or.inl (mem_plB.2 (Or.inl hx)))
   ·rcases List.mem_or_eq_of_mem_set hy with hy|rfl
    ·exact Or.inl (Or.inl (mem_plB.2 (Or.inr ⟨y,hy,hx⟩)))
    ·simp[Value.ownBlock]at hx
     subst hx
     exact hor.imp (fun e=>Or.inl (hum _ (by rw[e];simp))) (fun e=>by omega)
  ·exact Or.inl (Or.inr hx)
theorem HkS.last {g n cap:Nat}(h:HkS k w T L pv (.slice (some ⟨g,0,none⟩) n cap) vs)(hI:HkI k){Wa:World}(hka:Kp [] w Wa)(t:Nat)(ht:t<L.length)(e:Ev):
  HkN k w (hkF k pv (.slice (some ⟨g,0,none⟩) n cap) vs) T (L.set t e) pv (.slice (some ⟨g,0,none⟩) n cap) vs (((((((Wa.setCell ⟨g,t * 7,none⟩ (.string e.k)).setCell ⟨g,t * 7+1,none⟩ (.string e.t)).setCell ⟨g,t * 7+2,none⟩ (.int .i64 e.n0)).setCell ⟨g,t * 7+3,none⟩ (.int .i64 e.n1)).setCell ⟨g,t * 7+4,none⟩ (.int .i64 e.n2)).setCell ⟨g,t * 7+5,none⟩ (.int .i64 e.n3)).setCell ⟨g,t * 7+6,none⟩ (.string e.x)):=by
 have ha:=h.al hka
 obtain ⟨h1,h2⟩:=ha.la.put7 t ht e
 have hgm:g∈(Value.slice (some ⟨g,0,none⟩) n cap).ownBlock.toList:=by simp[Value.ownBlock]
 refine h.next hI (ha.pl.kp h2 (fun x hx hm=>?_)) (ha.box.kp h2 (fun hm=>?_)) h1 ?_ (fun x hx=>Or.inl hx)
 ·rw[zD]at hm
  subst hm
  exact ha.ne2 x hgm hx
 ·rw[zD]at hm
  exact ha.ne (by rw[hm,zG];exact Or.inr hgm)
 ·refine HkS.mono1 (hka.mono (by simp)) (h2.mono (G:=hkF k pv (.slice (some ⟨g,0,none⟩) n cap) vs) (fun x hx=>?_))
  rw[zD]at hx
  unfold hkF
  rw[hx,zH,zG]
  exact Or.inr (Or.inr hgm)
end
theorem q0B (k:HK)(T:List (List Nat)):(hkL k T).length=T.length:=by unfold hkL;rw[q3J,q61]
theorem qbw (T:List (List Nat))(l:List Nat):Mt.las (T++[l]) (T++[l]).length=Mt.las T T.length++[Mt.lst l]:=by
 unfold Mt.las
 rw[List.take_length,List.take_length,List.map_append]
 rfl
theorem q1Z (k:HK)(T:List (List Nat))(l:List Nat):hkL k (T++[l])=hkL k T++[k.es.getD (Mt.lst l) evZ]:=by
 unfold hkL
 rw[qbw]
 unfold Mt.lasE
 rw[List.map_append]
 rfl
theorem q7C (T:List (List Nat))(q:Nat):Mt.ext T T.length q=T++[[q]]:=by unfold Mt.ext;rw[if_pos rfl]
theorem q7D (A:List (List Nat))(l:List Nat)(q:Nat):Mt.ext (A++[l]) A.length q=A++[l++[q]]:=by
 unfold Mt.ext
 rw[if_neg (by simp)]
 simp
theorem q23 {α:Type}(A:List α)(x y:α)(t:Nat)(h:t=A.length):(A++[x]).set t y=A++[y]:=by
 subst h
 rw[List.set_append_right _ _ (zM _)]
 simp
structure PuH (k:HK)(w:World)(F:List Nat)(T:List (List Nat))(t q:Nat)(A:List (List Nat))(l:List Nat)(L1:List Ev)(pv lv:Value)(vs:List Value)(wc:World):Prop where
 n:HkN k w F (A++[l]) L1 pv lv vs wc
 la:A.length=t
 ex:Mt.ext T t q=A++[l++[q]]
 ll:L1.length=t+1
 le:L1.set t (k.es.getD q evZ)=hkL k (A++[l++[q]])
 lb:l.length+1<=1000000
theorem OwnsX.form {w:World}{v:Value}{l:List Ev}(h:OwnsX 0 w v l)(h0:0<l.length): ∃g cap,v= .slice (some ⟨g,0,none⟩) l.length cap/\l.length<=cap/\ ∃cur,w.heap[g]?=some (.cells cur 30 (0,0)):=by
 obtain ⟨_,⟨rfl,e⟩|⟨g,cap,cur,rfl,_,hh,hc,_⟩⟩:=h
 ·omega
 ·exact ⟨g,cap,rfl,hc,cur,hh⟩
theorem q6L (k:HK)(hI:HkI k)(w:World)(T:List (List Nat))(pv lv:Value)(vs:List Value)(h:HkS k w T (hkL k T) pv lv vs)(t q:Nat)(ht:t=T.length\/t+1=T.length)(hq:q<k.es.length)(ht8:t<8)(hrow: ∀l∈T,l.length<=4096):
  Calls Tryz.prog 45 #[.pointer (some ⟨k.gt,0,none⟩), .int .i64 (t:Int), .int .i64 (q:Int)] w fun e w'=>(∃v,e= .returned v)/\ ∃pv' lv' vs',HkN k w (hkF k pv lv vs) (Mt.ext T t q) (hkL k (Mt.ext T t q)) pv' lv' vs' w':=by
 have hl8:T.length<=8:=by omega
 obtain ⟨ap,cp,rfl⟩: ∃ap cp,pv= .slice ap T.length cp:=by
  rcases h.pl.form with ⟨rfl,e⟩|⟨g,cap,rfl,_⟩
  ·exact ⟨none,0,by rw[e];rfl⟩
  ·exact ⟨_,_,rfl⟩
 have c4:w.cell? ⟨k.gt,4,none⟩=some (.slice ap T.length cp):=h.box.cell rfl
 have hev:=hI.ev
 go_enter Tryz.func45,Tryz.ntmps45
 go_upto_if 12 with fail
 go_cut [] (fun wc=> ∃(A:List (List Nat)) (l:List Nat) (L1:List Ev) (pv1 lv1:Value) (vs1:List Value),Hid (PuH k w (hkF k (.slice ap T.length cp) lv vs) T t q A l L1 pv1 lv1 vs1 wc))
 case first=>
  rcases ht with ht|ht
  ·subst ht
   have hg:((T.length:Int)==(T.length:Int))=true:=beq_self_eq_true _
   obtain ⟨al,cl,hlv⟩: ∃al cl,lv= .slice al T.length cl:=by
    obtain ⟨a,c,e,_⟩:=h.la.at
    rw[q0B]at e
    exact ⟨a,c,e⟩
   obtain ⟨g1,cap1,w1,hrun1,hb1,hn1⟩:=h.grow hI (Kp.alloc w (.cells #[.slice none 0 0] 51)) (gz:=w.heap.size) (c:=1) (CBox.new w _ _) (by omega) 26
   have y4:w1.cell? ⟨k.gt,4,none⟩=some (.slice ap T.length cp):=hb1.cell rfl
   have z4:=hb1.froz 4
   have y5:(w1.setCell ⟨k.gt,4,none⟩ (.slice (some ⟨g1,0,none⟩) (T.length+1) cap1)).cell? ⟨k.gt,5,none⟩=some (.slice al T.length cl):=by rw[<-hlv];exact hn1.s.box.cell rfl
   have hsz:(w1.setCell ⟨k.gt,4,none⟩ (.slice (some ⟨g1,0,none⟩) (T.length+1) cap1)).heap.size=w1.heap.size:=by simp[World.setCell]
   obtain ⟨g2,cap2,w3,hrun2,hb2,hn2⟩:=hn1.s.growL hI (Kp.alloc _ (.cells evZ.c 30)) evZ (gz:=(w1.setCell ⟨k.gt,4,none⟩ (.slice (some ⟨g1,0,none⟩) (T.length+1) cap1)).heap.size) (c:=1) (CBox.new _ _ _) (by rw[q0B];omega) 25
   have y5':w3.cell? ⟨k.gt,5,none⟩=some lv:=hb2.cell rfl
   have z5:=hb2.froz 5
   rw[hlv]at y5' hrun2
   rw[q0B]at hrun2 hn2
   rw[hsz]at hrun2
   have HF:Hid (PuH k w (hkF k (.slice ap T.length cp) lv vs) T T.length q T [] (hkL k T++[evZ]) _ _ _ _):=hZq ⟨hn1.trans hn2,rfl,q7C T q,by rw[zF,q0B];rfl,by rw[q23 _ _ _ _ (q0B k T).symm,q1Z];rfl,by simp⟩
   have HR1:=hZq hrun1
   have HR2:=hZq hrun2
   clear h hn1 hn2 hb1 hb2 hrun1 hrun2 hrow hI hev hsz
   unfold evZ Ev.c at HR2
   dsimp only at HR2
   subst hlv
   go_wp2_with (first|(at_builtin;refine q0g rfl _ _ _ rfl rfl rfl (uQ HR2) ?_)|(at_builtin;refine q0g rfl _ _ _ rfl rfl rfl (uQ HR1) ?_))
   go_meet
   exact ⟨_,_,_,_,_,_,HF⟩
  ·obtain ⟨A,l,hA⟩: ∃A l,T=A++[l]:=by
    rcases List.eq_nil_or_concat T with e|⟨A,l,e⟩
    ·rw[e]at ht;simp at ht
    ·exact ⟨A,l,by rw[e,List.concat_eq_append]⟩
   have hAl:A.length=t:=by rw[hA]at ht;simp at ht;omega
   have HF:Hid (PuH k w (hkF k (.slice ap T.length cp) lv vs) T t q A l (hkL k T) (.slice ap T.length cp) lv vs w):=by
    refine hZq ⟨⟨by rw[<-hA];exact h,Kp.refl _ _,fun x hx=>Or.inl hx⟩,hAl,by rw[hA, <-hAl];exact q7D A l q,by rw[q0B,ht],?_,by have:=hrow l (by rw[hA];simp);omega⟩
    rw[hA,q1Z,q23 _ _ _ _ (by rw[q0B,hAl]),q1Z,Mt.lst_snoc]
   have hg:((t:Int)==(T.length:Int))=false:=beq_eq_false_iff_ne.2 (by omega)
   clear h hI hev hrow hA
   go_wp2
   go_meet
   exact ⟨_,_,_,_,_,_,HF⟩
 case rest=>
  obtain ⟨A,l,L1,pv1,lv1,vs1,HP⟩:=hcut
  have hP:=uQ HP
  clear h c4 hrow HP
  have hT1:(A++[l])[t]?=some l:=by rw[<-hP.la];simp
  obtain ⟨u,hu,hiu⟩:=hP.n.s.pl.at hT1
  obtain ⟨gp,cpp,rfl⟩: ∃g cap,pv1= .slice (some ⟨g,0,none⟩) (t+1) cap:=by
   rcases hP.n.s.pl.form with ⟨_,e⟩|⟨g,cap,e,_⟩
   ·simp at e
   ·exact ⟨g,cap,by rw[e,zF,hP.la];rfl⟩
  obtain ⟨ua,uc,rfl⟩: ∃ua uc,u= .slice ua l.length uc:=by
   obtain ⟨a,c,e,_⟩:=hiu.at
   rw[zI]at e
   exact ⟨a,c,e⟩
  obtain ⟨gl,cl,hlv1,hcl,_⟩:=hP.n.s.la.form (by rw[hP.ll];omega)
  rw[hP.ll]at hlv1 hcl
  subst hlv1
  obtain ⟨V,hV⟩: ∃V,V=wc.drew:=⟨_,rfl⟩
  have hkV:Kp [] wc V:=by rw[hV];exact Kp.drew wc
  have hs:=hP.n.s.al hkV
  obtain ⟨g',cap',w1,hrun,hb1,hcell1,hfr1,hN⟩:=hs.more hI (Kp.alloc V (.cells #[.int .i64 (q:Int)] 3)) (q:=q) hu hT1 (gz:=V.heap.size) (c:=1) (CBox.new _ _ _) hP.lb 51
  have a0:V.cell? ⟨k.gt,4,none⟩=some (.slice (some ⟨gp,0,none⟩) (t+1) cpp)/\V.cell? ⟨gp,t,none⟩=some (.slice ua l.length uc):=⟨hs.box.cell rfl,hs.pl.cell hu⟩
  have ha:=hs.al (Kp.alloc V (.cells #[.int .i64 (q:Int)] 3))
  have a1:(V.alloc (.cells #[.int .i64 (q:Int)] 3)).cell? ⟨k.gt,4,none⟩=some (.slice (some ⟨gp,0,none⟩) (t+1) cpp)/\(V.alloc (.cells #[.int .i64 (q:Int)] 3)).cell? ⟨gp,t,none⟩=some (.slice ua l.length uc):=⟨ha.box.cell rfl,ha.pl.cell hu⟩
  have a2:w1.cell? ⟨k.gt,4,none⟩=some (.slice (some ⟨gp,0,none⟩) (t+1) cpp)/\w1.cell? ⟨gp,t,none⟩=some (.slice ua l.length uc):=⟨hb1.cell rfl,hcell1⟩
  obtain ⟨W4,hW4⟩: ∃W4,W4=w1.setCell ⟨gp,t,none⟩ (.slice (some ⟨g',0,none⟩) (l.length+1) cap'):=⟨_,rfl⟩
  rw[<-hW4]at hN
  obtain ⟨V5,hV5⟩: ∃V5,V5=W4.drew:=⟨_,rfl⟩
  have hk5:Kp [] W4 V5:=by rw[hV5];exact Kp.drew W4
  have hd:=hN.s.al hk5
  obtain ⟨eb,eo,hea,e0,e1,e2,e3,e4,e5,e6⟩:=((hI.ev).kp (hd.kb hI) (by simp)).seven q hq
  have hel:=hI.el
  have hqi:(q:Int)<(k.es.length:Int):=by omega
  have gti:(t:Int)<(t:Int)+1:=by omega
  have b5:V5.cell? ⟨k.gt,5,none⟩=some (.slice (some ⟨gl,0,none⟩) (t+1) cl):=hd.box.cell rfl
  have b2:V5.cell? ⟨k.gt,2,none⟩=some (.slice (some ⟨eb,eo,none⟩) k.es.length k.ec):=by rw[<-hea];exact hd.box.cell rfl
  obtain ⟨cur,hcur⟩: ∃cur,CBox gl cur 30 V5:=by
   obtain ⟨_,⟨e,_⟩|⟨g9,c9,cur,e,_,hh,_⟩⟩:=id hd.la
   ·cases e
   ·injection e with e1 _ _
    cases e1
    exact ⟨cur,hh⟩
  have hLc: ∀j,j<7-> ∃v,V5.cell? ⟨gl,t * 7+j,none⟩=some v:=fun j hj=>by
   have hlen:t * 7+j<(L1.flatMap evW).length:=by rw[q1s,hP.ll];omega
   have:=World.ownsRow.cells hd.la (g:=gl) rfl (t * 7+j) _ (zE hlen)
   rw[Go.WideShapes.add_plain,Nat.zero_add]at this
   exact ⟨_,this⟩
  obtain ⟨v0,l0⟩:=hLc 0 (by omega)
  obtain ⟨v1,l1⟩:=hLc 1 (by omega)
  obtain ⟨v2,l2⟩:=hLc 2 (by omega)
  obtain ⟨v3,l3⟩:=hLc 3 (by omega)
  obtain ⟨v4,l4⟩:=hLc 4 (by omega)
  obtain ⟨v5,l5⟩:=hLc 5 (by omega)
  obtain ⟨v6,l6⟩:=hLc 6 (by omega)
  rw[Nat.add_zero]at l0
  have f0:=hcur.froz (t * 7)
  have f1:=hcur.froz (t * 7+1)
  have f2:=hcur.froz (t * 7+2)
  have f3:=hcur.froz (t * 7+3)
  have f4:=hcur.froz (t * 7+4)
  have f5:=hcur.froz (t * 7+5)
  have f6:=hcur.froz (t * 7+6)
  have hqe:k.es.getD q evZ=k.es[q]:=by rw[List.getD_eq_getElem?_getD,zE hq];rfl
  have hTs:(A++[l]).set t (l++[q])=Mt.ext T t q:=by rw[hP.ex];exact q23 _ _ _ _ hP.la.symm
  have hLs:L1.set t k.es[q]=hkL k (Mt.ext T t q):=by rw[<-hqe,hP.ex];exact hP.le
  rw[hTs]at hN
  have hN2:=(HkN.trans (F:=hkF k (.slice (some ⟨gp,0,none⟩) (t+1) cpp) (.slice (some ⟨gl,0,none⟩) (t+1) cl) vs1) ⟨hs,hkV.mono (by simp),fun x hx=>Or.inl hx⟩ hN)
  have hfin:=(hP.n.trans hN2).trans (hN.s.last hI hk5 t (by rw[hP.ll];omega) k.es[q])
  rw[hLs]at hfin
  have HFIN:=hZq hfin
  have hl1:l.length+1<=1000000:=hP.lb
  clear hfin hN2 hN hP hs ha hd hkV hk5 hea hcur hLc hLs hTs hqe hI hev hT1 hiu hu hb1 hcell1
  generalize k.es[q]=ev at *
  obtain ⟨ek,et,n0,n1,n2,n3,ex⟩:=ev
  dsimp only at e0 e1 e2 e3 e4 e5 e6 HFIN
  generalize l.length=m at *
  generalize k.es.length=M at *
  have b0:V5.cell? ⟨k.gt,5,none⟩=some (.slice (some ⟨gl,0,none⟩) (t+1) cl)/\V5.cell? ⟨k.gt,2,none⟩=some (.slice (some ⟨eb,eo,none⟩) M k.ec)/\V5.cell? ⟨eb,eo+q * 7,none⟩=some (.string ek)/\V5.cell? ⟨eb,eo+q * 7+1,none⟩=some (.string et)/\V5.cell? ⟨eb,eo+q * 7+2,none⟩=some (.int .i64 n0)/\V5.cell? ⟨eb,eo+q * 7+3,none⟩=some (.int .i64 n1)/\V5.cell? ⟨eb,eo+q * 7+4,none⟩=some (.int .i64 n2)/\V5.cell? ⟨eb,eo+q * 7+5,none⟩=some (.int .i64 n3)/\V5.cell? ⟨eb,eo+q * 7+6,none⟩=some (.string ex):=⟨b5,b2,e0,e1,e2,e3,e4,e5,e6⟩
  go_upto_region 3 with fail
  refine q0m (fun W=>W.cell? ⟨k.gt,4,none⟩=some (.slice (some ⟨gp,0,none⟩) (t+1) cpp)/\W.cell? ⟨gp,t,none⟩=some (.slice ua m uc)) 16 (by kernel_rfl) ?_
  rw[<-hV]
  clear hV
  show q0a _ _ _ _ _ _ 17 (Array.replicate 17 false) _ _
  refine zzL (i:=0) (v:=?_) rfl (Or.inl ⟨by rfl,?_⟩) a0 ?_
  rotate_left
  ·intro w0 s9;(try dsimp only at s9);go_simp;(try with_reducible rfl)
  try simp only[Act.put,zz1,zz2,zz3]
  refine zzL (i:=1) (v:=?_) rfl (Or.inl ⟨by rfl,?_⟩) a0 ?_
  rotate_left
  ·intro w0 s9;(try dsimp only at s9);go_simp;(try with_reducible rfl)
  try simp only[Act.put,zz1,zz2,zz3]
  refine zzL (i:=2) (v:=?_) rfl (Or.inl ⟨by rfl,?_⟩) a0 ?_
  rotate_left
  ·intro w0 s9;(try dsimp only at s9);go_simp;(try with_reducible rfl)
  try simp only[Act.put,zz1,zz2,zz3]
  refine zzL (i:=3) (v:=?_) rfl (Or.inl ⟨by rfl,?_⟩) a0 ?_
  rotate_left
  ·intro w0 s9;(try dsimp only at s9);go_simp;(try with_reducible rfl)
  try simp only[Act.put,zz1,zz2,zz3]
  refine zzL (i:=4) (v:=?_) rfl (Or.inl ⟨by rfl,?_⟩) a0 ?_
  rotate_left
  ·intro w0 s9;(try dsimp only at s9);go_simp;(try with_reducible rfl)
  try simp only[Act.put,zz1,zz2,zz3]
  refine zzL (i:=5) (v:=?_) rfl (Or.inl ⟨by rfl,?_⟩) a0 ?_
  rotate_left
  ·intro w0 s9;(try dsimp only at s9);go_simp;(try with_reducible rfl)
  try simp only[Act.put,zz1,zz2,zz3]
  refine zzL (i:=6) (v:=?_) rfl (Or.inl ⟨by rfl,?_⟩) a0 ?_
  rotate_left
  ·intro w0 s9;(try dsimp only at s9);go_simp;(try with_reducible rfl)
  try simp only[Act.put,zz1,zz2,zz3]
  refine zzL (i:=7) (v:=?_) rfl (Or.inl ⟨by rfl,?_⟩) a0 ?_
  rotate_left
  ·intro w0 s9;(try dsimp only at s9);go_simp;(try with_reducible rfl)
  try simp only[Act.put,zz1,zz2,zz3]
  refine zzL (i:=8) (v:=?_) rfl (Or.inl ⟨by rfl,?_⟩) a0 ?_
  rotate_left
  ·intro w0 s9;(try dsimp only at s9);go_simp;(try with_reducible rfl)
  try simp only[Act.put,zz1,zz2,zz3]
  refine zzL (i:=9) (v:=?_) rfl (Or.inl ⟨by rfl,?_⟩) a0 ?_
  rotate_left
  ·intro w0 s9;(try dsimp only at s9);go_simp;(try with_reducible rfl)
  try simp only[Act.put,zz1,zz2,zz3]
  refine zzL (i:=10) (v:=?_) rfl (Or.inl ⟨by rfl,?_⟩) a0 ?_
  rotate_left
  ·intro w0 s9;(try dsimp only at s9);go_simp;(try with_reducible rfl)
  try simp only[Act.put,zz1,zz2,zz3]
  refine zzL (i:=11) (v:=?_) rfl (Or.inl ⟨by rfl,?_⟩) a0 ?_
  rotate_left
  ·intro w0 s9;(try dsimp only at s9);go_simp;(try with_reducible rfl)
  try simp only[Act.put,zz1,zz2,zz3]
  refine zzL (i:=12) (v:=?_) rfl (Or.inl ⟨by rfl,?_⟩) a0 ?_
  rotate_left
  ·intro w0 s9;(try dsimp only at s9);go_simp;(try with_reducible rfl)
  try simp only[Act.put,zz1,zz2,zz3]
  refine q01 (i:=13) rfl (by kernel_rfl) (fun K hK=>?_)
  go_simp
  refine hK _ _ (Or.inr a1) ?_
  clear hK K
  try simp only[Act.put,zz1,zz2,zz3]
  refine q01 (i:=14) rfl (by kernel_rfl) (fun K hK=>?_)
  refine q11 rfl (.tmp 43) (.tmp 45) 51 rfl rfl rfl hrun ?_
  refine hK _ _ (Or.inr a2) ?_
  clear hK K
  try simp only[Act.put,zz1,zz2,zz3]
  refine zzL (i:=15) (v:=?_) rfl (Or.inl ⟨by rfl,?_⟩) a2 ?_
  rotate_left
  ·intro w0 s9;(try dsimp only at s9);go_simp;(try with_reducible rfl)
  try simp only[Act.put,zz1,zz2,zz3]
  refine q01 (i:=16) rfl (by kernel_rfl) (fun K hK=>?_)
  go_simp
  refine hK _ _ (Or.inl rfl) ?_
  clear hK K
  try simp only[Act.put,zz1,zz2,zz3]
  refine q0c (by kernel_rfl) ?_ _
  rw[<-hW4]
  clear hW4
  go_upto_region 4 with fail
  refine q0m (fun W=>W.cell? ⟨k.gt,5,none⟩=some (.slice (some ⟨gl,0,none⟩) (t+1) cl)/\W.cell? ⟨k.gt,2,none⟩=some (.slice (some ⟨eb,eo,none⟩) M k.ec)/\W.cell? ⟨eb,eo+q * 7,none⟩=some (.string ek)/\W.cell? ⟨eb,eo+q * 7+1,none⟩=some (.string et)/\W.cell? ⟨eb,eo+q * 7+2,none⟩=some (.int .i64 n0)/\W.cell? ⟨eb,eo+q * 7+3,none⟩=some (.int .i64 n1)/\W.cell? ⟨eb,eo+q * 7+4,none⟩=some (.int .i64 n2)/\W.cell? ⟨eb,eo+q * 7+5,none⟩=some (.int .i64 n3)/\W.cell? ⟨eb,eo+q * 7+6,none⟩=some (.string ex)) 13 (by kernel_rfl) ?_
  rw[<-hV5]
  clear hV5
  show q0a _ _ _ _ _ _ 14 (Array.replicate 14 false) _ _
  refine zzL (i:=0) (v:=?_) rfl (Or.inl ⟨by rfl,?_⟩) b0 ?_
  rotate_left
  ·intro w0 s9;(try dsimp only at s9);go_simp;(try with_reducible rfl)
  try simp only[Act.put,zz1,zz2,zz3]
  refine zzL (i:=1) (v:=?_) rfl (Or.inl ⟨by rfl,?_⟩) b0 ?_
  rotate_left
  ·intro w0 s9;(try dsimp only at s9);go_simp;(try with_reducible rfl)
  try simp only[Act.put,zz1,zz2,zz3]
  refine zzL (i:=2) (v:=?_) rfl (Or.inl ⟨by rfl,?_⟩) b0 ?_
  rotate_left
  ·intro w0 s9;(try dsimp only at s9);go_simp;(try with_reducible rfl)
  try simp only[Act.put,zz1,zz2,zz3]
  refine zzL (i:=3) (v:=?_) rfl (Or.inl ⟨by rfl,?_⟩) b0 ?_
  rotate_left
  ·intro w0 s9;(try dsimp only at s9);go_simp;(try with_reducible rfl)
  try simp only[Act.put,zz1,zz2,zz3]
  refine zzL (i:=4) (v:=?_) rfl (Or.inl ⟨by rfl,?_⟩) b0 ?_
  rotate_left
  ·intro w0 s9;(try dsimp only at s9);go_simp;(try with_reducible rfl)
  try simp only[Act.put,zz1,zz2,zz3]
  refine zzL (i:=5) (v:=?_) rfl (Or.inl ⟨by rfl,?_⟩) b0 ?_
  rotate_left
  ·intro w0 s9;(try dsimp only at s9);go_simp;(try with_reducible rfl)
  try simp only[Act.put,zz1,zz2,zz3]
  refine zzL (i:=6) (v:=?_) rfl (Or.inl ⟨by rfl,?_⟩) b0 ?_
  rotate_left
  ·intro w0 s9;(try dsimp only at s9);go_simp;(try with_reducible rfl)
  try simp only[Act.put,zz1,zz2,zz3]
  refine zzL (i:=7) (v:=?_) rfl (Or.inl ⟨by rfl,?_⟩) b0 ?_
  rotate_left
  ·intro w0 s9;(try dsimp only at s9);go_simp;(try with_reducible rfl)
  try simp only[Act.put,zz1,zz2,zz3]
  refine zzL (i:=8) (v:=?_) rfl (Or.inl ⟨by rfl,?_⟩) b0 ?_
  rotate_left
  ·intro w0 s9;(try dsimp only at s9);go_simp;(try with_reducible rfl)
  try simp only[Act.put,zz1,zz2,zz3]
  refine zzL (i:=9) (v:=?_) rfl (Or.inl ⟨by rfl,?_⟩) b0 ?_
  rotate_left
  ·intro w0 s9;(try dsimp only at s9);go_simp;(try with_reducible rfl)
  try simp only[Act.put,zz1,zz2,zz3]
  refine zzL (i:=10) (v:=?_) rfl (Or.inl ⟨by rfl,?_⟩) b0 ?_
  rotate_left
  ·intro w0 s9;(try dsimp only at s9);go_simp;(try with_reducible rfl)
  try simp only[Act.put,zz1,zz2,zz3]
  refine zzL (i:=11) (v:=?_) rfl (Or.inl ⟨by rfl,?_⟩) b0 ?_
  rotate_left
  ·intro w0 s9;(try dsimp only at s9);go_simp;(try with_reducible rfl)
  try simp only[Act.put,zz1,zz2,zz3]
  refine zzL (i:=12) (v:=?_) rfl (Or.inl ⟨by rfl,?_⟩) b0 ?_
  rotate_left
  ·intro w0 s9;(try dsimp only at s9);go_simp;(try with_reducible rfl)
  try simp only[Act.put,zz1,zz2,zz3]
  refine q01 (i:=13) rfl (by kernel_rfl) (fun K hK=>?_)
  go_simp
  refine hK _ _ (Or.inl rfl) ?_
  clear hK K
  try simp only[Act.put,zz1,zz2,zz3]
  refine q0c (by kernel_rfl) ?_ _
  go_wp2
  go_end0
  exact ⟨⟨_,rfl⟩,_,_,_,uQ HFIN⟩
def ntC (sa:Option Addr)(n sc:Nat)(wi:Int)(ea:Option Addr)(m ec:Nat)(nv:Value):Array Value:=#[.slice sa n sc, .int .i64 wi, .slice ea m ec,nv, .slice none 0 0, .slice none 0 0]
structure NwS (w:World)(sa:Option Addr)(n sc:Nat)(wi:Int)(ea:Option Addr)(m ec:Nat)(nv:Value)(ns:List ByteArray)(wr:World):Prop where
 pb:CBox w.heap.size #[.slice sa n sc, .int .i64 wi] 24 wr
 tb:CBox (w.heap.size+1) (ntC sa n sc wi ea m ec nv) 113 wr
 ow:OwnsW (w.heap.size+2) wr nv ns
 kp:Kp [] w wr
theorem NwS.go {w wr w':World}{sa:Option Addr}{n sc:Nat}{wi:Int}{ea:Option Addr}{m ec:Nat}{nv:Value}{ns:List ByteArray}(h:NwS w sa n sc wi ea m ec nv ns wr)(hk:Kp [] wr w'):NwS w sa n sc wi ea m ec nv ns w':=⟨h.pb.kp hk (by simp),h.tb.kp hk (by simp),h.ow.kp hk,h.kp.trans hk (by simp)⟩
theorem NwS.app {w wr:World}{sa:Option Addr}{n sc:Nat}{wi:Int}{ea:Option Addr}{m ec:Nat}{nv:Value}{ns:List ByteArray}(h:NwS w sa n sc wi ea m ec nv ns wr)(s:ByteArray){g c:Nat}(hc:wr.cell? ⟨g,0,none⟩=some (.string s))(hl:ns.length+1<=1000000)(ty:TypeId):
  ∃g' cap w',(Builtin.append_ #[102,102] ty #[nv, .slice (some ⟨g,0,none⟩) 1 c]).run Tryz.prog wr= .ok (.slice (some ⟨g',0,none⟩) (ns.length+1) cap) w'/\CBox (w.heap.size+1) (ntC sa n sc wi ea m ec nv) 113 w'/\Kp nv.ownBlock.toList wr w'/\NwS w sa n sc wi ea m ec (.slice (some ⟨g',0,none⟩) (ns.length+1) cap) (ns++[s]) (w'.setCell ⟨w.heap.size+1,3,none⟩ (.slice (some ⟨g',0,none⟩) (ns.length+1) cap)):=by
 have hlt:w.heap.size+1<wr.heap.size:=(zB.1 h.tb).1
 obtain ⟨g',cap,w',hrun,ho,hb,hgr⟩:=OwnsW.app (c:=c) h.ow (by omega) s hc hl ty
 have t1:CBox (w.heap.size+1) (ntC sa n sc wi ea m ec nv) 113 w':=(hb.block _ (by omega)).trans h.tb
 have p1:CBox w.heap.size #[.slice sa n sc, .int .i64 wi] 24 w':=(hb.block _ (by omega)).trans h.pb
 have hks:=Kp.set w' (w.heap.size+1) 3 (.slice (some ⟨g',0,none⟩) (ns.length+1) cap)
 refine ⟨g',cap,w',hrun,t1,Kp.of hgr,p1.kp hks (by simp),t1.set 3 _,q03 ho hks (fun x hx hm=>?_),?_⟩
 ·rw[zD]at hm
  subst hm
  exact q0d ho t1 (by decide) hx
 ·have h1:Kp [] w w':=⟨hb.os.trans h.kp.os,hb.tape.trans h.kp.tape,hb.output.trans h.kp.output,Nat.le_trans h.kp.size hb.size,fun i hi hn=>(hb.block i (by omega)).trans (h.kp.block i hi hn)⟩
  exact h1.trans hks (by simp)
theorem q3f (sa:Option Addr)(sc:Nat)(l:List SR)(wi:Int)(ea:Option Addr)(m ec:Nat)(w:World)(h:StsAt w sa l)(h8:l.length<=8):
  Calls Tryz.prog 42 #[.agg #[.slice sa l.length sc, .int .i64 wi], .slice ea m ec] w fun e w'=>e= .returned (.pointer (some ⟨w.heap.size+1,0,none⟩))/\ ∃nv,NwS w sa l.length sc wi ea m ec nv (q00 (stgs l)) w':=by
 have HST:=hZq (fun (i:Nat) (hi:i<l.length) W (hk:Kp [] w W)=>(h.kp hk).at i hi)
 have HNX:Hid (∀i (hi:i<l.length),q00 ((stgs l).take (i+1))=q00 ((stgs l).take i)++[l[i].s.nm]):=hZq (fun i hi=>by
  have:=q49 (l:=stgs l) (k:=i) (by rw[q02];exact hi)
  rw[q0L hi]at this
  exact this)
 have HNL:Hid (∀i,i<=l.length->(q00 ((stgs l).take i)).length=i):=hZq (fun i hi=>by rw[q0F,zL,q02];omega)
 have HEN:Hid (q00 ((stgs l).take l.length)=q00 (stgs l)):=hZq (by rw[<-q02,List.take_length])
 have k1:Kp [] w (w.alloc (.cells #[.slice sa l.length sc, .int .i64 wi] 24)):=Kp.alloc _ _
 have p0:=CBox.new w #[.slice sa l.length sc, .int .i64 wi] 24
 have t0:=CBox.new (w.alloc (.cells #[.slice sa l.length sc, .int .i64 wi] 24)) (ntC sa l.length sc wi ea m ec (.slice none 0 0)) 113
 rw[show (w.alloc (.cells #[.slice sa l.length sc, .int .i64 wi] 24)).heap.size=w.heap.size+1 by simp]at t0
 have k2:=Kp.alloc (w.alloc (.cells #[.slice sa l.length sc, .int .i64 wi] 24)) (.cells (ntC sa l.length sc wi ea m ec (.slice none 0 0)) 113)
 have H0:Hid (NwS w sa l.length sc wi ea m ec (.slice none 0 0) [] ((w.alloc (.cells #[.slice sa l.length sc, .int .i64 wi] 24)).alloc (.cells (ntC sa l.length sc wi ea m ec (.slice none 0 0)) 113))):=hZq ⟨p0.kp k2 (by simp),t0,OwnsW.nil _ _,k1.trans k2 (by simp)⟩
 have c00:=p0.cell (i:=0) (v:= .slice sa l.length sc) rfl
 have c01:=p0.cell (i:=1) (v:= .int .i64 wi) rfl
 have c10:=(uQ H0).pb.cell (i:=0) (v:= .slice sa l.length sc) rfl
 clear k1 p0 t0 k2 h
 unfold ntC at H0 c10
 obtain ⟨n,hn⟩: ∃n,l.length=n:=⟨_,rfl⟩
 have HN:=hZq hn
 rw[hn]at h8 HEN H0 c00 c10 ⊢
 clear hn
 go_enter Tryz.func42,Tryz.ntmps42
 go_wp2_with fail
 go_loopw [15] (fun iv wr=> ∃(i:Nat) (nv:Value),i<=n/\iv= .int .i64 (i:Int)/\Hid (NwS w sa n sc wi ea m ec nv (q00 ((stgs l).take i)) wr)) (fun iv _=>n-(intOf iv).toNat)
 case atStart=>exact ⟨0, .slice none 0 0,Nat.zero_le _,rfl,H0⟩
 case round=>
  obtain ⟨i,nv,hi,rfl,HC⟩:=hrel
  clear H0 c00 c01 c10
  by_cases hlt:i<n
  ·have hiT:i<l.length:=by rw[uQ HN];exact hlt
   have hli:(i:Int)<(n:Int):=by omega
   obtain ⟨sb,so,rfl,hsl,s0,s1,s2,s3, -⟩:=uQ HST i hiT wr (uQ HC).kp
   have hnx:=uQ HNX i hiT
   have hnl:=uQ HNL i (by rw[uQ HN];exact hi)
   obtain ⟨na,ncp,rfl⟩: ∃a c,nv= .slice a i c:=by
    obtain ⟨a,c,e,_⟩:=(uQ HC).ow.at
    rw[hnl]at e
    exact ⟨a,c,e⟩
   generalize l[i]=r at *
   obtain ⟨⟨rnm,rhw,rmn,rcd⟩,rad,rc⟩:=r
   dsimp only at s0 s1 s2 s3 hnx
   have ka:=Kp.alloc wr (.cells #[.string rnm, .int .i64 rhw, .bool rmn, .slice rad rcd.length rc] 88)
   have hsb:=CBox.new wr #[.string rnm, .int .i64 rhw, .bool rmn, .slice rad rcd.length rc] 88
   obtain ⟨V,hV⟩: ∃V,V=(wr.alloc (.cells #[.string rnm, .int .i64 rhw, .bool rmn, .slice rad rcd.length rc] 88)).drew:=⟨_,rfl⟩
   have kV:Kp [] wr V:=by rw[hV];exact ka.trans (Kp.drew _) (by simp)
   have bV:CBox wr.heap.size #[.string rnm, .int .i64 rhw, .bool rmn, .slice rad rcd.length rc] 88 V:=by rw[hV];exact hsb.kp (Kp.drew _) (by simp)
   have hCV:=(uQ HC).go kV
   have kA:=Kp.alloc V (.cells #[.string rnm] 9)
   have hCA:=hCV.go kA
   obtain ⟨g',cap',w',hrun,t1,hb,hfin⟩:=hCA.app rnm (g:=V.heap.size) (c:=1) ((CBox.new V _ _).cell rfl) (by rw[hnl];omega) 102
   rw[hnl]at hrun hfin
   rw[<-hnx]at hfin
   have HFIN:=hZq hfin
   have HRUN:=hZq hrun
   have a0:V.cell? ⟨w.heap.size+1,3,none⟩=some (.slice na i ncp)/\V.cell? ⟨wr.heap.size,0,none⟩=some (.string rnm):=⟨hCV.tb.cell rfl,bV.cell rfl⟩
   have a1:(V.alloc (.cells #[.string rnm] 9)).cell? ⟨w.heap.size+1,3,none⟩=some (.slice na i ncp)/\(V.alloc (.cells #[.string rnm] 9)).cell? ⟨wr.heap.size,0,none⟩=some (.string rnm):=⟨hCA.tb.cell rfl,(bV.kp kA (by simp)).cell rfl⟩
   have hwlt:w.heap.size+1<wr.heap.size:=(zB.1 (uQ HC).tb).1
   have f3:=t1.froz 3
   have bw:w'.cell? ⟨wr.heap.size,0,none⟩=some (.string rnm):=hb.cell ((bV.kp kA (by simp)).cell rfl) (fun hm=>q0d hCA.ow (bV.kp kA (by simp)) (by decide) (by simpa using hm))
   have a2:w'.cell? ⟨w.heap.size+1,3,none⟩=some (.slice na i ncp)/\w'.cell? ⟨wr.heap.size,0,none⟩=some (.string rnm):=⟨t1.cell rfl,bw⟩
   clear hfin hrun t1 hb hCA kA hCV bV kV hsb ka HC HST HNX HNL hnx hnl
   go_upto_region 5 with fail
   refine q0m (fun W=>W.cell? ⟨w.heap.size+1,3,none⟩=some (.slice na i ncp)/\W.cell? ⟨wr.heap.size,0,none⟩=some (.string rnm)) 11 (by kernel_rfl) ?_
   rw[<-hV]
   clear hV
   show q0a _ _ _ _ _ _ 12 (Array.replicate 12 false) _ _
   refine zzL (i:=0) (v:=?_) rfl (Or.inl ⟨by rfl,?_⟩) a0 ?_
   rotate_left
   ·intro w0 s9;(try dsimp only at s9);go_simp;(try with_reducible rfl)
   try simp only[Act.put,zz1,zz2,zz3]
   refine zzL (i:=1) (v:=?_) rfl (Or.inl ⟨by rfl,?_⟩) a0 ?_
   rotate_left
   ·intro w0 s9;(try dsimp only at s9);go_simp;(try with_reducible rfl)
   try simp only[Act.put,zz1,zz2,zz3]
   refine zzL (i:=2) (v:=?_) rfl (Or.inl ⟨by rfl,?_⟩) a0 ?_
   rotate_left
   ·intro w0 s9;(try dsimp only at s9);go_simp;(try with_reducible rfl)
   try simp only[Act.put,zz1,zz2,zz3]
   refine zzL (i:=3) (v:=?_) rfl (Or.inl ⟨by rfl,?_⟩) a0 ?_
   rotate_left
   ·intro w0 s9;(try dsimp only at s9);go_simp;(try with_reducible rfl)
   try simp only[Act.put,zz1,zz2,zz3]
   refine zzL (i:=4) (v:=?_) rfl (Or.inl ⟨by rfl,?_⟩) a0 ?_
   rotate_left
   ·intro w0 s9;(try dsimp only at s9);go_simp;(try with_reducible rfl)
   try simp only[Act.put,zz1,zz2,zz3]
   refine zzL (i:=5) (v:=?_) rfl (Or.inl ⟨by rfl,?_⟩) a0 ?_
   rotate_left
   ·intro w0 s9;(try dsimp only at s9);go_simp;(try with_reducible rfl)
   try simp only[Act.put,zz1,zz2,zz3]
   refine zzL (i:=6) (v:=?_) rfl (Or.inl ⟨by rfl,?_⟩) a0 ?_
   rotate_left
   ·intro w0 s9;(try dsimp only at s9);go_simp;(try with_reducible rfl)
   try simp only[Act.put,zz1,zz2,zz3]
   refine q01 (i:=7) rfl (by kernel_rfl) (fun K hK=>?_)
   go_simp
   refine hK _ _ (Or.inr a1) ?_
   clear hK K
   try simp only[Act.put,zz1,zz2,zz3]
   refine q01 (i:=8) rfl (by kernel_rfl) (fun K hK=>?_)
   refine q11 rfl (.tmp 23) (.tmp 26) 102 rfl rfl rfl (uQ HRUN) ?_
   refine hK _ _ (Or.inr a2) ?_
   clear hK K
   try simp only[Act.put,zz1,zz2,zz3]
   refine q01 (i:=9) rfl (by kernel_rfl) (fun K hK=>?_)
   go_simp
   refine hK _ _ (Or.inr a2) ?_
   clear hK K
   try simp only[Act.put,zz1,zz2,zz3]
   refine zzL (i:=10) (v:=?_) rfl (Or.inl ⟨by rfl,?_⟩) a2 ?_
   rotate_left
   ·intro w0 s9;(try dsimp only at s9);go_simp;(try with_reducible rfl)
   try simp only[Act.put,zz1,zz2,zz3]
   refine q01 (i:=11) rfl (by kernel_rfl) (fun K hK=>?_)
   go_simp
   refine hK _ _ (Or.inl rfl) ?_
   clear hK K
   try simp only[Act.put,zz1,zz2,zz3]
   refine q0c (by kernel_rfl) ?_ _
   go_wp2
   go_roundw
   case rel=>exact ⟨i+1,_,by omega,by go_num,HFIN⟩
   case measure=>simp[intOf];omega
  ·obtain rfl:i=n:=by omega
   have hC:=uQ HC
   rw[uQ HEN]at hC
   clear HC HST HNX HNL HEN
   go_wp2
   go_ret
   exact ⟨rfl,_,hC⟩
theorem q6S (a name:ByteArray)(hw:Int)(mn:Bool)(ad:Option Addr)(n c nb:Nat)(w:World)(hc:w.cell? ⟨nb,0,none⟩=some (.string name)):
  Calls Tryz.prog 107 #[.agg #[.string a, .int .i64 hw, .bool mn, .slice ad n c], .pointer (some ⟨nb,0,none⟩)] w fun e w'=>e= .returned (.bool (a.toList==name.toList))/\Kp [] w w':=by
 have hk:=Kp.alloc w (.cells #[.string a, .int .i64 hw, .bool mn, .slice ad n c] 88)
 have hlt:=World.block_lt_of_cell? _ _ hc
 dsimp only at hlt
 have h1:=hk.cell hc (by simp)
 have h2:=(CBox.new w #[.string a, .int .i64 hw, .bool mn, .slice ad n c] 88).cell (i:=0) (v:= .string a) rfl
 go_enter Tryz.func107,Tryz.ntmps107
 go_wp2
 go_ret
 exact ⟨rfl,hk⟩
theorem qc4 (a b:ByteArray):(a.toList==b.toList)=decide (a=b):=by
 rw[toList_data,toList_data]
 by_cases h:a=b
 ·subst h
  simp
 ·rw[zK h]
  refine beq_eq_false_iff_ne.2 fun e=>h ?_
  exact ByteArray.ext (Array.ext' e)
def ixN (s:ByteArray)(l:List ByteArray):Int:=if fstN s l<l.length then (fstN s l:Int) else-1
theorem q73 (sa:Option Addr)(sc:Nat)(l:List SR)(name:ByteArray)(nb:Nat)(w:World)(h:StsAt w sa l)(h8:l.length<=8)(hc:w.cell? ⟨nb,0,none⟩=some (.string name)):
  Calls Tryz.prog 106 #[.slice sa l.length sc, .func (.func 107) #[] #[.pointer (some ⟨nb,0,none⟩)]] w fun e w'=>e= .returned (.int .i64 (ixN name (q00 (stgs l))))/\Kp [] w w':=by
 have HST:=hZq (fun (i:Nat) (hi:i<l.length) W (hk:Kp [] w W)=>(h.kp hk).at i hi)
 have HEQ:=hZq (fun (a:ByteArray) (hw:Int) (mn:Bool) (ad:Option Addr) (n c:Nat) W (hk:Kp [] w W)=>q6S a name hw mn ad n c nb W (hk.cell hc (by simp)))
 have HAT:Hid (∀i (hi:i<l.length),l[i].s.nm=(q00 (stgs l))[i]'(by rw[q0F,q02];exact hi)):=hZq (fun i hi=>by
  unfold q00
  rw[List.getElem_map,q0L hi])
 have HLN:Hid ((q00 (stgs l)).length=l.length):=hZq (by rw[q0F,q02])
 have HIX:Hid (∀i (hi:i<l.length),i<=fstN name (q00 (stgs l))->((l[i].s.nm.toList==name.toList)=true->ixN name (q00 (stgs l))=(i:Int))/\((l[i].s.nm.toList==name.toList)=false->i+1<=fstN name (q00 (stgs l)))):=hZq (fun i hi hle=>by
  have hx:=uQ HAT i hi
  have hln:=uQ HLN
  rw[qc4,hx]
  refine ⟨fun e=>?_,fun e=>?_⟩
  ·have e1:=of_decide_eq_true e
   have hlt:fstN name (q00 (stgs l))<(q00 (stgs l)).length:=(q2G _ _).2 (by rw[<-e1];exact zJ _)
   have h2:=(q1y hlt).2
   have:fstN name (q00 (stgs l))=i:=by
    rcases Nat.lt_or_ge i (fstN name (q00 (stgs l)))with h3|h3
    ·exact absurd e1 (h2 i h3)
    ·omega
   unfold ixN
   rw[if_pos hlt,this]
  ·have e1:=of_decide_eq_false e
   rcases Nat.lt_or_ge i (fstN name (q00 (stgs l)))with h3|h3
   ·exact h3
   ·exfalso
    have he:fstN name (q00 (stgs l))=i:=by omega
    have hlt:fstN name (q00 (stgs l))<(q00 (stgs l)).length:=by omega
    have h4:=(q1y hlt).1
    refine e1 ?_
    rw[<-h4]
    congr 1
    exact he.symm)
 have HNO:Hid (l.length<=fstN name (q00 (stgs l))->ixN name (q00 (stgs l))= -1):=hZq (fun hle=>by
  unfold ixN
  rw[if_neg (by have:=uQ HLN;omega)])
 have hfl:=qda name (q00 (stgs l))
 generalize ixN name (q00 (stgs l))=X at *
 generalize fstN name (q00 (stgs l))=fi at *
 clear h hc HAT hfl HLN
 obtain ⟨n,hn⟩: ∃n,l.length=n:=⟨_,rfl⟩
 have HN:=hZq hn
 rw[hn]at h8 HNO ⊢
 clear hn
 go_enter Tryz.func106,Tryz.ntmps106
 go_wp2_with fail
 go_loopw [8] (fun iv wr=> ∃(i:Nat),i<=n/\iv= .int .i64 (i:Int)/\Hid (i<=fi)/\Hid (Kp [] w wr)) (fun iv _=>n-(intOf iv).toNat)
 case atStart=>exact ⟨0,Nat.zero_le _,rfl,hZq (Nat.zero_le _),hZq (Kp.refl _ _)⟩
 case round=>
  obtain ⟨i,hi,rfl,HLE,HK⟩:=hrel
  by_cases hlt:i<n
  ·have hiT:i<l.length:=by rw[uQ HN];exact hlt
   have hli:(i:Int)<(n:Int):=by omega
   obtain ⟨sb,so,rfl, -,s0,s1,s2,s3, -⟩:=uQ HST i hiT wr (uQ HK)
   have HX:=hZq (uQ HIX i hiT (uQ HLE))
   have EQ:=hZq (uQ HEQ l[i].s.nm l[i].s.hw l[i].s.mn l[i].ad l[i].s.cd.length l[i].c wr (uQ HK))
   generalize l[i]=r at *
   obtain ⟨⟨rnm,rhw,rmn,rcd⟩,rad,rc⟩:=r
   dsimp only at s0 s1 s2 s3 HX EQ
   clear HIX HST HEQ HLE
   cases hb:(rnm.toList==name.toList)with
   |true=>
    have hX:=(uQ HX).1 hb
    rw[hb]at EQ
    clear HX hb
    go_wp2_with fail
    refine (uQ EQ).mono ?_
    rintro e w2 ⟨rfl,hk2⟩
    have hfin:=(uQ HK).trans hk2 (by simp)
    clear EQ hk2
    go_wp2
    go_ret
    exact ⟨by rw[hX];rfl,hfin⟩
   |false=>
    have hX:=hZq ((uQ HX).2 hb)
    rw[hb]at EQ
    clear HX hb
    go_wp2_with fail
    refine (uQ EQ).mono ?_
    rintro e w2 ⟨rfl,hk2⟩
    have hfin:=hZq ((uQ HK).trans hk2 (by simp))
    clear EQ hk2
    go_wp2
    go_roundw
    case rel=>exact ⟨i+1,by omega,by go_num,hX,hfin⟩
    case measure=>simp[intOf];omega
  ·obtain rfl:i=n:=by omega
   have hX:=uQ HNO (uQ HLE)
   have hk:=uQ HK
   clear HIX HST HEQ HLE HNO
   go_wp2
   go_ret
   exact ⟨by rw[hX];rfl,hk⟩
def asZ (l:List SR)(xs:List Pt):List Int:=(stgS xs).map fun s=>ixN s (q00 (stgs l))
theorem q2h (sa:Option Addr)(sc:Nat)(l:List SR)(wi:Int)(nm:ByteArray)(hw:Int)(mn:Bool)(ad:Option Addr)(c:Nat)(xs:List Pt)(w:World)(h:StsAt w sa l)(h8:l.length<=8)(hc:PtsAt w ad xs)(hT:TbE w)(hfit: ∀p∈xs,p.fit):
  Calls Tryz.prog 84 #[.agg #[.slice sa l.length sc, .int .i64 wi], .agg #[.string nm, .int .i64 hw, .bool mn, .slice ad xs.length c]] w fun e w'=> ∃v,e= .returned v/\IRo w' v (asZ l xs)/\(∀b,v.ownBlock=some b->w.heap.size<=b)/\Kp [] w w':=by
 have k1:=Kp.alloc w (.cells #[.slice sa l.length sc, .int .i64 wi] 24)
 have k2:=Kp.alloc (w.alloc (.cells #[.slice sa l.length sc, .int .i64 wi] 24)) (.cells #[.string nm, .int .i64 hw, .bool mn, .slice ad xs.length c] 88)
 have k12:=k1.trans k2 (by simp)
 have p0:=(CBox.new w #[.slice sa l.length sc, .int .i64 wi] 24).kp k2 (by simp)
 have s0:=CBox.new (w.alloc (.cells #[.slice sa l.length sc, .int .i64 wi] 24)) #[.string nm, .int .i64 hw, .bool mn, .slice ad xs.length c] 88
 rw[show (w.alloc (.cells #[.slice sa l.length sc, .int .i64 wi] 24)).heap.size=w.heap.size+1 by simp]at s0
 have c3:=s0.cell (i:=3) (v:= .slice ad xs.length c) rfl
 have SG:=hZq (q4j ad c xs _ (hc.kp k12) (hT.kp k12 (by simp)) hfit)
 have HP:Hid (∀W,Kp [] ((w.alloc (.cells #[.slice sa l.length sc, .int .i64 wi] 24)).alloc (.cells #[.string nm, .int .i64 hw, .bool mn, .slice ad xs.length c] 88)) W->W.cell? ⟨w.heap.size,0,none⟩=some (.slice sa l.length sc)/\Kp [] w W):=hZq (fun W hk=>⟨(p0.kp hk (by simp)).cell rfl,k12.trans hk (by simp)⟩)
 have HIX:=hZq (fun (name:ByteArray) (nb:Nat) W (hk:Kp [] w W) hcc=>q73 sa sc l name nb W (h.kp hk) h8 hcc)
 have hln:=q3V xs
 have HZ:Hid (∀k (hk:k<(stgS xs).length),((stgS xs).take (k+1)).map (fun s=>ixN s (q00 (stgs l)))=((stgS xs).take k).map (fun s=>ixN s (q00 (stgs l)))++[ixN (stgS xs)[k] (q00 (stgs l))]):=hZq (fun k hk=>by
  rw[List.take_add_one,zE hk,List.map_append]
  rfl)
 have HE:Hid (((stgS xs).take (stgS xs).length).map (fun s=>ixN s (q00 (stgs l)))=asZ l xs):=hZq (by rw[List.take_length];rfl)
 have HLT:Hid (∀k,k<=(stgS xs).length->(((stgS xs).take k).map (fun s=>ixN s (q00 (stgs l)))).length=k):=hZq (fun k hk=>by rw[zI,zL];omega)
 generalize stgS xs=SS at *
 generalize q00 (stgs l)=NS at *
 generalize (if ckK xs=0 then (110:Int) else 0)=EC at *
 generalize asZ l xs=AZ at *
 generalize xs.length=xn at *
 clear h hc hT hfit k1 k2 k12 p0 s0
 generalize l.length=n at *
 obtain ⟨M,hM⟩: ∃M,SS.length=M:=⟨_,rfl⟩
 have HM:=hZq hM
 rw[hM]at hln HE
 clear hM
 go_enter Tryz.func84,Tryz.ntmps84
 go_wp2_with fail
 refine (uQ SG).mono ?_
 rintro e w1 ⟨v1,rfl,ho1,hb1⟩
 obtain ⟨a1,cp1,rfl,hnm1,_⟩:=ho1.at
 rw[uQ HM]
 have HK1:=hZq (Kp.ofBelow hb1)
 have HNM:=hZq hnm1
 clear SG hb1 ho1 hnm1 c3
 generalize (w.alloc (.cells #[.slice sa n sc, .int .i64 wi] 24)).alloc (.cells #[.string nm, .int .i64 hw, .bool mn, .slice ad xn c] 88)=W2 at *
 go_wp2_with fail
 go_loopw [7,18] (fun ov iv wr=> ∃(k:Nat) (a:Option Addr) (cc:Nat),k<=M/\iv= .int .i64 (k:Int)/\ov= .slice a k cc/\Hid (IRo wr (.slice a k cc) ((SS.take k).map (fun s=>ixN s NS))/\(∀b,(Value.slice a k cc).ownBlock=some b->w1.heap.size<=b)/\Kp [] w1 wr)) (fun _ iv _=>M-(intOf iv).toNat)
 case atStart=>exact ⟨0,none,0,Nat.zero_le _,rfl,rfl,hZq ⟨IRo.nil _,by simp[Value.ownBlock],Kp.refl _ _⟩⟩
 case round=>
  obtain ⟨k,a,cc,hk,rfl,rfl,HC⟩:=hrel
  by_cases hlt:k<M
  ·have hkS:k<SS.length:=by rw[uQ HM];exact hlt
   have hli:(k:Int)<(M:Int):=by omega
   obtain ⟨hI,hBk,hkr⟩:=uQ HC
   have hkw:=(uQ HK1).trans hkr (by simp)
   obtain ⟨nb,no,rfl,hnlt,hnc⟩:=((uQ HNM).kp hkr (by simp)) (fun e=>by rw[e]at hkS;simp at hkS)
   have n0:=hnc k hkS
   have ka:=Kp.alloc wr (.cells #[.string SS[k]] 9)
   have hna:=(CBox.new wr #[.string SS[k]] 9).cell (i:=0) (v:= .string SS[k]) rfl
   obtain ⟨hp,hwW⟩:=uQ HP _ (hkw.trans ka (by simp))
   have IX:=hZq (uQ HIX SS[k] wr.heap.size _ hwW hna)
   have HZk:=hZq (uQ HZ k hkS)
   have hlk:=uQ HLT k (by rw[uQ HM];exact hk)
   have HI2:=hZq (And.intro hI hBk)
   have HKR:=hZq hkr
   generalize SS[k]=nme at *
   generalize ixN nme NS=X at *
   generalize (SS.take k).map (fun s=>ixN s NS)=G at *
   clear HIX HP HNM hnc HZ HC hI hBk hkr hkw hwW HLT
   go_wp2_with fail
   refine (uQ IX).mono ?_
   rintro e w3 ⟨rfl,hk3⟩
   have kk:=(ka.trans hk3 (by simp)).trans (Kp.alloc w3 (.cells #[.int .i64 X] 3)) (by simp)
   have hI3:=(uQ HI2).1.kp kk (by simp)
   obtain ⟨g',cap',w',hrun,hI',hkp,hor⟩:=hI3.app X (g:=w3.heap.size) (c:=1) (CBox.new w3 _ _) (by rw[hlk];omega) 51
   rw[hlk]at hrun hI'
   have hsz:w1.heap.size<=w3.heap.size:=by
    have h1:=(uQ HKR).size
    have h2:=(ka.trans hk3 (by simp)).size
    omega
   have HFIN:Hid (IRo w' (.slice (some ⟨g',0,none⟩) (k+1) cap') ((SS.take (k+1)).map (fun s=>ixN s NS))/\(∀b,(Value.slice (some ⟨g',0,none⟩) (k+1) cap').ownBlock=some b->w1.heap.size<=b)/\Kp [] w1 w'):=by
    refine hZq ⟨by rw[uQ HZk];exact hI',fun b hb=>?_,((uQ HKR).trans kk (by simp)).trans hkp (fun x hx=>Or.inr ?_)⟩
    ·simp[Value.ownBlock]at hb
     subst hb
     rcases hor with hor|hor
     ·exact (uQ HI2).2 _ hor
     ·have:(w3.alloc (.cells #[.int .i64 X] 3)).heap.size=w3.heap.size+1:=by simp
      omega
    ·exact (uQ HI2).2 x (by simpa using hx)
   have HRUN:=hZq hrun
   clear IX hk3 kk hI3 hrun hI' hkp hor HI2 HKR HZk ka hna
   go_wp2_with (at_builtin;refine q0g rfl _ _ _ rfl rfl rfl (uQ HRUN) ?_)
   go_roundw
   case rel=>exact ⟨k+1,_,cap',by omega,by go_num,rfl,HFIN⟩
   case measure=>simp[intOf];omega
  ·obtain rfl:k=M:=by omega
   obtain ⟨h1,h2,h3⟩:=uQ HC
   rw[uQ HE]at h1
   have hkw:=(uQ HP wr ((uQ HK1).trans h3 (by simp))).2
   have hw1:=(uQ HP w1 (uQ HK1)).2.size
   clear HC HIX HP HNM HZ HLT
   go_wp2
   go_ret
   exact ⟨_,rfl,h1,fun b hb=>Nat.le_trans hw1 (h2 b hb),hkw⟩
end Go.Proofs.YtfgkikeeadlcfaaGreatDoor
