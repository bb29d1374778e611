/-
  Walks and plain facts, made small.
-/
import Derived.Test.YtcmjnlpofebbmaaGreatDoorMa16
import Derived.Deep.DeepCutAuto
import Derived.Deep.QuietTactic
import Derived.Test.YtcmjnlpofebbmaaGreatDoorMa12
set_option maxRecDepth 100000
set_option maxHeartbeats 8000000
set_option linter.unusedSimpArgs false
namespace Go.Proofs.YtcmjnlpofebbmaaGreatDoor
open Go.RowKit Go.Shelf
def Vl.v (a:Vl):Value:= .agg #[.int .i64 a.n, .string a.s, .bool a.t]
theorem q0s:(Tryz.prog.info? 208).map (·.size)=some 3:=by kernel_rfl
theorem eqVl (d:Nat)(a b:Vl)(w:World):(Op.equalIn (d+2) 208 a.v b.v).run Tryz.prog w= .ok (eqV a b) w:=by
 obtain ⟨n,s,t⟩:=a
 obtain ⟨n',s',t'⟩:=b
 have hi6:=fun (a b:Int) (w:World)=>run_equalIn_int (P:=Tryz.prog) w d 2 .i64 .i64 a b Tryz.underlying2
 have hs:=fun (a b:ByteArray) (w:World)=>run_equalIn_string (P:=Tryz.prog) w d 9 a b Tryz.underlying9
 have hb:=fun (a b:Bool) (w:World)=>run_equalIn_bool (P:=Tryz.prog) w d 4 a b Tryz.underlying4
 unfold Op.equalIn Vl.v eqV
 simp only[Sem.run_bind,run_underlying Tryz.underlying208,Result.andThen_ok]
 simp[part,Tryz.sizeOf2,Tryz.sizeOf4,Tryz.sizeOf9,go_sem,hi6,hs,hb,ByteArray.toList_eq]
 by_cases h0:n=n' <;> by_cases h1:s.data=s'.data <;> by_cases h2:t=t' <;> simp[h0,h1,h2]
theorem q1C (w:World)(A B X:Obj):(((w.alloc A).alloc B).alloc X).heap[w.heap.size+1+1]?=some X:=by
 have:=heap_alloc_new ((w.alloc A).alloc B) X
 rwa [show ((w.alloc A).alloc B).heap.size=w.heap.size+1+1 by simp]at this
theorem q1a (w:World)(A B X:Obj):Below w.heap.size w (((w.alloc A).alloc B).alloc X):=
 (((Below.refl _ _).alloc (Nat.le_refl _) _).alloc (by simp) _).alloc (by simp;omega) _
theorem opf1 (a b:Vl)(w:World):Calls Tryz.prog 163 #[a.v,b.v] w fun e w'=>e= .returned (opV 4 a b).v/\Below w.heap.size w w':=by
 obtain ⟨n,s,t⟩:=a
 obtain ⟨n',s',t'⟩:=b
 unfold Vl.v at *
 unfold opV
 rw[if_pos rfl]
 dsimp only at *
 go_enter Tryz.func163,Tryz.ntmps163
 go_wp2
 exact bodyPost_ret (results_cell_row Tryz.results163 _ _ (w.heap.size+1+1) 208 _ (0,0) _ rfl (q1C w _ _ _) Tryz.underlying208 rfl q0s) rfl ⟨by first|rfl|(rw[IntWalk.i64_left];rfl),q1a w _ _ _⟩
theorem opf2 (a b:Vl)(w:World):Calls Tryz.prog 164 #[a.v,b.v] w fun e w'=>e= .returned (opV 5 a b).v/\Below w.heap.size w w':=by
 obtain ⟨n,s,t⟩:=a
 obtain ⟨n',s',t'⟩:=b
 unfold Vl.v at *
 unfold opV
 rw[if_neg (by decide)]
 rw[if_pos rfl]
 dsimp only at *
 go_enter Tryz.func164,Tryz.ntmps164
 go_wp2
 exact bodyPost_ret (results_cell_row Tryz.results164 _ _ (w.heap.size+1+1) 208 _ (0,0) _ rfl (q1C w _ _ _) Tryz.underlying208 rfl q0s) rfl ⟨by first|rfl|(rw[IntWalk.i64_left];rfl),q1a w _ _ _⟩
theorem opf3 (a b:Vl)(w:World):Calls Tryz.prog 165 #[a.v,b.v] w fun e w'=>e= .returned (opV 6 a b).v/\Below w.heap.size w w':=by
 obtain ⟨n,s,t⟩:=a
 obtain ⟨n',s',t'⟩:=b
 unfold Vl.v at *
 unfold opV
 rw[if_neg (by decide)]
 rw[if_neg (by decide)]
 rw[if_pos rfl]
 dsimp only at *
 go_enter Tryz.func165,Tryz.ntmps165
 go_wp2
 exact bodyPost_ret (results_cell_row Tryz.results165 _ _ (w.heap.size+1+1) 208 _ (0,0) _ rfl (q1C w _ _ _) Tryz.underlying208 rfl q0s) rfl ⟨by first|rfl|(rw[IntWalk.i64_left];rfl),q1a w _ _ _⟩
theorem opf4 (a b:Vl)(w:World):Calls Tryz.prog 166 #[a.v,b.v] w fun e w'=>e= .returned (opV 7 a b).v/\Below w.heap.size w w':=by
 obtain ⟨n,s,t⟩:=a
 obtain ⟨n',s',t'⟩:=b
 unfold Vl.v at *
 unfold opV
 rw[if_neg (by decide)]
 rw[if_neg (by decide)]
 rw[if_neg (by decide)]
 rw[if_pos rfl]
 dsimp only at *
 go_enter Tryz.func166,Tryz.ntmps166
 go_wp2
 exact bodyPost_ret (results_cell_row Tryz.results166 _ _ (w.heap.size+1+1) 208 _ (0,0) _ rfl (q1C w _ _ _) Tryz.underlying208 rfl q0s) rfl ⟨by first|rfl|(rw[IntWalk.i64_left];rfl),q1a w _ _ _⟩
theorem opf5 (a b:Vl)(w:World):Calls Tryz.prog 167 #[a.v,b.v] w fun e w'=>e= .returned (opV 8 a b).v/\Below w.heap.size w w':=by
 obtain ⟨n,s,t⟩:=a
 obtain ⟨n',s',t'⟩:=b
 unfold Vl.v at *
 unfold opV
 rw[if_neg (by decide)]
 rw[if_neg (by decide)]
 rw[if_neg (by decide)]
 rw[if_neg (by decide)]
 rw[if_pos rfl]
 dsimp only at *
 go_enter Tryz.func167,Tryz.ntmps167
 go_wp2
 exact bodyPost_ret (results_cell_row Tryz.results167 _ _ (w.heap.size+1+1) 208 _ (0,0) _ rfl (q1C w _ _ _) Tryz.underlying208 rfl q0s) rfl ⟨by first|rfl|(rw[IntWalk.i64_left];rfl),q1a w _ _ _⟩
theorem opf6 (a b:Vl)(w:World):Calls Tryz.prog 168 #[a.v,b.v] w fun e w'=>e= .returned (opV 9 a b).v/\Below w.heap.size w w':=by
 have q:=fun W=>eqVl 9998 a b W
 obtain ⟨n,s,t⟩:=a
 obtain ⟨n',s',t'⟩:=b
 unfold Vl.v at *
 unfold opV
 rw[if_neg (by decide)]
 rw[if_neg (by decide)]
 rw[if_neg (by decide)]
 rw[if_neg (by decide)]
 rw[if_neg (by decide)]
 rw[if_pos rfl]
 dsimp only at *
 go_enter Tryz.func168,Tryz.ntmps168
 go_wp2
 exact bodyPost_ret (results_cell_row Tryz.results168 _ _ (w.heap.size+1+1) 208 _ (0,0) _ rfl (q1C w _ _ _) Tryz.underlying208 rfl q0s) rfl ⟨by first|rfl|(rw[IntWalk.i64_left];rfl),q1a w _ _ _⟩
theorem opf7 (a b:Vl)(w:World):Calls Tryz.prog 169 #[a.v,b.v] w fun e w'=>e= .returned (opV 10 a b).v/\Below w.heap.size w w':=by
 have q:=fun W=>eqVl 9998 a b W
 obtain ⟨n,s,t⟩:=a
 obtain ⟨n',s',t'⟩:=b
 unfold Vl.v at *
 unfold opV
 rw[if_neg (by decide)]
 rw[if_neg (by decide)]
 rw[if_neg (by decide)]
 rw[if_neg (by decide)]
 rw[if_neg (by decide)]
 rw[if_neg (by decide)]
 rw[if_pos rfl]
 dsimp only at *
 go_enter Tryz.func169,Tryz.ntmps169
 go_wp2
 exact bodyPost_ret (results_cell_row Tryz.results169 _ _ (w.heap.size+1+1) 208 _ (0,0) _ rfl (q1C w _ _ _) Tryz.underlying208 rfl q0s) rfl ⟨by first|rfl|(rw[IntWalk.i64_left];rfl),q1a w _ _ _⟩
theorem opf8 (a b:Vl)(w:World):Calls Tryz.prog 170 #[a.v,b.v] w fun e w'=>e= .returned (opV 11 a b).v/\Below w.heap.size w w':=by
 obtain ⟨n,s,t⟩:=a
 obtain ⟨n',s',t'⟩:=b
 unfold Vl.v at *
 unfold opV
 rw[if_neg (by decide)]
 rw[if_neg (by decide)]
 rw[if_neg (by decide)]
 rw[if_neg (by decide)]
 rw[if_neg (by decide)]
 rw[if_neg (by decide)]
 rw[if_neg (by decide)]
 rw[if_pos rfl]
 dsimp only at *
 cases t
 all_goals
  go_enter Tryz.func170,Tryz.ntmps170
  go_wp2
  exact bodyPost_ret (results_cell_row Tryz.results170 _ _ (w.heap.size+1+1) 208 _ (0,0) _ rfl (q1C w _ _ _) Tryz.underlying208 rfl q0s) rfl ⟨by first|rfl|(rw[IntWalk.i64_left];rfl),q1a w _ _ _⟩
theorem opf9 (a b:Vl)(w:World):Calls Tryz.prog 171 #[a.v,b.v] w fun e w'=>e= .returned (opV 12 a b).v/\Below w.heap.size w w':=by
 obtain ⟨n,s,t⟩:=a
 obtain ⟨n',s',t'⟩:=b
 unfold Vl.v at *
 unfold opV
 rw[if_neg (by decide)]
 rw[if_neg (by decide)]
 rw[if_neg (by decide)]
 rw[if_neg (by decide)]
 rw[if_neg (by decide)]
 rw[if_neg (by decide)]
 rw[if_neg (by decide)]
 rw[if_neg (by decide)]
 rw[if_pos rfl]
 dsimp only at *
 cases t
 all_goals
  go_enter Tryz.func171,Tryz.ntmps171
  go_wp2
  exact bodyPost_ret (results_cell_row Tryz.results171 _ _ (w.heap.size+1+1) 208 _ (0,0) _ rfl (q1C w _ _ _) Tryz.underlying208 rfl q0s) rfl ⟨by first|rfl|(rw[IntWalk.i64_left];rfl),q1a w _ _ _⟩
theorem qeB (a b:Vl)(w:World):Calls Tryz.prog 172 #[a.v,b.v] w fun e w'=>e= .returned (opV 13 a b).v/\Below w.heap.size w w':=by
 obtain ⟨n,s,t⟩:=a
 obtain ⟨n',s',t'⟩:=b
 unfold Vl.v at *
 unfold opV
 rw[if_neg (by decide)]
 rw[if_neg (by decide)]
 rw[if_neg (by decide)]
 rw[if_neg (by decide)]
 rw[if_neg (by decide)]
 rw[if_neg (by decide)]
 rw[if_neg (by decide)]
 rw[if_neg (by decide)]
 rw[if_neg (by decide)]
 dsimp only at *
 go_enter Tryz.func172,Tryz.ntmps172
 go_wp2
 exact bodyPost_ret (results_cell_row Tryz.results172 _ _ (w.heap.size+1+1) 208 _ (0,0) _ rfl (q1C w _ _ _) Tryz.underlying208 rfl q0s) rfl ⟨by first|rfl|(rw[IntWalk.i64_left];rfl),q1a w _ _ _⟩
theorem q14 (s:ByteArray):s.toList.isEmpty=q05 s:=q5C s
theorem q1O (s:ByteArray):(s.toList==([]:List UInt8))=q05 s:=by
 rw[toList_data]
 unfold q05
 rw[Bool.eq_iff_iff,beq_iff_eq,beq_iff_eq]
 exact List.length_eq_zero_iff.symm
open Go.RowKit Go.Shelf
def moC (M:Mo)(nv lv:Value):Array Value:=#[.string M.e.k, .string M.e.t, .int .i64 M.e.n0, .int .i64 M.e.n1, .int .i64 M.e.n2, .int .i64 M.e.n3, .string M.e.x,nv,lv]
structure MoAt (gm:Nat)(M:Mo)(an al:Option Addr)(cn cl:Nat)(W:World):Prop where
 box:CBox gm (moC M (.slice an M.ns.length cn) (.slice al M.la.length cl)) 205 W
 nms:NmsAt W an M.ns
 evs:EvsAt W al M.la
 len:M.ns.length<=9223372036854775807
 both:M.ns.length=M.la.length
theorem MoAt.below {gm:Nat}{M:Mo}{an al:Option Addr}{cn cl:Nat}{W W':World}(h:MoAt gm M an al cn cl W)(hb:Below W.heap.size W W'):MoAt gm M an al cn cl W':=
 ⟨h.box.kp (Kp.ofBelow hb) (by simp),h.nms.kp (Kp.ofBelow hb) (by simp),h.evs.kp (Kp.ofBelow hb) (by simp),h.len,h.both⟩
theorem qej {g:Nat}{t:TypeId}{a b c:Value}{w W:World}(h:CBox g #[a,b,c] t W)(hb:Below g w W)(x y z:Value):
  CBox g #[x,y,z] t (((W.setCell ⟨g,0,none⟩ x).setCell ⟨g,1,none⟩ y).setCell ⟨g,2,none⟩ z)/\Below g w (((W.setCell ⟨g,0,none⟩ x).setCell ⟨g,1,none⟩ y).setCell ⟨g,2,none⟩ z):=
 ⟨((h.set 0 x).set 1 y).set 2 z,((hb.setCell (p:=⟨g,0,none⟩) (Nat.le_refl _) _).setCell (p:=⟨g,1,none⟩) (Nat.le_refl _) _).setCell (p:=⟨g,2,none⟩) (Nat.le_refl _) _⟩
theorem q4s {gm:Nat}{M:Mo}{an al:Option Addr}{cn cl:Nat}{W:World}(h:MoAt gm M an al cn cl W)(st:ByteArray)(f:Int)(hf:0<=f/\f<=5)(hs:q05 st=true\/hasN M.ns st=true):
  Calls Tryz.prog 147 #[.pointer (some ⟨gm,0,none⟩), .string st, .int .i64 f] W fun e w'=>e= .returned (fdV (M.at st) f).v/\Below W.heap.size W w':=by
 have hgm:=(Array.getElem?_eq_some_iff.1 h.box).1
 have h0:=h.below ((Below.refl _ _).alloc (Nat.le_refl _) (.cells #[.int .i64 0, .string { data:=#[] }, .bool false] 208))
 have bx:CBox W.heap.size #[.int .i64 0, .string { data:=#[] }, .bool false] 208 (W.alloc (.cells #[.int .i64 0, .string { data:=#[] }, .bool false] 208)):=CBox.new W _ _
 have hb0:Below W.heap.size W (W.alloc (.cells #[.int .i64 0, .string { data:=#[] }, .bool false] 208)):=(Below.refl _ _).alloc (Nat.le_refl _) _
 have HM:=hZq h0
 have HX:=hZq bx
 have HB:=hZq hb0
 clear h h0 bx hb0
 go_enter Tryz.func147,Tryz.ntmps147
 go_upto_if 12 with fail
 generalize W.alloc (.cells #[.int .i64 0, .string { data:=#[] }, .bool false] 208)=W1 at *
 go_cut [7] (fun p wc=> ∃b o,p= .pointer (some ⟨b,o,none⟩)/\Hid (wc.cell? ⟨b,o+1,none⟩=some (.string (M.at st).t)/\wc.cell? ⟨b,o+2,none⟩=some (.int .i64 (M.at st).n0)/\wc.cell? ⟨b,o+3,none⟩=some (.int .i64 (M.at st).n1)/\wc.cell? ⟨b,o+4,none⟩=some (.int .i64 (M.at st).n2)/\wc.cell? ⟨b,o+5,none⟩=some (.int .i64 (M.at st).n3)/\wc.cell? ⟨b,o+6,none⟩=some (.string (M.at st).x))/\Hid (CBox W.heap.size #[.int .i64 0, .string { data:=#[] }, .bool false] 208 wc/\Below W.heap.size W wc))
 case first=>
  by_cases he:q05 st=true
  ·have g1:st.toList.isEmpty=true:=by rw[q14];exact he
   have g2:(st.toList==([]:List UInt8))=true:=by rw[q1O];exact he
   have e:M.at st=M.e:=by unfold Mo.at;rw[if_pos he]
   have bx:=(uQ HM).box
   have HC:Hid (W1.cell? ⟨gm,0+1,none⟩=some (.string (M.at st).t)/\W1.cell? ⟨gm,0+2,none⟩=some (.int .i64 (M.at st).n0)/\W1.cell? ⟨gm,0+3,none⟩=some (.int .i64 (M.at st).n1)/\W1.cell? ⟨gm,0+4,none⟩=some (.int .i64 (M.at st).n2)/\W1.cell? ⟨gm,0+5,none⟩=some (.int .i64 (M.at st).n3)/\W1.cell? ⟨gm,0+6,none⟩=some (.string (M.at st).x)):=by rw[e];exact hZq ⟨bx.cell rfl,bx.cell rfl,bx.cell rfl,bx.cell rfl,bx.cell rfl,bx.cell rfl⟩
   clear he e bx HM hs
   rw[g1]
   go_wp2
   go_meet
   exact ⟨gm,0,rfl,HC,hZq ⟨uQ HX,uQ HB⟩⟩
  ·have he':q05 st=false:=by simpa using he
   have g1:st.toList.isEmpty=false:=by rw[q14];exact he'
   have g2:(st.toList==([]:List UInt8))=false:=by rw[q1O];exact he'
   have hin:fstN st M.ns<M.ns.length:=by
    rcases hs with hs|hs
    ·exact absurd hs he
    ·unfold hasN at hs;exact of_decide_eq_true hs
   have e:M.at st=M.la[fstN st M.ns]'(by rw[<-(uQ HM).both];exact hin):=by
    unfold Mo.at
    rw[if_neg he,List.getD_eq_getElem?_getD,List.getElem?_eq_getElem (by rw[<-(uQ HM).both];exact hin)]
    rfl
   obtain ⟨b,o,rfl,q0,q1,q2,q3,q4,q5,q6⟩:=(uQ HM).evs.seven (fstN st M.ns) (by rw[<-(uQ HM).both];exact hin)
   rw[<-e]at q1 q2 q3 q4 q5 q6
   have HC:Hid (W1.drew.cell? ⟨b,o+fstN st M.ns * 7+1,none⟩=some (.string (M.at st).t)/\W1.drew.cell? ⟨b,o+fstN st M.ns * 7+2,none⟩=some (.int .i64 (M.at st).n0)/\W1.drew.cell? ⟨b,o+fstN st M.ns * 7+3,none⟩=some (.int .i64 (M.at st).n1)/\W1.drew.cell? ⟨b,o+fstN st M.ns * 7+4,none⟩=some (.int .i64 (M.at st).n2)/\W1.drew.cell? ⟨b,o+fstN st M.ns * 7+5,none⟩=some (.int .i64 (M.at st).n3)/\W1.drew.cell? ⟨b,o+fstN st M.ns * 7+6,none⟩=some (.string (M.at st).x)):=hZq ⟨q1,q2,q3,q4,q5,q6⟩
   have IX:=hZq (q9g an cn M.ns st W1.drew (uQ HM).len ((uQ HM).nms.kp (Kp.drew W1) (by simp)) hin)
   have bx:=(uQ HM).box
   have c7:W1.drew.cell? ⟨gm,7,none⟩=some (.slice an M.ns.length cn):=bx.cell rfl
   have c8:W1.drew.cell? ⟨gm,8,none⟩=some (.slice (some ⟨b,o,none⟩) M.la.length cl):=bx.cell rfl
   have cS:=And.intro c7 c8
   have hil:((fstN st M.ns:Nat):Int)<((M.la.length:Nat):Int):=by have:=(uQ HM).both;omega
   have HX2:Hid (CBox W.heap.size #[.int .i64 0, .string { data:=#[] }, .bool false] 208 W1.drew/\Below W.heap.size W W1.drew):=hZq ⟨uQ HX,(uQ HB).drew⟩
   have hln:=(uQ HM).len
   clear q0 q1 q2 q3 q4 q5 q6
   clear e
   clear he he' bx HM hs hin c7 c8 HX HB
   rw[g1]
   generalize fstN st M.ns=I at *
   generalize M.ns.length=NL at *
   generalize M.la.length=LL at *
   generalize M.at st=EV at *
   go_wp2_with fail
   go_region_held3 (fun w'=>w'.cell? ⟨gm,7,none⟩=some (.slice an NL cn)/\w'.cell? ⟨gm,8,none⟩=some (.slice (some ⟨b,o,none⟩) LL cl))
    (first|with_reducible exact cS)
    (first|(go_at_call 96;refine (uQ IX).mono ?_;rintro e w2 ⟨rfl,rfl⟩))
   go_wp2
   go_meet
   exact ⟨b,_,rfl,HC,HX2⟩
 case rest=>
  obtain ⟨b,o,rfl,HC,HXB⟩:=hcut
  obtain ⟨c1,c2,c3,c4,c5,c6⟩:=uQ HC
  obtain ⟨bx,hb⟩:=uQ HXB
  have z0:=bx.cell (i:=0) (v:= .int .i64 0) rfl
  have z1:=bx.cell (i:=1) (v:= .string { data:=#[] }) rfl
  have z2:=bx.cell (i:=2) (v:= .bool false) rfl
  have fz:=bx.froz
  have hlt:=(Array.getElem?_eq_some_iff.1 bx).1
  have HXX:=hZq (qej bx hb)
  clear hb bx HXB HC HM HX HB
  obtain ⟨EV,hEV⟩: ∃EV,M.at st=EV:=⟨_,rfl⟩
  rw[hEV]at c1 c2 c3 c4 c5 c6
  have HEV:=hZq hEV
  clear hEV
  generalize wc=WC at *
  rcases (show f=0\/f=1\/f=2\/f=3\/f=4\/f=5 by omega)with rfl|rfl|rfl|rfl|rfl|rfl
  all_goals
   go_wp2
   exact bodyPost_ret (results_cell_row Tryz.results147 _ _ W.heap.size 208 _ (0,0) _ rfl (uQ HXX _ _ _).1 Tryz.underlying208 rfl q0s) rfl ⟨by rw[uQ HEV];rfl,(uQ HXX _ _ _).2⟩
open Go.RowKit Go.Shelf
theorem q8F (w:World)(A B C X:Obj):((((w.alloc A).alloc B).alloc C).alloc X).heap[w.heap.size+1+1+1]?=some X:=by
 have:=heap_alloc_new (((w.alloc A).alloc B).alloc C) X
 rwa [show (((w.alloc A).alloc B).alloc C).heap.size=w.heap.size+1+1+1 by simp]at this
theorem q4k (w:World)(A B C X:Obj):Below w.heap.size w ((((w.alloc A).alloc B).alloc C).alloc X):=
 ((((Below.refl _ _).alloc (Nat.le_refl _) _).alloc (by simp) _).alloc (by simp;omega) _).alloc (by simp;omega) _
theorem qdh {g B:Nat}{t:TypeId}{a b c:Value}{w W:World}(hB:B<=g)(h:CBox g #[a,b,c] t W)(hb:Below B w W)(x y z:Value):
  CBox g #[x,y,z] t (((W.setCell ⟨g,0,none⟩ x).setCell ⟨g,1,none⟩ y).setCell ⟨g,2,none⟩ z)/\Below B w (((W.setCell ⟨g,0,none⟩ x).setCell ⟨g,1,none⟩ y).setCell ⟨g,2,none⟩ z):=
 ⟨((h.set 0 x).set 1 y).set 2 z,((hb.setCell (p:=⟨g,0,none⟩) hB _).setCell (p:=⟨g,1,none⟩) hB _).setCell (p:=⟨g,2,none⟩) hB _⟩
theorem q7W {w W:World}{A B C:Obj}{r0 r1 r2:Value}{t:TypeId}(hb:Below ((((w.alloc A).alloc B).alloc C).alloc (.cells #[r0,r1,r2] t)).heap.size ((((w.alloc A).alloc B).alloc C).alloc (.cells #[r0,r1,r2] t)) W):
  (W.cell? ⟨w.heap.size+1+1+1,0,none⟩=some r0/\W.cell? ⟨w.heap.size+1+1+1,1,none⟩=some r1/\W.cell? ⟨w.heap.size+1+1+1,2,none⟩=some r2/\(∀i,W.frozen? ⟨w.heap.size+1+1+1,i,none⟩=false))/\w.heap.size+1+1+1<W.heap.size/\Hid (∀x y z,CBox (w.heap.size+1+1+1) #[x,y,z] t (((W.setCell ⟨w.heap.size+1+1+1,0,none⟩ x).setCell ⟨w.heap.size+1+1+1,1,none⟩ y).setCell ⟨w.heap.size+1+1+1,2,none⟩ z)/\Below w.heap.size w (((W.setCell ⟨w.heap.size+1+1+1,0,none⟩ x).setCell ⟨w.heap.size+1+1+1,1,none⟩ y).setCell ⟨w.heap.size+1+1+1,2,none⟩ z)):=by
 have h:CBox (w.heap.size+1+1+1) #[r0,r1,r2] t W:=CBox.kp (q8F w A B C _) (Kp.ofBelow hb) (by simp)
 exact ⟨⟨h.cell rfl,h.cell rfl,h.cell rfl,h.froz⟩,(Array.getElem?_eq_some_iff.1 h).1,hZq (qdh (by omega) h ((q4k w A B C _).trans (hb.mono (by simp;omega))))⟩
theorem q4j {gm:Nat}(p:Pt)(a b R:Vl)(EF:Nat)(w:World)(h0:sds p.kd≠0)(hfn:fnO p.kd= .func (.func EF) #[] #[])
  (hen: ∀args W,(callFunc EF args).run Tryz.prog W= .ok (.enter EF args) W) (HC: ∀W,Calls Tryz.prog EF #[a.v,b.v] W fun e w'=>e= .returned R.v/\Below W.heap.size W w'):
  Calls Tryz.prog 123 #[.pointer (some ⟨gm,0,none⟩),p.v, .agg (rowC p.kd), .agg #[.int .i64 a.n, .string a.s, .bool a.t, .int .i64 b.n, .string b.s, .bool b.t]] w fun e w'=>e= .returned R.v/\Below w.heap.size w w':=by
 have hs0:((0:Int)<(sds p.kd:Nat)):=by omega
 have HEN:=hZq hen
 have HCC:=hZq HC
 unfold rowC
 rw[hfn]
 generalize txt (sgO p.kd)=S at *
 generalize ofO p.kd=O at *
 generalize isO p.kd=I at *
 generalize sds p.kd=N at *
 clear hen HC hfn h0
 obtain ⟨kd,n,s,st,fl⟩:=p
 obtain ⟨an,as_,at_⟩:=a
 obtain ⟨bn,bs,bt⟩:=b
 obtain ⟨rn,rs,rt⟩:=R
 unfold Pt.v Vl.v at *
 dsimp only at *
 go_enter Tryz.func123,Tryz.ntmps123
 go_wp2_with fail
 rw[uQ HEN,Oper.upon_enter]
 refine (uQ HCC _).mono ?_
 rintro e w1 ⟨rfl,hb1⟩
 obtain ⟨⟨r0,r1,r2,rf⟩,hlt,HX⟩:=q7W hb1
 clear hb1 HCC HEN
 dsimp only
 go_wp2
 exact bodyPost_ret (results_cell_row Tryz.results123 _ _ (w.heap.size+1+1+1) 208 _ (0,0) _ rfl (uQ HX _ _ _).1 Tryz.underlying208 rfl q0s) rfl ⟨rfl,(uQ HX _ _ _).2⟩
theorem q6E {gm:Nat}{M:Mo}{an al:Option Addr}{cn cl:Nat}(p:Pt)(w:World)(h0:sds p.kd=0)(hM:MoAt gm M an al cn cl w)(hl:lfK p≠0)(hs:q05 p.st=true\/hasN M.ns p.st=true):
  Calls Tryz.prog 123 #[.pointer (some ⟨gm,0,none⟩),p.v, .agg (rowC p.kd), .agg #[.int .i64 0, .string { data:=#[] }, .bool false, .int .i64 0, .string { data:=#[] }, .bool false]] w fun e w'=>e= .returned (lfV M p).v/\Below w.heap.size w w':=by
 have hone:=q1S p.kd
 have hx:=q9p hl
 have HFV:Hid (p.kd=3-> ∀W,Below w.heap.size w W->Calls Tryz.prog 147 #[.pointer (some ⟨gm,0,none⟩), .string p.st, .int .i64 p.fl] W fun e w'=>e= .returned (fdV (M.at p.st) p.fl).v/\Below W.heap.size W w'):=hZq (fun hk W hb=>q4s (hM.below hb) p.st p.fl (by
  rcases hx with ⟨e,_⟩|⟨e,_⟩|⟨_,a,b,_⟩
  ·omega
  ·omega
  ·exact ⟨a,b⟩) hs)
 have hkd:p.kd=1\/p.kd=2\/p.kd=3:=by
  rcases hx with ⟨e,_⟩|⟨e,_⟩|⟨e,_⟩
  ·exact Or.inl e
  ·exact Or.inr (Or.inl e)
  ·exact Or.inr (Or.inr e)
 have HLV:Hid (lfV M p=if p.kd=1 then ⟨p.n,noB,false⟩ else if p.kd=2 then ⟨0,p.s,false⟩ else fdV (M.at p.st) p.fl):=hZq rfl
 obtain ⟨F3,hF3⟩: ∃F3,fdV (M.at p.st) p.fl=F3:=⟨_,rfl⟩
 rw[hF3]at HFV HLV
 obtain ⟨LV,hLV⟩: ∃LV,lfV M p=LV:=⟨_,rfl⟩
 rw[hLV]at HLV ⊢
 unfold rowC
 rw[h0]
 generalize fnO p.kd=F at *
 generalize txt (sgO p.kd)=S at *
 generalize ofO p.kd=O at *
 generalize isO p.kd=I at *
 clear hM hl hs hx h0 hF3 hLV
 obtain ⟨kd,n,s,st,fl⟩:=p
 unfold Pt.v
 dsimp only at *
 rcases hkd with rfl|rfl|rfl
 ·obtain rfl:LV=⟨n,noB,false⟩:=(uQ HLV).trans (if_pos rfl)
  clear HFV HLV
  unfold Vl.v noB
  dsimp only
  go_enter Tryz.func123,Tryz.ntmps123
  go_wp2
  exact bodyPost_ret (results_cell_row Tryz.results123 _ _ (w.heap.size+1+1+1) 208 _ (0,0) _ rfl (q8F w _ _ _ _) Tryz.underlying208 rfl q0s) rfl ⟨rfl,q4k w _ _ _ _⟩
 ·obtain rfl:LV=⟨0,s,false⟩:=(uQ HLV).trans ((if_neg (by decide)).trans (if_pos rfl))
  clear HFV HLV
  unfold Vl.v
  dsimp only
  go_enter Tryz.func123,Tryz.ntmps123
  go_wp2
  exact bodyPost_ret (results_cell_row Tryz.results123 _ _ (w.heap.size+1+1+1) 208 _ (0,0) _ rfl (q8F w _ _ _ _) Tryz.underlying208 rfl q0s) rfl ⟨rfl,q4k w _ _ _ _⟩
 ·obtain rfl:LV=F3:=(uQ HLV).trans ((if_neg (by decide)).trans (if_neg (by decide)))
  have HFV2:=hZq (uQ HFV rfl)
  clear HFV HLV
  obtain ⟨rn,rs,rt⟩:=LV
  unfold Vl.v at *
  dsimp only at *
  go_enter Tryz.func123,Tryz.ntmps123
  go_wp2_with fail
  refine (uQ HFV2 _ (q4k w _ _ _ _)).mono ?_
  rintro e w1 ⟨rfl,hb1⟩
  obtain ⟨⟨r0,r1,r2,rf⟩,hlt,HX⟩:=q7W hb1
  clear hb1 HFV2
  go_wp2
  exact bodyPost_ret (results_cell_row Tryz.results123 _ _ (w.heap.size+1+1+1) 208 _ (0,0) _ rfl (uQ HX _ _ _).1 Tryz.underlying208 rfl q0s) rfl ⟨rfl,(uQ HX _ _ _).2⟩
theorem q7G (k:Int)(h4:4<=k)(h13:k<=13)(a b:Vl): ∃EF,fnO k= .func (.func EF) #[] #[]/\(∀args W,(callFunc EF args).run Tryz.prog W= .ok (.enter EF args) W)/\ ∀W,Calls Tryz.prog EF #[a.v,b.v] W fun e w'=>e= .returned (opV k a b).v/\Below W.heap.size W w':=by
 rcases (show k=4\/k=5\/k=6\/k=7\/k=8\/k=9\/k=10\/k=11\/k=12\/k=13 by omega)with rfl|rfl|rfl|rfl|rfl|rfl|rfl|rfl|rfl|rfl
 ·exact ⟨163,rfl,enters_of Tryz.func163 (by kernel_rfl) rfl,opf1 a b⟩
 ·exact ⟨164,rfl,enters_of Tryz.func164 (by kernel_rfl) rfl,opf2 a b⟩
 ·exact ⟨165,rfl,enters_of Tryz.func165 (by kernel_rfl) rfl,opf3 a b⟩
 ·exact ⟨166,rfl,enters_of Tryz.func166 (by kernel_rfl) rfl,opf4 a b⟩
 ·exact ⟨167,rfl,enters_of Tryz.func167 (by kernel_rfl) rfl,opf5 a b⟩
 ·exact ⟨168,rfl,enters_of Tryz.func168 (by kernel_rfl) rfl,opf6 a b⟩
 ·exact ⟨169,rfl,enters_of Tryz.func169 (by kernel_rfl) rfl,opf7 a b⟩
 ·exact ⟨170,rfl,enters_of Tryz.func170 (by kernel_rfl) rfl,opf8 a b⟩
 ·exact ⟨171,rfl,enters_of Tryz.func171 (by kernel_rfl) rfl,opf9 a b⟩
 ·exact ⟨172,rfl,enters_of Tryz.func172 (by kernel_rfl) rfl,qeB a b⟩
theorem q6D {gm:Nat}{M:Mo}{an al:Option Addr}{cn cl:Nat}{xs:List Pt}{w:World}(hM:MoAt gm M an al cn cl w)(hlv: ∀q∈xs,sds q.kd=0->lfK q≠0)(hst:hasS M.ns xs=true)(p:Pt)(ts:List Ex)(W:World)(hp:p∈xs)(hs:ts.length=sds p.kd)(hb:Below w.heap.size w W):
  Calls Tryz.prog 123 #[.pointer (some ⟨gm,0,none⟩),p.v, .agg (rowC p.kd), .agg (sdCV (ts.map (Ex.val (vlv M))))] W fun e w'=>e= .returned (.agg (vlE ((vlv M) p (ts.map (Ex.val (vlv M))))).toArray)/\Below W.heap.size W w':=by
 have h2:=q20 p.kd
 have hk:sds p.kd≠0->4<=p.kd/\p.kd<=13:=fun h=>by
  rcases (show sds p.kd=1\/sds p.kd=2 by omega)with e|e
  ·have:=q4E e;omega
  ·have:=q4F e;omega
 match ts,hs with
 |[],hs=>
  have hq:=List.all_eq_true.1 hst p hp
  simp only[Bool.or_eq_true]at hq
  exact q6E p W hs.symm (hM.below hb) (hlv p hp hs.symm) hq
 |[a],hs=>
  have h0:sds p.kd≠0:=by rw[<-hs];simp
  obtain ⟨EF,e1,e2,e3⟩:=q7G p.kd (hk h0).1 (hk h0).2 (a.val (vlv M)) ⟨0,noB,false⟩
  exact q4j p (a.val (vlv M)) ⟨0,noB,false⟩ _ EF W h0 e1 e2 e3
 |[a,b],hs=>
  have h0:sds p.kd≠0:=by rw[<-hs];simp
  obtain ⟨EF,e1,e2,e3⟩:=q7G p.kd (hk h0).1 (hk h0).2 (a.val (vlv M)) (b.val (vlv M))
  exact q4j p (a.val (vlv M)) (b.val (vlv M)) _ EF W h0 e1 e2 e3
 |a::b::c::r,hs=>simp at hs;omega
theorem q6N {gm:Nat}{M:Mo}{an al:Option Addr}{cn cl:Nat}(ad:Option Addr)(cap:Nat)(xs:List Pt)(hsz:xs.length<=200)(w:World)(hc:PtsAt w ad xs)(hM:MoAt gm M an al cn cl w)(hlv: ∀q∈xs,sds q.kd=0->lfK q≠0)(hst:hasS M.ns xs=true):
  Calls Tryz.prog 122 #[.slice ad xs.length cap, .func (.func 123) #[.pointer (some ⟨gm,0,none⟩)] #[]] w fun e w'=>e= .returned (foRV (fdX (vlv M) xs))/\Below w.heap.size w w':=
 callsIn_wide.1 (qaN 123 ad cap xs hsz w (PtsLow.of hc) (enters_of Tryz.func123 (by kernel_rfl) rfl) (fun p ts W hp _ _ hs hb=>q6D hM hlv hst p ts W hp hs hb))
open Go.RowKit Go.Shelf
def okS (ns:List ByteArray)(p:Pt):Bool:=q05 p.st||hasN ns p.st
theorem qaP (ns:List ByteArray)(x:List Pt):hasS ns x=x.all (okS ns):=rfl
theorem q58 {xs:List Pt}{f:Pt->Bool}{k:Nat}(h:(xs.take k).all f=true)(hk:k<xs.length)(hf:f xs[k]=true):(xs.take (k+1)).all f=true:=by
 rw[List.take_succ_eq_append_getElem hk,List.all_append,h]
 simp[hf]
theorem qdl {xs:List Pt}{f:Pt->Bool}{k:Nat}(hk:k<xs.length)(hf:f xs[k]=false):xs.all f=false:=by
 rw[List.all_eq_false]
 exact ⟨xs[k],List.getElem_mem _,by rw[hf];simp⟩
theorem q5f {gm:Nat}{M:Mo}{an:Option Addr}{cn:Nat}{nl lv:Value}(ad:Option Addr)(cap:Nat)(xs:List Pt)(hsz:xs.length<=200)(W:World)(hc:PtsAt W ad xs)(hbx:CBox gm (moC M nl lv) 205 W)(hnl:nl= .slice an M.ns.length cn)(hln:M.ns.length<=9223372036854775807)(hnm:NmsAt W an M.ns):
  Calls Tryz.prog 121 #[.pointer (some ⟨gm,0,none⟩), .slice ad xs.length cap] W fun e w'=>e= .returned (.bool (hasS M.ns xs))/\Below W.heap.size W w':=by
 subst hnl
 rw[qaP]
 have HNO:Hid (∀k (hk:k<xs.length),okS M.ns xs[k]=false->xs.all (okS M.ns)=false):=hZq (fun k hk hf=>qdl hk hf)
 have HNX:Hid (∀k (hk:k<xs.length),(xs.take k).all (okS M.ns)=true->okS M.ns xs[k]=true->(xs.take (k+1)).all (okS M.ns)=true):=hZq (fun k hk h hf=>q58 h hk hf)
 have HYS:Hid ((xs.take xs.length).all (okS M.ns)=true->xs.all (okS M.ns)=true):=hZq (fun h=>by rwa [List.take_length]at h)
 have HF:Hid (∀w1,Below W.heap.size W w1->w1.cell? ⟨gm,7,none⟩=some (.slice an M.ns.length cn)/\gm<w1.heap.size/\Hid (NmsAt w1 an M.ns)/\Hid (PtsAt w1 ad xs)):=hZq (fun w1 hb=>⟨(Kp.ofBelow hb).cell (hbx.cell rfl) (by simp),by have:=(Array.getElem?_eq_some_iff.1 hbx).1;have:=hb.size;omega,hZq (hnm.kp (Kp.ofBelow hb) (by simp)),hZq (hc.kp (Kp.ofBelow hb))⟩)
 clear hc hbx hnm
 obtain ⟨R,hR⟩: ∃R,xs.all (okS M.ns)=R:=⟨_,rfl⟩
 rw[hR]at HNO HYS ⊢
 clear hR
 obtain ⟨n,hn⟩: ∃n,xs.length=n:=⟨_,rfl⟩
 have HN:=hZq hn
 rw[hn]at HYS hsz ⊢
 clear hn
 go_enter Tryz.func121,Tryz.ntmps121
 go_wp2
 go_loopw [9] (fun i wr=> ∃k:Nat,k<=n/\i= .int .i64 (k:Int)/\Below W.heap.size W wr/\Hid ((xs.take k).all (okS M.ns)=true)) (fun i _=>n-(intOf i).toNat)
 case atStart=>exact ⟨0,Nat.zero_le _,rfl,Below.refl _ _,hZq (by simp)⟩
 case round=>
  obtain ⟨k,hk,rfl,hb,HK⟩:=hrel
  by_cases hlt:k<n
  ·have hkx:k<xs.length:=by rw[uQ HN];exact hlt
   obtain ⟨_,_,_,HP⟩:=uQ HF wr hb
   obtain ⟨b,off,rfl,hbl,x0,x1,x2,x3,x4⟩:=(uQ HP).at k hkx
   have HNO2:Hid (okS M.ns xs[k]=false->R=false):=hZq (uQ HNO k hkx)
   have HNX2:Hid (okS M.ns xs[k]=true->(xs.take (k+1)).all (okS M.ns)=true):=hZq (uQ HNX k hkx (uQ HK))
   have hok:okS M.ns xs[k]=(q05 xs[k].st||hasN M.ns xs[k].st):=rfl
   rw[hok]at HNO2 HNX2
   have hli:(k:Int)<(n:Int):=by omega
   clear hok HP HNO HNX HYS HK
   generalize xs[k]=p at *
   obtain ⟨pk,pn,ps,pt,pf⟩:=p
   dsimp only at x0 x1 x2 x3 x4 HNO2 HNX2
   have hb2:Below W.heap.size W (wr.alloc (.cells #[.int .i64 pk, .int .i64 pn, .string ps, .string pt, .int .i64 pf] 166)):=hb.alloc hb.size _
   have hbd:Below W.heap.size W (wr.alloc (.cells #[.int .i64 pk, .int .i64 pn, .string ps, .string pt, .int .i64 pf] 166)).drew:=hb2.drew
   have c3:(wr.alloc (.cells #[.int .i64 pk, .int .i64 pn, .string ps, .string pt, .int .i64 pf] 166)).drew.cell? ⟨wr.heap.size,3,none⟩=some (.string pt):=(CBox.new wr _ _).cell rfl
   obtain ⟨c7,hgl,HNM,_⟩:=uQ HF _ hbd
   have CT:=hZq (q1p an cn M.ns pt _ hln (uQ HNM))
   have HBD:=hZq hbd
   have hgw:=(uQ HF wr hb).2.1
   clear hb hb2 hbd HNM HF
   go_wp2_with fail
   generalize wr.alloc (.cells #[.int .i64 pk, .int .i64 pn, .string ps, .string pt, .int .i64 pf] 166)=W2 at *
   clear x0 x1 x2 x3 x4
   by_cases he:q05 pt=true
   ·have g1:pt.toList.isEmpty=true:=by rw[q14];exact he
    have g2:(pt.toList==([]:List UInt8))=true:=by rw[q1O];exact he
    rw[he,Bool.true_or]at HNX2
    have HX:=hZq (uQ HNX2 rfl)
    have c3':W2.cell? ⟨wr.heap.size,3,none⟩=some (.string pt):=c3
    clear HNX2 HNO2 he CT c3
    go_quiet (fail)
    go_wp2
    go_roundw
    case rel=>exact ⟨k+1,by omega,by go_num,(uQ HBD).trans ⟨rfl,rfl,rfl,Nat.le_refl _,fun _ _=>rfl⟩,HX⟩
    case measure=>simp[intOf];omega
   ·have he':q05 pt=false:=by simpa using he
    have g1:pt.toList.isEmpty=false:=by rw[q14];exact he'
    have g2:(pt.toList==([]:List UInt8))=false:=by rw[q1O];exact he'
    rw[he',Bool.false_or]at HNX2 HNO2
    generalize hasN M.ns pt=B at *
    generalize M.ns.length=NL at *
    have cS:=And.intro c3 c7
    clear he he' c3 c7
    generalize wr.heap.size=G at *
    go_region_held3 (fun w'=>w'.cell? ⟨G,3,none⟩=some (.string pt)/\w'.cell? ⟨gm,7,none⟩=some (.slice an NL cn))
     (first|with_reducible exact cS)
     (first|(go_at_call 71;refine (uQ CT).mono ?_;rintro e w2 ⟨rfl,rfl⟩))
    clear cS CT
    cases B with
    |true=>
     have HX:=hZq (uQ HNX2 rfl)
     clear HNX2 HNO2
     go_wp2
     go_roundw
     case rel=>exact ⟨k+1,by omega,by go_num,(uQ HBD),HX⟩
     case measure=>simp[intOf];omega
    |false=>
     obtain rfl:=uQ HNO2 rfl
     clear HNX2 HNO2
     go_wp2
     go_ret
     exact ⟨rfl,uQ HBD⟩
  ·obtain rfl:k=n:=by omega
   obtain rfl:=uQ HYS (uQ HK)
   clear HYS HNO
   go_wp2
   go_ret
   exact ⟨rfl,hb⟩
open Go.RowKit Go.Shelf
theorem q9b {x:List Pt}{M:Mo}(h:ckK x≠3):hdE x M=110/\hdB x M=false:=by
 have e:hdE x M=110:=by unfold hdE;rw[if_pos h]
 exact ⟨e,by unfold hdB;rw[if_pos (by rw[e];decide)]⟩
theorem q9c {x:List Pt}{M:Mo}(h:ckK x=3)(h2:M.ns.length≠M.la.length\/hasS M.ns x=false):hdE x M=5/\hdB x M=false:=by
 have e:hdE x M=5:=by unfold hdE;rw[if_neg (by rw[h];decide),if_pos h2]
 exact ⟨e,by unfold hdB;rw[if_pos (by rw[e];decide)]⟩
theorem qcG {x:List Pt}{M:Mo}(h:ckK x=3)(h1:M.ns.length=M.la.length)(h2:hasS M.ns x=true):hdE x M=0/\ ∃v,fdX (vlv M) x=some v/\hdB x M=v.t:=by
 have e:hdE x M=0:=by unfold hdE;rw[if_neg (by rw[h];decide),if_neg (by rw[h1,h2];simp)]
 obtain ⟨t,t1,_,t3,_⟩:=q1o (x:=x) (by rw[h];decide)
 refine ⟨e,t.val (vlv M),by rw[t3];exact q5G _ t t1,?_⟩
 unfold hdB
 rw[if_neg (by rw[e];decide),t3,q5G _ t t1]
theorem q9d (ad an al:Option Addr)(cap cn cl:Nat)(xs:List Pt)(ev:Ev)(ns:List ByteArray)(la:List Ev)(w:World)(hc:PtsAt w ad xs)(hn:NmsAt w an ns)(hln:ns.length<=9223372036854775807)(he:EvsAt w al la)(hT:TbE w)(hfit: ∀p∈xs,p.fit):
  Calls Tryz.prog 104 #[.slice ad xs.length cap, .agg ev.c, .slice an ns.length cn, .slice al la.length cl] w fun e w'=>e= .returned (.tuple #[.bool (hdB xs ⟨ev,ns,la⟩), .int .i64 (hdE xs ⟨ev,ns,la⟩)])/\Below w.heap.size w w':=by
 have hev:ev.c=#[.string ev.k, .string ev.t, .int .i64 ev.n0, .int .i64 ev.n1, .int .i64 ev.n2, .int .i64 ev.n3, .string ev.x]:=rfl
 have b1:Below w.heap.size w (w.alloc (.cells ev.c 29)):=(Below.refl _ _).alloc (Nat.le_refl _) _
 have e1:EBox w.heap.size ev (w.alloc (.cells ev.c 29)):=CBox.new w _ _
 have CK:=q1D ad cap xs _ (hc.kp (Kp.alloc w (.cells ev.c 29))) (hT.alloc (.cells ev.c 29)) hfit
 have HL:Hid (∀w2,Below (w.alloc (.cells ev.c 29)).heap.size (w.alloc (.cells ev.c 29)) w2->EBox w.heap.size ev w2/\Hid (Below w.heap.size w w2)/\Hid (PtsAt w2 ad xs/\NmsAt w2 an ns/\EvsAt w2 al la)):=hZq (fun w2 hb=>⟨e1.below hb e1.lt,hZq (b1.trans (hb.mono (by simp))),hZq ⟨(hc.kp (Kp.alloc w (.cells ev.c 29))).kp (Kp.ofBelow hb),(hn.kp (Kp.alloc w (.cells ev.c 29)) (by simp)).kp (Kp.ofBelow hb) (by simp),(he.kp (Kp.alloc w (.cells ev.c 29)) (by simp)).kp (Kp.ofBelow hb) (by simp)⟩⟩)
 rw[hev]at CK HL
 have HCK:=hZq CK
 clear CK b1 e1 hc hn he hT
 rw[hev]
 clear hev
 by_cases h3:ckK xs=3
 ·have hcode:(if ckK xs=0 then (110:Int) else 0)=0:=if_neg (by rw[h3];decide)
  rw[hcode,h3]at HCK
  clear hcode
  obtain ⟨t,t1,t2,t3,_,t5,_⟩:=q1o (x:=xs) (by rw[h3];decide)
  have HLV:Hid (∀q∈xs,sds q.kd=0->lfK q≠0):=hZq (by rw[t3];exact t.fine_leaves t2)
  clear t1 t2 t3
  have HN0:Hid (ns.length≠la.length\/hasS ns xs=false->hdE xs ⟨ev,ns,la⟩=5/\hdB xs ⟨ev,ns,la⟩=false):=hZq (fun h=>q9c h3 h)
  have HOKK:Hid (ns.length=la.length->hasS ns xs=true->hdE xs ⟨ev,ns,la⟩=0/\ ∃v,fdX (vlv ⟨ev,ns,la⟩) xs=some v/\hdB xs ⟨ev,ns,la⟩=v.t):=hZq (fun h1 h2=>qcG h3 h1 h2)
  obtain ⟨D,hD⟩: ∃D,hdE xs ⟨ev,ns,la⟩=D:=⟨_,rfl⟩
  obtain ⟨B,hB⟩: ∃B,hdB xs ⟨ev,ns,la⟩=B:=⟨_,rfl⟩
  rw[hD,hB]at HN0 HOKK ⊢
  clear hD hB h3
  go_enter Tryz.func104,Tryz.ntmps104
  go_wp2_with fail
  refine (uQ HCK).mono ?_
  rintro e w2 ⟨rfl,hb2⟩
  obtain ⟨eb,HB,HAT⟩:=uQ HL w2 hb2
  obtain ⟨v0,v1,v2,v3,v4,v5,v6⟩:=eb.cells
  have hlt:=eb.lt
  clear HCK HL hb2 eb hfit
  by_cases hll:ns.length=la.length
  ·have gl:((ns.length:Int)==(la.length:Int))=true:=by rw[hll];exact beq_self_eq_true _
   obtain ⟨hA,hN,hE⟩:=uQ HAT
   have k2:Kp [] w2 (w2.alloc (.cells (moC ⟨ev,ns,la⟩ (.slice an ns.length cn) (.slice al la.length cl)) 205)):=Kp.alloc _ _
   have bx:CBox w2.heap.size (moC ⟨ev,ns,la⟩ (.slice an ns.length cn) (.slice al la.length cl)) 205 (w2.alloc (.cells (moC ⟨ev,ns,la⟩ (.slice an ns.length cn) (.slice al la.length cl)) 205)):=CBox.new w2 _ _
   have hM:MoAt w2.heap.size ⟨ev,ns,la⟩ an al cn cl (w2.alloc (.cells (moC ⟨ev,ns,la⟩ (.slice an ns.length cn) (.slice al la.length cl)) 205)):=⟨bx,hN.kp k2 (by simp),hE.kp k2 (by simp),hln,hll⟩
   have HS:=q5f (M:=⟨ev,ns,la⟩) ad cap xs t5 _ (hA.kp k2) bx rfl hln (hN.kp k2 (by simp))
   have HB3:=hZq ((uQ HB).alloc (uQ HB).size (.cells (moC ⟨ev,ns,la⟩ (.slice an ns.length cn) (.slice al la.length cl)) 205))
   have HFV:Hid (hasS ns xs=true-> ∀w3,Below (w2.alloc (.cells (moC ⟨ev,ns,la⟩ (.slice an ns.length cn) (.slice al la.length cl)) 205)).heap.size (w2.alloc (.cells (moC ⟨ev,ns,la⟩ (.slice an ns.length cn) (.slice al la.length cl)) 205)) w3->Calls Tryz.prog 122 #[.slice ad xs.length cap, .func (.func 123) #[.pointer (some ⟨w2.heap.size,0,none⟩)] #[]] w3 fun e w'=>e= .returned (foRV (fdX (vlv ⟨ev,ns,la⟩) xs))/\Below w3.heap.size w3 w'):=hZq (fun hs w3 hb3=>q6N (M:=⟨ev,ns,la⟩) ad cap xs t5 w3 ((hA.kp k2).kp (Kp.ofBelow hb3)) (hM.below hb3) (uQ HLV) hs)
   have HHS:Hid (Calls Tryz.prog 121 #[.pointer (some ⟨w2.heap.size,0,none⟩), .slice ad xs.length cap] (w2.alloc (.cells (moC ⟨ev,ns,la⟩ (.slice an ns.length cn) (.slice al la.length cl)) 205)) fun e w'=>e= .returned (.bool (hasS ns xs))/\Below (w2.alloc (.cells (moC ⟨ev,ns,la⟩ (.slice an ns.length cn) (.slice al la.length cl)) 205)).heap.size (w2.alloc (.cells (moC ⟨ev,ns,la⟩ (.slice an ns.length cn) (.slice al la.length cl)) 205)) w'):=hZq HS
   have HOK2:=hZq (uQ HOKK hll)
   have HNO2:Hid (hasS ns xs=false->D=5/\B=false):=hZq (fun h=>uQ HN0 (Or.inr h))
   clear HAT hA hN hE k2 bx hM HS HN0 HOKK HLV HB
   unfold moC at HHS HFV HB3
   dsimp only at HHS HFV HB3
   rw[hll]at HHS HFV HB3 ⊢
   clear gl
   generalize fdX (vlv ⟨ev,ns,la⟩) xs=FX at *
   generalize hasS ns xs=SB at *
   go_wp2_with fail
   refine (uQ HHS).mono ?_
   rintro e w3 ⟨rfl,hb3⟩
   have HB4:=hZq ((uQ HB3).trans (hb3.mono (uQ HB3).size))
   cases SB with
   |false=>
    obtain ⟨rfl,rfl⟩:=uQ HNO2 rfl
    clear HOK2 HNO2 HFV HHS HB3 hb3
    go_wp2
    exact bodyPost_ret (results_tmp2 rfl _ _ _) rfl ⟨rfl,uQ HB4⟩
   |true=>
    have FV:=hZq (uQ HFV rfl w3 hb3)
    obtain ⟨rfl,v,hv,rfl⟩:=uQ HOK2 rfl
    rw[hv]at FV
    unfold foRV vlE at FV
    dsimp only at FV
    clear HOK2 HNO2 HFV HHS HB3 hb3 hv
    obtain ⟨vn,vs,vt⟩:=v
    dsimp only at FV ⊢
    go_wp2_with fail
    refine (uQ FV).mono ?_
    rintro e w4 ⟨rfl,hb4⟩
    have HB5:=hZq (((uQ HB4).trans (hb4.mono (uQ HB4).size)).alloc (by have:=(uQ HB4).size;have:=hb4.size;omega) (.cells #[.int .i64 vn, .string vs, .bool vt] 208))
    clear hb4 HB4 FV
    go_wp2
    exact bodyPost_ret (results_tmp2 rfl _ _ _) rfl ⟨rfl,uQ HB5⟩
  ·have gl:((ns.length:Int)==(la.length:Int))=false:=beq_eq_false_iff_ne.2 (by omega)
   obtain ⟨rfl,rfl⟩:=uQ HN0 (Or.inl hll)
   have HB3:=hZq ((uQ HB).alloc (uQ HB).size (.cells (moC ⟨ev,ns,la⟩ (.slice an ns.length cn) (.slice al la.length cl)) 205))
   clear HN0 HOKK HAT HLV HB
   go_wp2
   exact bodyPost_ret (results_tmp2 rfl _ _ _) rfl ⟨rfl,uQ HB3⟩
 ·obtain ⟨q1,q2⟩:=q9b (M:=⟨ev,ns,la⟩) h3
  rw[q1,q2]
  clear q1 q2
  have g3:(ckK xs==3)=false:=beq_eq_false_iff_ne.2 h3
  generalize (if ckK xs=0 then (110:Int) else 0)=EC at *
  generalize ckK xs=ck at *
  go_enter Tryz.func104,Tryz.ntmps104
  go_wp2_with fail
  refine (uQ HCK).mono ?_
  rintro e w2 ⟨rfl,hb2⟩
  obtain ⟨eb,HB,HAT⟩:=uQ HL w2 hb2
  clear HCK HL hb2 eb hfit
  go_wp2
  exact bodyPost_ret (results_tmp2 rfl _ _ _) rfl ⟨rfl,uQ HB⟩
end Go.Proofs.YtcmjnlpofebbmaaGreatDoor
