/-
  Walks and plain facts, made small.
-/
import Derived.Test.YtcmjnlpofebbmaaGreatDoorMa26
set_option maxRecDepth 100000
set_option maxHeartbeats 8000000
set_option linter.unusedSimpArgs false
namespace Go.Proofs.YtcmjnlpofebbmaaGreatDoor
open Go.RowKit Go.Shelf
theorem q3c (sa:Option Addr)(sc n:Nat)(wi:Int)(l:List Stg)(hn:l.length=n)(s:Int)(w:World):
  Calls Tryz.prog 100 #[.agg #[.slice sa n sc, .int .i64 wi], .int .i64 s] w fun e w'=>e= .returned (.bool (isS l s))/\Kp [] w w':=by
 have hb:=CBox.new w #[.slice sa n sc, .int .i64 wi] 24
 have p0:=hb.cell (i:=0) (v:= .slice sa n sc) rfl
 have hk:=hZq (Kp.alloc w (.cells #[.slice sa n sc, .int .i64 wi] 24))
 have hR:isS l s=(decide (1<=s) && decide (s<=(n:Int))):=by unfold isS;rw[hn]
 rw[hR]
 clear hb hn hR
 by_cases h1:1<=s
 ·have g1:(1<=s)=True:=by simp[h1]
  have e:(decide (1<=s) && decide (s<=(n:Int)))=decide (s<=(n:Int)):=by simp[h1]
  rw[e]
  clear h1 e
  go_enter Tryz.func100,Tryz.ntmps100
  go_wp2
  go_ret
  exact ⟨rfl,uQ hk⟩
 ·have g1:(1<=s)=False:=by simp[h1]
  have e:(decide (1<=s) && decide (s<=(n:Int)))=false:=by simp[h1]
  rw[e]
  clear h1 e
  go_enter Tryz.func100,Tryz.ntmps100
  go_wp2
  go_ret
  exact ⟨rfl,uQ hk⟩
theorem q5l (h:Int)(b:Bool)(w:World):Calls Tryz.prog 177 #[.int .i64 h, .bool b] w fun e w'=>e= .returned (.bool (stay h b))/\Kp [] w w':=by
 by_cases h3:h=3
 ·subst h3
  have e:stay 3 b=true:=rfl
  rw[e]
  go_enter Tryz.func177,Tryz.ntmps177
  go_wp2
  go_ret
  exact ⟨rfl,Kp.refl _ _⟩
 ·by_cases h2:h=2
  ·subst h2
   have e:stay 2 b= !b:=rfl
   rw[e]
   clear h3
   go_enter Tryz.func177,Tryz.ntmps177
   go_wp2
   go_ret
   exact ⟨rfl,Kp.refl _ _⟩
  ·have e:stay h b=false:=by unfold stay;simp[h2,h3]
   rw[e]
   have g3:(h==3)=false:=by simp[h3]
   have g2:(h==2)=false:=by simp[h2]
   clear h2 h3 e
   go_enter Tryz.func177,Tryz.ntmps177
   go_wp2
   go_ret
   exact ⟨rfl,Kp.refl _ _⟩
theorem qc5 (n:Nd):ndE n ⟨n.st,false,false⟩= !n.live:=by
 obtain ⟨s,a,b⟩:=n
 unfold ndE Nd.live
 cases a <;> cases b <;> simp
theorem q8i (n:Nd)(w:World):Calls Tryz.prog 145 #[.agg n.c] w fun e w'=>e= .returned (.bool (!n.live))/\Kp [] w w':=by
 have q:=fun W=>eqN 9998 n ⟨n.st,false,false⟩ W
 rw[qc5]at q
 have hb:=CBox.new w n.c 136
 have hk:=hZq (Kp.alloc w (.cells n.c 136))
 generalize (!n.live)=L at *
 obtain ⟨s,a,b⟩:=n
 unfold Nd.c at *
 dsimp only at *
 have c0:=hb.cell (i:=0) (v:= .int .i64 s) rfl
 have c1:=hb.cell (i:=1) (v:= .bool a) rfl
 have c2:=hb.cell (i:=2) (v:= .bool b) rfl
 clear hb
 go_enter Tryz.func145,Tryz.ntmps145
 go_wp2
 go_ret
 exact ⟨rfl,uQ hk⟩
theorem q9u (sa:Option Addr)(sc:Nat)(l:List SR)(wi:Int)(n:Nd)(w:World)(h:StsAt w sa l)(hl:l.length<=9223372036854775807):
  Calls Tryz.prog 143 #[.agg #[.slice sa l.length sc, .int .i64 wi], .agg n.c] w fun e w'=>e= .returned (.bool (mayN (stgs l) n))/\Kp [] w w':=by
 have k0:Kp [] w ((w.alloc (.cells #[.slice sa l.length sc, .int .i64 wi] 24)).alloc (.cells n.c 136)):=(Kp.alloc _ _).trans (Kp.alloc _ _) (by simp)
 have hP:=q47 w #[.slice sa l.length sc, .int .i64 wi] 24 (.cells n.c 136)
 have hN:=q48 w n.c 136 (.cells #[.slice sa l.length sc, .int .i64 wi] 24)
 have hsz:((w.alloc (.cells #[.slice sa l.length sc, .int .i64 wi] 24)).alloc (.cells n.c 136)).heap.size=w.heap.size+2:=by simp
 have IS:=hZq (fun W=>q3c sa sc l.length wi (stgs l) (q03 l) n.st W)
 have TK:Hid (isS (stgs l) n.st=true-> ∀W,Kp [] w W->Calls Tryz.prog 101 #[.agg #[.slice sa l.length sc, .int .i64 wi], .int .i64 n.st] W fun e w'=>e= .returned (.agg (bgN (stgs l) n.st.toNat).c)/\Kp [] W w'):=hZq (fun hs W hk=>by
  obtain ⟨g1,g2⟩:=isS_iff.1 hs
  rw[q03]at g2
  have:=q2f sa sc l wi n.st.toNat W (h.kp hk) hl (by omega) (by omega)
  rwa [show ((n.st.toNat:Nat):Int)=n.st by omega]at this)
 have HM:Hid (mayN (stgs l) n=(isS (stgs l) n.st && (((bgN (stgs l) n.st.toNat).lp|| !n.lp) && ((bgN (stgs l) n.st.toNat).tk|| !n.tk)))):=hZq rfl
 have HV:Hid (∀W,Kp [] ((w.alloc (.cells #[.slice sa l.length sc, .int .i64 wi] 24)).alloc (.cells n.c 136)) W->(W.cell? ⟨w.heap.size,0,none⟩=some (.slice sa l.length sc)/\W.cell? ⟨w.heap.size,1,none⟩=some (.int .i64 wi)/\W.cell? ⟨w.heap.size+1,0,none⟩=some (.int .i64 n.st)/\W.cell? ⟨w.heap.size+1,1,none⟩=some (.bool n.lp)/\W.cell? ⟨w.heap.size+1,2,none⟩=some (.bool n.tk))/\Hid (Kp [] w W)/\w.heap.size+1<W.heap.size):=hZq (fun W hk=>⟨⟨(hP.kp hk (by simp)).cell rfl,(hP.kp hk (by simp)).cell rfl,(hN.kp hk (by simp)).cell rfl,(hN.kp hk (by simp)).cell rfl,(hN.kp hk (by simp)).cell rfl⟩,hZq (k0.trans hk (by simp)),by have:=hk.size;omega⟩)
 clear k0 hP hN hsz h hl
 generalize bgN (stgs l) n.st.toNat=M at *
 generalize mayN (stgs l) n=R at *
 generalize isS (stgs l) n.st=I at *
 generalize l.length=nn at *
 obtain ⟨s,a,b⟩:=n
 obtain ⟨ms,ma,mb⟩:=M
 unfold Nd.c at *
 dsimp only at *
 obtain ⟨⟨c0,c1,c2,c3,c4⟩,_,hlt⟩:=uQ HV _ (Kp.refl _ _)
 go_enter Tryz.func143,Tryz.ntmps143
 go_wp2_with fail
 refine (uQ IS _).mono ?_
 rintro e w1 ⟨rfl,hk1⟩
 have HK1:=hZq hk1
 obtain ⟨⟨d0,d1,d2,d3,d4⟩,HW1,hlt1⟩:=uQ HV _ hk1
 clear c0 c1 c2 c3 c4 hlt hk1 IS
 cases I with
 |false=>
  have hR:=uQ HM
  rw[Bool.false_and]at hR
  subst hR
  clear TK HM
  go_wp2
  go_ret
  exact ⟨rfl,uQ HW1⟩
 |true=>
  have T1:=hZq (uQ TK rfl w1 (uQ HW1))
  clear TK
  go_wp2_with fail
  refine (uQ T1).mono ?_
  rintro e w2 ⟨rfl,hk2⟩
  have HR:=uQ HM
  rw[Bool.true_and]at HR
  obtain ⟨⟨e0,e1,e2,e3,e4⟩,HW2,hlt2⟩:=uQ HV _ ((uQ HK1).trans hk2 (by simp))
  have hbx:=CBox.new w2 #[.int .i64 ms, .bool ma, .bool mb] 136
  have q1:=hbx.cell (i:=1) (v:= .bool ma) rfl
  have q2:=hbx.cell (i:=2) (v:= .bool mb) rfl
  have HF:=hZq ((uQ HW2).trans (Kp.alloc w2 (.cells #[.int .i64 ms, .bool ma, .bool mb] 136)) (by simp))
  subst HR
  clear T1 hk2 HM d0 d1 d2 d3 d4 hbx HV HK1 HW1 HW2
  cases ma <;> cases a <;> cases mb <;> cases b <;> (go_wp2;go_ret;exact ⟨rfl,uQ HF⟩)
open Go.RowKit Go.Shelf
structure PsB (w W:World)(pc:Array Value)(n r:Nd):Prop where
 p:CBox w.heap.size pc 24 W
 n:CBox (w.heap.size+1) n.c 136 W
 r:CBox (w.heap.size+1+1) r.c 136 W
 k:Kp [] w W
theorem PsB.new (w:World)(pc:Array Value)(n:Nd):PsB w (((w.alloc (.cells pc 24)).alloc (.cells n.c 136)).alloc (.cells zN.c 136)) pc n zN:=by
 refine ⟨?_,?_,?_,((Kp.alloc _ _).trans (Kp.alloc _ _) (by simp)).trans (Kp.alloc _ _) (by simp)⟩
 ·exact ((CBox.new w _ _).kp (Kp.alloc _ _) (by simp)).kp (Kp.alloc _ _) (by simp)
 ·have:=(CBox.new (w.alloc (.cells pc 24)) n.c 136).kp (Kp.alloc _ (.cells zN.c 136)) (by simp)
  rwa [show (w.alloc (.cells pc 24)).heap.size=w.heap.size+1 by simp]at this
 ·have:=CBox.new ((w.alloc (.cells pc 24)).alloc (.cells n.c 136)) zN.c 136
  rwa [show ((w.alloc (.cells pc 24)).alloc (.cells n.c 136)).heap.size=w.heap.size+1+1 by simp]at this
theorem PsB.kp {w W W':World}{pc:Array Value}{n r:Nd}(h:PsB w W pc n r)(hk:Kp [] W W'):PsB w W' pc n r:=
 ⟨h.p.kp hk (by simp),h.n.kp hk (by simp),h.r.kp hk (by simp),h.k.trans hk (by simp)⟩
theorem PsB.cells {w W:World}{pc:Array Value}{n r:Nd}(h:PsB w W pc n r):W.cell? ⟨w.heap.size+1,0,none⟩=some (.int .i64 n.st)/\W.cell? ⟨w.heap.size+1,1,none⟩=some (.bool n.lp)/\W.cell? ⟨w.heap.size+1,2,none⟩=some (.bool n.tk)/\W.cell? ⟨w.heap.size+1+1,0,none⟩=some (.int .i64 r.st)/\W.cell? ⟨w.heap.size+1+1,1,none⟩=some (.bool r.lp)/\W.cell? ⟨w.heap.size+1+1,2,none⟩=some (.bool r.tk):=
 ⟨h.n.cell rfl,h.n.cell rfl,h.n.cell rfl,h.r.cell rfl,h.r.cell rfl,h.r.cell rfl⟩
theorem PsB.froz {w W:World}{pc:Array Value}{n r:Nd}(h:PsB w W pc n r):W.frozen? ⟨w.heap.size+1,1,none⟩=false/\W.frozen? ⟨w.heap.size+1,2,none⟩=false/\W.frozen? ⟨w.heap.size+1+1,0,none⟩=false/\W.frozen? ⟨w.heap.size+1+1,1,none⟩=false/\W.frozen? ⟨w.heap.size+1+1,2,none⟩=false:=
 ⟨h.n.froz _,h.n.froz _,h.r.froz _,h.r.froz _,h.r.froz _⟩
theorem PsB.loop {w W:World}{pc:Array Value}{n r:Nd}(h:PsB w W pc n r)(x:Bool):PsB w (W.setCell ⟨w.heap.size+1,1,none⟩ (.bool x)) pc ⟨n.st,x,n.tk⟩ r:=
 ⟨h.p.kp (Kp.set _ _ _ _) (by simp),h.n.set 1 (.bool x),h.r.kp (Kp.set _ _ _ _) (by simp),h.k.trans (Kp.set _ _ _ _) (by simp)⟩
theorem PsB.take {w W:World}{pc:Array Value}{n r:Nd}(h:PsB w W pc n r)(x:Bool):PsB w (W.setCell ⟨w.heap.size+1,2,none⟩ (.bool x)) pc ⟨n.st,n.lp,x⟩ r:=
 ⟨h.p.kp (Kp.set _ _ _ _) (by simp),h.n.set 2 (.bool x),h.r.kp (Kp.set _ _ _ _) (by simp),h.k.trans (Kp.set _ _ _ _) (by simp)⟩
theorem PsB.out {w W:World}{pc:Array Value}{n r:Nd}(h:PsB w W pc n r):CBox (w.heap.size+1+1) n.c 136 (((W.setCell ⟨w.heap.size+1+1,0,none⟩ (.int .i64 n.st)).setCell ⟨w.heap.size+1+1,1,none⟩ (.bool n.lp)).setCell ⟨w.heap.size+1+1,2,none⟩ (.bool n.tk))/\Kp [] w (((W.setCell ⟨w.heap.size+1+1,0,none⟩ (.int .i64 n.st)).setCell ⟨w.heap.size+1+1,1,none⟩ (.bool n.lp)).setCell ⟨w.heap.size+1+1,2,none⟩ (.bool n.tk)):=
 q3a h.k (by omega) h.r _ _ _
theorem q8s (sa:Option Addr)(sc:Nat)(l:List SR)(wi:Int)(n:Nd)(lo ta:Bool)(w:World)(h:StsAt w sa l)(hl:l.length<=9223372036854775807)(hm:mayN (stgs l) n=true):
  Calls Tryz.prog 144 #[.agg #[.slice sa l.length sc, .int .i64 wi], .agg n.c, .bool lo, .bool ta] w fun e w'=>e= .returned (.agg (psN (stgs l) n lo ta).c)/\Kp [] w w':=by
 obtain ⟨m1,m2,m3⟩:=q4Y hm
 obtain ⟨g1,g2⟩:=isS_iff.1 m1
 rw[q03]at g2 m3
 obtain ⟨k,hk⟩: ∃k:Nat,n.st=(k:Int)+1:=⟨n.st.toNat-1,by omega⟩
 have hkl:k<l.length:=by omega
 obtain ⟨b,off,rfl,hbl, -,x1, -, -, -⟩:=h.at k hkl
 have hw1:hwAt (stgs l) (n.st.toNat-1)=l[k].s.hw:=by rw[q5P (by rw[q03];omega)];have:=q16 hkl;simp only[show n.st.toNat-1=k by omega,this]
 have X2:Hid (n.tk=true-> ∃hk1:k+1<l.length,(∀W,Kp [] w W->W.cell? ⟨b,off+(k+1) * 4+1,none⟩=some (.int .i64 (l[k+1]'hk1).s.hw))/\hwAt (stgs l) n.st.toNat=(l[k+1]'hk1).s.hw):=hZq (fun e=>by
  have hk1:k+1<l.length:=by have:=m3 e;omega
  obtain ⟨b',off',e', -, -,y1, -, -, -⟩:=h.at (k+1) hk1
  injection e' with e'
  injection e' with e1 e2
  subst e1 e2
  refine ⟨hk1,fun W hW=>hW.cell y1 (by simp),?_⟩
  rw[q5P (by rw[q03];omega)]
  have:=q16 hk1
  simp only[show n.st.toNat=k+1 by omega,this])
 have B0:=PsB.new w #[.slice (some ⟨b,off,none⟩) l.length sc, .int .i64 wi] n
 have HP:Hid (∀W,Kp [] w W->W.cell? ⟨b,off+k * 4+1,none⟩=some (.int .i64 l[k].s.hw)):=hZq (fun W hW=>hW.cell x1 (by simp))
 have SO:=hZq (fun x y W=>q5l x y W)
 have hsub:IntKind.i64.wrap ((k:Int)+1-1)=(k:Int):=by simp only[IntKind.wrap_i64];omega
 have hli:(k:Int)<(l.length:Int):=by omega
 have HTK:Hid (n.tk=true->k+1<l.length):=hZq (fun e=>by have:=m3 e;omega)
 unfold psN
 rw[hw1]
 obtain ⟨st,a,bb⟩:=n
 dsimp only at hk
 subst hk
 dsimp only at X2 HTK hw1 ⊢
 generalize l[k].s.hw=H1 at *
 generalize hwAt (stgs l) ((k:Int)+1).toNat=H2 at *
 clear h hm m1 m2 m3 g1 x1 hw1
 have p0:=B0.p.cell (i:=0) (v:= .slice (some ⟨b,off,none⟩) l.length sc) rfl
 obtain ⟨c0,c1,c2,c3,c4,c5⟩:=B0.cells
 have HB0:=hZq B0
 dsimp only at c0 c1 c2
 clear B0
 unfold Nd.c zN at HB0 c0 c1 c2 c3 c4 c5
 unfold Nd.c zN at p0
 unfold Nd.c
 dsimp only at HB0 c0 c1 c2 c3 c4 c5 p0 ⊢
 go_enter Tryz.func144,Tryz.ntmps144
 go_upto_if 10 with fail
 go_cut [] (fun wc=>Hid (PsB w wc #[.slice (some ⟨b,off,none⟩) l.length sc, .int .i64 wi] ⟨(k:Int)+1,a && stay H1 lo,bb⟩ zN))
 case first=>
  cases a with
  |true=>
   have q:=uQ HP _ (uQ HB0).k
   have hbl2:=Nat.lt_of_lt_of_le hbl (uQ HB0).k.size
   have SO1:=hZq (uQ SO H1 lo)
   clear SO HTK X2 HP c3 c4 c5
   go_wp2_with fail
   refine (uQ SO1 _).mono ?_
   rintro e w1 ⟨rfl,hk1⟩
   have B1:=(uQ HB0).kp hk1
   obtain ⟨d0,d1,d2,d3,d4,d5⟩:=B1.cells
   obtain ⟨f1,f2,f3,f4,f5⟩:=B1.froz
   have B2:=hZq (B1.loop (stay H1 lo))
   clear B1 hk1 HB0 SO1 c0 c1 c2 p0 q
   dsimp only at d0 d1 d2
   go_wp2
   go_meet
   exact B2
  |false=>
   clear SO HTK X2 HP c3 c4 c5
   go_wp2
   go_meet
   exact HB0
 case rest=>
  have HB1:=hcut
  have p1:=(uQ HB1).p.cell (i:=0) (v:= .slice (some ⟨b,off,none⟩) l.length sc) rfl
  obtain ⟨d0,d1,d2,d3,d4,d5⟩:=(uQ HB1).cells
  dsimp only at d0 d1 d2
  obtain ⟨A,hA⟩: ∃A,(a && stay H1 lo)=A:=⟨_,rfl⟩
  rw[hA]at HB1 d1
  have HA:=hZq hA
  clear hA
  clear HB0 c0 c1 c2 c3 c4 c5 p0 hcut HP hsub hli
  go_upto_if 23 with fail
  go_cut [] (fun wc=>Hid (PsB w wc #[.slice (some ⟨b,off,none⟩) l.length sc, .int .i64 wi] ⟨(k:Int)+1,A,bb && stay H2 ta⟩ zN))
  case first=>
   cases bb with
   |true=>
    obtain ⟨hk1,q0,qe⟩:=uQ X2 rfl
    have q:=q0 _ (uQ HB1).k
    rw[<-qe]at q
    have hli:((k:Int)+1)<(l.length:Int):=by omega
    have hbl2:=Nat.lt_of_lt_of_le hbl (uQ HB1).k.size
    have SO1:=hZq (uQ SO H2 ta)
    clear SO HTK X2 d3 d4 d5 q0 qe
    go_wp2_with fail
    refine (uQ SO1 _).mono ?_
    rintro e w1 ⟨rfl,hk1⟩
    have B1:=(uQ HB1).kp hk1
    obtain ⟨e0,e1,e2,e3,e4,e5⟩:=B1.cells
    obtain ⟨f1,f2,f3,f4,f5⟩:=B1.froz
    have B2:=hZq (B1.take (stay H2 ta))
    clear B1 hk1 HB1 SO1 d0 d1 d2 p1 q
    dsimp only at e0 e1 e2
    go_wp2
    go_meet
    exact B2
   |false=>
    clear SO HTK X2 d3 d4 d5
    go_wp2
    go_meet
    exact HB1
  case rest=>
   have HB2:=hcut
   obtain ⟨e0,e1,e2,e3,e4,e5⟩:=(uQ HB2).cells
   obtain ⟨f1,f2,f3,f4,f5⟩:=(uQ HB2).froz
   dsimp only at e0 e1 e2
   have HO:=hZq (uQ HB2).out
   dsimp only at HO
   obtain ⟨BB,hBB⟩: ∃BB,(bb && stay H2 ta)=BB:=⟨_,rfl⟩
   rw[hBB]at e2 HO HB2
   have HBB:=hZq hBB
   clear hBB
   clear HB1 d0 d1 d2 d3 d4 d5 p1 hcut SO HTK X2
   go_wp2
   obtain ⟨hx,hy⟩:=uQ HO
   exact bodyPost_ret (results_cell_row Tryz.results144 _ _ (w.heap.size+1+1) 136 _ (0,0) _ rfl hx Tryz.underlying136 rfl q1G) rfl ⟨by rw[uQ HA,uQ HBB];rfl,hy⟩
open Go.RowKit Go.Shelf
structure StB (w W:World)(pc:Array Value)(n:Nd)(s:Sps):Prop where
 p:CBox w.heap.size pc 24 W
 n:CBox (w.heap.size+1) n.c 136 W
 r:CBox (w.heap.size+1+1) zS.c 175 W
 s:CBox (w.heap.size+1+1+1) s.c 175 W
 k:Kp [] w W
theorem StB.new (w:World)(pc:Array Value)(n:Nd):StB w ((((w.alloc (.cells pc 24)).alloc (.cells n.c 136)).alloc (.cells zS.c 175)).alloc (.cells zS.c 175)) pc n zS:=by
 have e1:(w.alloc (.cells pc 24)).heap.size=w.heap.size+1:=by simp
 have e2:((w.alloc (.cells pc 24)).alloc (.cells n.c 136)).heap.size=w.heap.size+1+1:=by simp
 have e3:(((w.alloc (.cells pc 24)).alloc (.cells n.c 136)).alloc (.cells zS.c 175)).heap.size=w.heap.size+1+1+1:=by simp
 refine ⟨?_,?_,?_,?_,(((Kp.alloc _ _).trans (Kp.alloc _ _) (by simp)).trans (Kp.alloc _ _) (by simp)).trans (Kp.alloc _ _) (by simp)⟩
 ·exact (((CBox.new w _ _).kp (Kp.alloc _ _) (by simp)).kp (Kp.alloc _ _) (by simp)).kp (Kp.alloc _ _) (by simp)
 ·have:=((CBox.new (w.alloc (.cells pc 24)) n.c 136).kp (Kp.alloc _ (.cells zS.c 175)) (by simp)).kp (Kp.alloc _ (.cells zS.c 175)) (by simp)
  rwa [e1]at this
 ·have:=(CBox.new ((w.alloc (.cells pc 24)).alloc (.cells n.c 136)) zS.c 175).kp (Kp.alloc _ (.cells zS.c 175)) (by simp)
  rwa [e2]at this
 ·have:=CBox.new (((w.alloc (.cells pc 24)).alloc (.cells n.c 136)).alloc (.cells zS.c 175)) zS.c 175
  rwa [e3]at this
theorem StB.kp {w W W':World}{pc:Array Value}{n:Nd}{s:Sps}(h:StB w W pc n s)(hk:Kp [] W W'):StB w W' pc n s:=
 ⟨h.p.kp hk (by simp),h.n.kp hk (by simp),h.r.kp hk (by simp),h.s.kp hk (by simp),h.k.trans hk (by simp)⟩
theorem StB.cells {w W:World}{v u:Value}{n:Nd}{s:Sps}(h:StB w W #[v,u] n s):(W.cell? ⟨w.heap.size,0,none⟩=some v/\W.cell? ⟨w.heap.size,1,none⟩=some u)/\W.cell? ⟨w.heap.size+1,0,none⟩=some (.int .i64 n.st)/\W.cell? ⟨w.heap.size+1,1,none⟩=some (.bool n.lp)/\W.cell? ⟨w.heap.size+1,2,none⟩=some (.bool n.tk):=
 ⟨⟨h.p.cell rfl,h.p.cell rfl⟩,h.n.cell rfl,h.n.cell rfl,h.n.cell rfl⟩
theorem StB.s0 {w W:World}{pc:Array Value}{n:Nd}{s:Sps}(h:StB w W pc n s):(W.cell? ⟨w.heap.size+1+1+1,0,none⟩=some (.int .i64 s.lp.st)/\W.cell? ⟨w.heap.size+1+1+1,1,none⟩=some (.bool s.lp.lp)/\W.cell? ⟨w.heap.size+1+1+1,2,none⟩=some (.bool s.lp.tk)/\W.cell? ⟨w.heap.size+1+1+1,9,none⟩=some (.bool s.cl))/\(∀i,W.frozen? ⟨w.heap.size+1+1+1,i,none⟩=false):=
 ⟨⟨h.s.cell rfl,h.s.cell rfl,h.s.cell rfl,h.s.cell rfl⟩,h.s.froz⟩
theorem StB.s1 {w W:World}{pc:Array Value}{n:Nd}{s:Sps}(h:StB w W pc n s):(W.cell? ⟨w.heap.size+1+1+1,3,none⟩=some (.int .i64 s.tk.st)/\W.cell? ⟨w.heap.size+1+1+1,4,none⟩=some (.bool s.tk.lp)/\W.cell? ⟨w.heap.size+1+1+1,5,none⟩=some (.bool s.tk.tk)/\W.cell? ⟨w.heap.size+1+1+1,10,none⟩=some (.bool s.ct))/\(∀i,W.frozen? ⟨w.heap.size+1+1+1,i,none⟩=false):=
 ⟨⟨h.s.cell rfl,h.s.cell rfl,h.s.cell rfl,h.s.cell rfl⟩,h.s.froz⟩
theorem StB.s2 {w W:World}{pc:Array Value}{n:Nd}{s:Sps}(h:StB w W pc n s):(W.cell? ⟨w.heap.size+1+1+1,6,none⟩=some (.int .i64 s.wt.st)/\W.cell? ⟨w.heap.size+1+1+1,7,none⟩=some (.bool s.wt.lp)/\W.cell? ⟨w.heap.size+1+1+1,8,none⟩=some (.bool s.wt.tk)/\W.cell? ⟨w.heap.size+1+1+1,11,none⟩=some (.bool s.cw))/\(∀i,W.frozen? ⟨w.heap.size+1+1+1,i,none⟩=false):=
 ⟨⟨h.s.cell rfl,h.s.cell rfl,h.s.cell rfl,h.s.cell rfl⟩,h.s.froz⟩
def put4 (W:World)(g f i:Nat)(x:Nd):World:=(((W.setCell ⟨g,f,none⟩ (.bool true)).setCell ⟨g,i,none⟩ (.int .i64 x.st)).setCell ⟨g,i+1,none⟩ (.bool x.lp)).setCell ⟨g,i+2,none⟩ (.bool x.tk)
theorem Kp.put4 (W:World)(g f i:Nat)(x:Nd):Kp [g] W (put4 W g f i x):=(((Kp.set _ _ _ _).trans (Kp.set _ _ _ _) (by simp)).trans (Kp.set _ _ _ _) (by simp)).trans (Kp.set _ _ _ _) (by simp)
theorem StB.put {w W W':World}{pc:Array Value}{n:Nd}{s s':Sps}(h:StB w W pc n s)(hk:Kp [w.heap.size+1+1+1] W W')(hs:CBox (w.heap.size+1+1+1) s'.c 175 W'):StB w W' pc n s':=
 ⟨h.p.kp hk (by simp;omega),h.n.kp hk (by simp),h.r.kp hk (by simp),hs,h.k.trans hk (fun x hx=>Or.inr (by simp only[List.mem_singleton]at hx;omega))⟩
theorem StB.loop {w W:World}{pc:Array Value}{n:Nd}{s:Sps}(h:StB w W pc n s)(x:Nd):StB w (put4 W (w.heap.size+1+1+1) 9 0 x) pc n ⟨x,s.tk,s.wt,true,s.ct,s.cw⟩:=
 h.put (Kp.put4 _ _ _ _ _) ((((h.s.set 9 (.bool true)).set 0 (.int .i64 x.st)).set 1 (.bool x.lp)).set 2 (.bool x.tk))
theorem StB.take {w W:World}{pc:Array Value}{n:Nd}{s:Sps}(h:StB w W pc n s)(x:Nd):StB w (put4 W (w.heap.size+1+1+1) 10 3 x) pc n ⟨s.lp,x,s.wt,s.cl,true,s.cw⟩:=
 h.put (Kp.put4 _ _ _ _ _) ((((h.s.set 10 (.bool true)).set 3 (.int .i64 x.st)).set 4 (.bool x.lp)).set 5 (.bool x.tk))
theorem StB.wait {w W:World}{pc:Array Value}{n:Nd}{s:Sps}(h:StB w W pc n s)(x:Nd):StB w (put4 W (w.heap.size+1+1+1) 11 6 x) pc n ⟨s.lp,s.tk,x,s.cl,s.ct,true⟩:=
 h.put (Kp.put4 _ _ _ _ _) ((((h.s.set 11 (.bool true)).set 6 (.int .i64 x.st)).set 7 (.bool x.lp)).set 8 (.bool x.tk))
theorem q8w {g:Nat}{t:TypeId}{W:World}{x0 x1 x2 x3 x4 x5 x6 x7 x8 x9 x10 x11:Value}(h:CBox g #[x0,x1,x2,x3,x4,x5,x6,x7,x8,x9,x10,x11] t W)(a0 a1 a2 a3 a4 a5 a6 a7 a8 a9 a10 a11:Value):
  CBox g #[a0,a1,a2,a3,a4,a5,a6,a7,a8,a9,a10,a11] t ((((((((((((W.setCell ⟨g,0,none⟩ a0).setCell ⟨g,1,none⟩ a1).setCell ⟨g,2,none⟩ a2).setCell ⟨g,3,none⟩ a3).setCell ⟨g,4,none⟩ a4).setCell ⟨g,5,none⟩ a5).setCell ⟨g,6,none⟩ a6).setCell ⟨g,7,none⟩ a7).setCell ⟨g,8,none⟩ a8).setCell ⟨g,9,none⟩ a9).setCell ⟨g,10,none⟩ a10).setCell ⟨g,11,none⟩ a11)/\Kp [g] W ((((((((((((W.setCell ⟨g,0,none⟩ a0).setCell ⟨g,1,none⟩ a1).setCell ⟨g,2,none⟩ a2).setCell ⟨g,3,none⟩ a3).setCell ⟨g,4,none⟩ a4).setCell ⟨g,5,none⟩ a5).setCell ⟨g,6,none⟩ a6).setCell ⟨g,7,none⟩ a7).setCell ⟨g,8,none⟩ a8).setCell ⟨g,9,none⟩ a9).setCell ⟨g,10,none⟩ a10).setCell ⟨g,11,none⟩ a11):=by
 have h0:CBox g #[a0,x1,x2,x3,x4,x5,x6,x7,x8,x9,x10,x11] t (W.setCell ⟨g,0,none⟩ a0):=h.set 0 a0
 have h1:CBox g #[a0,a1,x2,x3,x4,x5,x6,x7,x8,x9,x10,x11] t ((W.setCell ⟨g,0,none⟩ a0).setCell ⟨g,1,none⟩ a1):=h0.set 1 a1
 have h2:CBox g #[a0,a1,a2,x3,x4,x5,x6,x7,x8,x9,x10,x11] t (((W.setCell ⟨g,0,none⟩ a0).setCell ⟨g,1,none⟩ a1).setCell ⟨g,2,none⟩ a2):=h1.set 2 a2
 have h3:CBox g #[a0,a1,a2,a3,x4,x5,x6,x7,x8,x9,x10,x11] t ((((W.setCell ⟨g,0,none⟩ a0).setCell ⟨g,1,none⟩ a1).setCell ⟨g,2,none⟩ a2).setCell ⟨g,3,none⟩ a3):=h2.set 3 a3
 have h4:CBox g #[a0,a1,a2,a3,a4,x5,x6,x7,x8,x9,x10,x11] t (((((W.setCell ⟨g,0,none⟩ a0).setCell ⟨g,1,none⟩ a1).setCell ⟨g,2,none⟩ a2).setCell ⟨g,3,none⟩ a3).setCell ⟨g,4,none⟩ a4):=h3.set 4 a4
 have h5:CBox g #[a0,a1,a2,a3,a4,a5,x6,x7,x8,x9,x10,x11] t ((((((W.setCell ⟨g,0,none⟩ a0).setCell ⟨g,1,none⟩ a1).setCell ⟨g,2,none⟩ a2).setCell ⟨g,3,none⟩ a3).setCell ⟨g,4,none⟩ a4).setCell ⟨g,5,none⟩ a5):=h4.set 5 a5
 have h6:CBox g #[a0,a1,a2,a3,a4,a5,a6,x7,x8,x9,x10,x11] t (((((((W.setCell ⟨g,0,none⟩ a0).setCell ⟨g,1,none⟩ a1).setCell ⟨g,2,none⟩ a2).setCell ⟨g,3,none⟩ a3).setCell ⟨g,4,none⟩ a4).setCell ⟨g,5,none⟩ a5).setCell ⟨g,6,none⟩ a6):=h5.set 6 a6
 have h7:CBox g #[a0,a1,a2,a3,a4,a5,a6,a7,x8,x9,x10,x11] t ((((((((W.setCell ⟨g,0,none⟩ a0).setCell ⟨g,1,none⟩ a1).setCell ⟨g,2,none⟩ a2).setCell ⟨g,3,none⟩ a3).setCell ⟨g,4,none⟩ a4).setCell ⟨g,5,none⟩ a5).setCell ⟨g,6,none⟩ a6).setCell ⟨g,7,none⟩ a7):=h6.set 7 a7
 have h8:CBox g #[a0,a1,a2,a3,a4,a5,a6,a7,a8,x9,x10,x11] t (((((((((W.setCell ⟨g,0,none⟩ a0).setCell ⟨g,1,none⟩ a1).setCell ⟨g,2,none⟩ a2).setCell ⟨g,3,none⟩ a3).setCell ⟨g,4,none⟩ a4).setCell ⟨g,5,none⟩ a5).setCell ⟨g,6,none⟩ a6).setCell ⟨g,7,none⟩ a7).setCell ⟨g,8,none⟩ a8):=h7.set 8 a8
 have h9:CBox g #[a0,a1,a2,a3,a4,a5,a6,a7,a8,a9,x10,x11] t ((((((((((W.setCell ⟨g,0,none⟩ a0).setCell ⟨g,1,none⟩ a1).setCell ⟨g,2,none⟩ a2).setCell ⟨g,3,none⟩ a3).setCell ⟨g,4,none⟩ a4).setCell ⟨g,5,none⟩ a5).setCell ⟨g,6,none⟩ a6).setCell ⟨g,7,none⟩ a7).setCell ⟨g,8,none⟩ a8).setCell ⟨g,9,none⟩ a9):=h8.set 9 a9
 have h10:CBox g #[a0,a1,a2,a3,a4,a5,a6,a7,a8,a9,a10,x11] t (((((((((((W.setCell ⟨g,0,none⟩ a0).setCell ⟨g,1,none⟩ a1).setCell ⟨g,2,none⟩ a2).setCell ⟨g,3,none⟩ a3).setCell ⟨g,4,none⟩ a4).setCell ⟨g,5,none⟩ a5).setCell ⟨g,6,none⟩ a6).setCell ⟨g,7,none⟩ a7).setCell ⟨g,8,none⟩ a8).setCell ⟨g,9,none⟩ a9).setCell ⟨g,10,none⟩ a10):=h9.set 10 a10
 have h11:CBox g #[a0,a1,a2,a3,a4,a5,a6,a7,a8,a9,a10,a11] t ((((((((((((W.setCell ⟨g,0,none⟩ a0).setCell ⟨g,1,none⟩ a1).setCell ⟨g,2,none⟩ a2).setCell ⟨g,3,none⟩ a3).setCell ⟨g,4,none⟩ a4).setCell ⟨g,5,none⟩ a5).setCell ⟨g,6,none⟩ a6).setCell ⟨g,7,none⟩ a7).setCell ⟨g,8,none⟩ a8).setCell ⟨g,9,none⟩ a9).setCell ⟨g,10,none⟩ a10).setCell ⟨g,11,none⟩ a11):=h10.set 11 a11
 refine ⟨h11,?_⟩
 have one:=fun (w:World) (i:Nat) (v:Value) (k:Kp [g] W w)=>k.trans (Kp.set w g i v) (by simp)
 exact one _ _ _ (one _ _ _ (one _ _ _ (one _ _ _ (one _ _ _ (one _ _ _ (one _ _ _ (one _ _ _ (one _ _ _ (one _ _ _ (one _ _ _ (Kp.set W g 0 a0)))))))))))
theorem qbq (sa:Option Addr)(sc:Nat)(l:List SR)(wi:Int)(n:Nd)(lo ta:Bool)(w:World)(h:StsAt w sa l)(hl:l.length<=9223372036854775807)(hm:mayN (stgs l) n=true):
  Calls Tryz.prog 119 #[.agg #[.slice sa l.length sc, .int .i64 wi], .agg n.c, .bool lo, .bool ta] w fun e w'=>e= .returned (.agg (stpN (stgs l) n lo ta).c)/\Kp [] w w':=by
 obtain ⟨m1,m2,m3⟩:=q4Y hm
 obtain ⟨g1,g2⟩:=isS_iff.1 m1
 rw[q03]at g2 m3
 have TK1:Hid (∀W,Kp [] w W->Calls Tryz.prog 101 #[.agg #[.slice sa l.length sc, .int .i64 wi], .int .i64 n.st] W fun e w'=>e= .returned (.agg (bgN (stgs l) n.st.toNat).c)/\Kp [] W w'):=hZq (fun W hk=>by
  have:=q2f sa sc l wi n.st.toNat W (h.kp hk) hl (by omega) (by omega)
  rwa [show ((n.st.toNat:Nat):Int)=n.st by omega]at this)
 have TK2:Hid (n.tk=true-> ∀W,Kp [] w W->Calls Tryz.prog 101 #[.agg #[.slice sa l.length sc, .int .i64 wi], .int .i64 (n.st+1)] W fun e w'=>e= .returned (.agg (bgN (stgs l) (n.st.toNat+1)).c)/\Kp [] W w'):=hZq (fun hs W hk=>by
  have h3:=m3 hs
  have:=q2f sa sc l wi (n.st.toNat+1) W (h.kp hk) hl (by omega) (by omega)
  rwa [show ((n.st.toNat+1:Nat):Int)=n.st+1 by omega]at this)
 have PS:=hZq (fun W (hk:Kp [] w W)=>q8s sa sc l wi n lo ta W (h.kp hk) hl hm)
 have ID:=hZq (fun W=>q8i (psN (stgs l) n lo ta) W)
 have HWR:Hid (n.tk=true->IntKind.i64.wrap (n.st+1)=n.st+1):=hZq (fun hs=>by have h3:=m3 hs;simp only[IntKind.wrap_i64];omega)
 have HS:Hid (stpN (stgs l) n lo ta=⟨if (n.lp && lo)=true then bgN (stgs l) n.st.toNat else zN,if (n.tk && ta)=true then bgN (stgs l) (n.st.toNat+1) else zN,if (psN (stgs l) n lo ta).live=true then psN (stgs l) n lo ta else zN,n.lp && lo,n.tk && ta,(psN (stgs l) n lo ta).live⟩):=hZq rfl
 have B0:=StB.new w #[.slice sa l.length sc, .int .i64 wi] n
 generalize stpN (stgs l) n lo ta=R at *
 generalize psN (stgs l) n lo ta=PN at *
 generalize bgN (stgs l) n.st.toNat=T1 at *
 generalize bgN (stgs l) (n.st.toNat+1)=T2 at *
 clear h hm m1 m2 m3 g1 g2 hl
 generalize l.length=nn at *
 obtain ⟨⟨p0,p1⟩,c0,c1,c2⟩:=B0.cells
 have HB0:=hZq B0
 obtain ⟨st,a,bb⟩:=n
 clear B0
 unfold Nd.c zS zN Sps.c at HB0 p0 p1 c0 c1 c2
 unfold Nd.c at TK1 TK2 PS ID ⊢
 dsimp only at HB0 p0 p1 c0 c1 c2 TK1 TK2 PS ID HS HWR ⊢
 go_enter Tryz.func119,Tryz.ntmps119
 go_upto_region 2 with fail
 go_cut [15] (fun v wc=>v= .bool (a && lo)/\Hid (StB w wc #[.slice sa nn sc, .int .i64 wi] ⟨st,a,bb⟩ zS))
 case first=>
  clear TK1 TK2 PS ID HS HWR
  cases a <;> (go_wp2;go_meet;exact ⟨rfl,HB0⟩)
 case rest=>
 obtain ⟨rfl,HB1⟩:=hcut
 clear HB0 p0 p1 c0 c1 c2
 go_upto_if 15 with fail
 go_cut [] (fun wc=>Hid (StB w wc #[.slice sa nn sc, .int .i64 wi] ⟨st,a,bb⟩ ⟨if (a && lo)=true then T1 else zN,zN,zN,a && lo,false,false⟩))
 case first=>
  clear TK2 PS ID HS HWR
  generalize (a && lo)=A at *
  cases A with
  |true=>
   obtain ⟨⟨p0,p1⟩,c0,c1,c2⟩:=(uQ HB1).cells
   have T:=hZq (uQ TK1 wc (uQ HB1).k)
   dsimp only at c0 c1 c2
   clear TK1
   go_wp2_with fail
   refine (uQ T).mono ?_
   rintro e w1 ⟨rfl,hk1⟩
   have B1:=(uQ HB1).kp hk1
   obtain ⟨⟨x0,x1,x2,x9⟩,fz⟩:=B1.s0
   have f0:=fz 0
   have f1:=fz 1
   have f2:=fz 2
   have f9:=fz 9
   have B2:=hZq (B1.loop T1)
   unfold put4 at B2
   clear B1 hk1 HB1 T fz p0 p1 c0 c1 c2
   go_wp2
   go_meet
   exact B2
  |false=>
   clear TK1
   go_wp2
   go_meet
   exact HB1
 case rest=>
 have HB2:=hcut
 clear hcut HB1 TK1
 obtain ⟨s1,hs1⟩: ∃s1:Sps,s1=⟨if (a && lo)=true then T1 else zN,zN,zN,a && lo,false,false⟩:=⟨_,rfl⟩
 rw[<-hs1]at HB2
 have HS1:=hZq hs1
 clear hs1
 obtain ⟨-,c0,c1,c2⟩:=(uQ HB2).cells
 dsimp only at c0 c1 c2
 go_upto_region 4 with fail
 go_cut [26] (fun v wc=>v= .bool (bb && ta)/\Hid (StB w wc #[.slice sa nn sc, .int .i64 wi] ⟨st,a,bb⟩ s1))
 case first=>
  clear TK2 PS ID HS HWR
  cases bb <;> (go_wp2;go_meet;exact ⟨rfl,HB2⟩)
 case rest=>
 obtain ⟨rfl,HB3⟩:=hcut
 clear HB2 c0 c1 c2
 go_upto_if 26 with fail
 go_cut [] (fun wc=>Hid (StB w wc #[.slice sa nn sc, .int .i64 wi] ⟨st,a,bb⟩ ⟨s1.lp,if (bb && ta)=true then T2 else s1.tk,s1.wt,s1.cl,if (bb && ta)=true then true else s1.ct,s1.cw⟩))
 case first=>
  clear PS ID HS
  cases bb with
  |true=>
   cases ta with
   |true=>
    obtain ⟨⟨p0,p1⟩,c0,c1,c2⟩:=(uQ HB3).cells
    have T:=hZq (uQ TK2 rfl wc (uQ HB3).k)
    have hwr:=uQ HWR rfl
    dsimp only at c0 c1 c2
    clear TK2 HWR
    go_wp2_with fail
    refine (uQ T).mono ?_
    rintro e w1 ⟨rfl,hk1⟩
    have B1:=(uQ HB3).kp hk1
    obtain ⟨⟨x0,x1,x2,x9⟩,fz⟩:=B1.s1
    have f0:=fz 3
    have f1:=fz 4
    have f2:=fz 5
    have f9:=fz 10
    have B2:=hZq (B1.take T2)
    unfold put4 at B2
    clear B1 hk1 HB3 T fz p0 p1 c0 c1 c2
    go_wp2
    go_meet
    exact B2
   |false=>
    clear TK2 HWR
    go_wp2
    go_meet
    exact HB3
  |false=>
   clear TK2 HWR
   cases ta <;> (go_wp2;go_meet;exact HB3)
 case rest=>
 have HB4:=hcut
 clear hcut HB3 TK2 HWR
 obtain ⟨s2,hs2⟩: ∃s2:Sps,s2=⟨s1.lp,if (bb && ta)=true then T2 else s1.tk,s1.wt,s1.cl,if (bb && ta)=true then true else s1.ct,s1.cw⟩:=⟨_,rfl⟩
 rw[<-hs2]at HB4
 have HS2:=hZq hs2
 clear hs2
 obtain ⟨⟨p0,p1⟩,c0,c1,c2⟩:=(uQ HB4).cells
 dsimp only at c0 c1 c2
 have P:=hZq (uQ PS wc (uQ HB4).k)
 clear PS
 go_wp2_with fail
 refine (uQ P).mono ?_
 rintro e w1 ⟨rfl,hk1⟩
 have HB5:=hZq ((uQ HB4).kp hk1)
 have hbx:=CBox.new w1 #[.int .i64 PN.st, .bool PN.lp, .bool PN.tk] 136
 have HB6:=hZq ((uQ HB5).kp (Kp.alloc w1 (.cells #[.int .i64 PN.st, .bool PN.lp, .bool PN.tk] 136)))
 have q0:=hbx.cell (i:=0) (v:= .int .i64 PN.st) rfl
 have q1:=hbx.cell (i:=1) (v:= .bool PN.lp) rfl
 have q2:=hbx.cell (i:=2) (v:= .bool PN.tk) rfl
 have HBX:=hZq hbx
 have hne:w.heap.size+1+1+1<w1.heap.size:=(Array.getElem?_eq_some_iff.1 (uQ HB5).s).1
 clear P hk1 HB4 HB5 p0 p1 c0 c1 c2 hbx
 go_wp2_with fail
 refine (uQ ID _).mono ?_
 rintro e w2 ⟨rfl,hk2⟩
 have hbx:=(uQ HBX).kp hk2 (by simp)
 have HB7:=hZq ((uQ HB6).kp hk2)
 have r0:=hbx.cell (i:=0) (v:= .int .i64 PN.st) rfl
 have r1:=hbx.cell (i:=1) (v:= .bool PN.lp) rfl
 have r2:=hbx.cell (i:=2) (v:= .bool PN.tk) rfl
 have hlt:w1.heap.size<w2.heap.size:=by have:=hk2.size;simp at this;omega
 clear ID HBX hk2 HB6 q0 q1 q2 hbx
 go_upto_if 41 with fail
 go_cut [] (fun wc=>Hid (StB w wc #[.slice sa nn sc, .int .i64 wi] ⟨st,a,bb⟩ ⟨s2.lp,s2.tk,if PN.live=true then PN else s2.wt,s2.cl,s2.ct,if PN.live=true then true else s2.cw⟩))
 case first=>
  clear HS HS1 HS2
  cases hL:PN.live with
  |true=>
   obtain ⟨⟨x0,x1,x2,x9⟩,fz⟩:=(uQ HB7).s2
   have f0:=fz 6
   have f1:=fz 7
   have f2:=fz 8
   have f9:=fz 11
   clear fz
   go_wp2_with fail
   have B2:=hZq (((uQ HB7).wait PN).kp (Kp.drew _))
   unfold put4 at B2
   go_region
   all_goals (go_wp2;go_meet;rw[hL];exact B2)
  |false=>
   go_wp2
   go_meet
   rw[hL]
   exact HB7
 case rest=>
 have HB8:=hcut
 have hR:R=⟨s2.lp,s2.tk,if PN.live=true then PN else s2.wt,s2.cl,s2.ct,if PN.live=true then true else s2.cw⟩:=by
  rw[uQ HS,uQ HS2,uQ HS1]
  dsimp only
  generalize (bb && ta)=X
  generalize PN.live=Y
  cases X <;> cases Y <;> rfl
 rw[<-hR]at HB8
 clear hcut HB7 HS HS1 HS2 hR r0 r1 r2 hlt hne
 have bs:=(uQ HB8).s
 have br:=(uQ HB8).r
 have HK:=hZq (uQ HB8).k
 obtain ⟨⟨l0,l1,l2⟩,⟨t0,t1,t2⟩,⟨v0,v1,v2⟩,cl,ct,cw⟩:=R
 unfold Sps.c at bs br
 unfold zS zN at br
 dsimp only at bs br
 have z0:=br.cell (i:=0) (v:= .int .i64 0) rfl
 have z1:=br.cell (i:=1) (v:= .bool false) rfl
 have z2:=br.cell (i:=2) (v:= .bool false) rfl
 have z3:=br.cell (i:=3) (v:= .int .i64 0) rfl
 have z4:=br.cell (i:=4) (v:= .bool false) rfl
 have z5:=br.cell (i:=5) (v:= .bool false) rfl
 have z6:=br.cell (i:=6) (v:= .int .i64 0) rfl
 have z7:=br.cell (i:=7) (v:= .bool false) rfl
 have z8:=br.cell (i:=8) (v:= .bool false) rfl
 have z9:=br.cell (i:=9) (v:= .bool false) rfl
 have z10:=br.cell (i:=10) (v:= .bool false) rfl
 have z11:=br.cell (i:=11) (v:= .bool false) rfl
 have f0:=br.froz 0
 have f1:=br.froz 1
 have f2:=br.froz 2
 have f3:=br.froz 3
 have f4:=br.froz 4
 have f5:=br.froz 5
 have f6:=br.froz 6
 have f7:=br.froz 7
 have f8:=br.froz 8
 have f9:=br.froz 9
 have f10:=br.froz 10
 have f11:=br.froz 11
 have s0:=bs.cell (i:=0) (v:= .int .i64 l0) rfl
 have s1:=bs.cell (i:=1) (v:= .bool l1) rfl
 have s2:=bs.cell (i:=2) (v:= .bool l2) rfl
 have s3:=bs.cell (i:=3) (v:= .int .i64 t0) rfl
 have s4:=bs.cell (i:=4) (v:= .bool t1) rfl
 have s5:=bs.cell (i:=5) (v:= .bool t2) rfl
 have s6:=bs.cell (i:=6) (v:= .int .i64 v0) rfl
 have s7:=bs.cell (i:=7) (v:= .bool v1) rfl
 have s8:=bs.cell (i:=8) (v:= .bool v2) rfl
 have s9:=bs.cell (i:=9) (v:= .bool cl) rfl
 have s10:=bs.cell (i:=10) (v:= .bool ct) rfl
 have s11:=bs.cell (i:=11) (v:= .bool cw) rfl
 have HE:=hZq (q8w br (.int .i64 l0) (.bool l1) (.bool l2) (.int .i64 t0) (.bool t1) (.bool t2) (.int .i64 v0) (.bool v1) (.bool v2) (.bool cl) (.bool ct) (.bool cw))
 have HG:=hZq (fun W (hk:Kp [w.heap.size+1+1] wc W)=>(uQ HK).trans hk (fun x hx=>Or.inr (by simp only[List.mem_singleton]at hx;omega)))
 clear bs br HB8 HK
 go_wp2
 obtain ⟨hx,hy⟩:=uQ HE
 exact bodyPost_ret (results_cell_row Tryz.results119 _ _ (w.heap.size+1+1) 175 _ (0,0) _ rfl hx Tryz.underlying175 rfl q2G) rfl ⟨rfl,uQ HG _ hy⟩
end Go.Proofs.YtcmjnlpofebbmaaGreatDoor
