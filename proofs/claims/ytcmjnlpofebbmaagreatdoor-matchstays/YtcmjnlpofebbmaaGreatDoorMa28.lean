/-
  Walks and plain facts, made small.
-/
import Derived.Test.YtcmjnlpofebbmaaGreatDoorMa27
set_option maxRecDepth 100000
set_option maxHeartbeats 8000000
set_option linter.unusedSimpArgs false
namespace Go.Proofs.YtcmjnlpofebbmaaGreatDoor
open Go.RowKit Go.Shelf
def nkE (p:Ptn)(n:Nd):Int:=if (pcR p).2=0 then (if mayN p.ss n then 0 else 170) else (pcR p).2
def nbE (p:Ptn)(s:Int):Int:=if (pcR p).2=0 then (if isS p.ss s then 0 else 1) else (pcR p).2
def nbN (p:Ptn)(s:Int):Nd:=if nbE p s=0 then bgN p.ss s.toNat else zN
def nsS (p:Ptn)(n:Nd)(lo ta:Bool):Sps:=if nkE p n=0 then stpN p.ss n lo ta else zS
theorem qeA {p:Ptn}{n:Nd}(h:nkE p n=0):(pcR p).2=0/\mayN p.ss n=true:=by
 unfold nkE at h
 by_cases h0:(pcR p).2=0
 ·rw[if_pos h0]at h
  refine ⟨h0,?_⟩
  cases e:mayN p.ss n with
  |true=>rfl
  |false=>rw[e]at h;simp at h
 ·rw[if_neg h0]at h
  exact absurd h h0
theorem q8p (sa:Option Addr)(sc:Nat)(l:List SR)(wi:Int)(n:Nd)(w:World)(h:StsAt w sa l)(hT:TbE w)(hok: ∀r∈l,r.s.ok)(hl:l.length<=9223372036854775807):
  Calls Tryz.prog 118 #[.agg #[.slice sa l.length sc, .int .i64 wi], .agg n.c] w fun e w'=>e= .returned (.int .i64 (nkE ⟨stgs l,wi⟩ n))/\Kp [] w w':=by
 have k0:Kp [] w ((w.alloc (.cells #[.slice sa l.length sc, .int .i64 wi] 24)).alloc (.cells n.c 136)):=(Kp.alloc _ _).trans (Kp.alloc _ _) (by simp)
 have hP:=q47 w #[.slice sa l.length sc, .int .i64 wi] 24 (.cells n.c 136)
 have hN:=q48 w n.c 136 (.cells #[.slice sa l.length sc, .int .i64 wi] 24)
 have CK:=hZq (q1M sa sc l wi _ (h.kp k0) (hT.kp k0 (by simp)) hok hl)
 have MB:=hZq (fun W (hk:Kp [] w W)=>q9u sa sc l wi n W (h.kp hk) hl)
 have HV:Hid (∀W,Kp [] ((w.alloc (.cells #[.slice sa l.length sc, .int .i64 wi] 24)).alloc (.cells n.c 136)) W->(W.cell? ⟨w.heap.size,0,none⟩=some (.slice sa l.length sc)/\W.cell? ⟨w.heap.size,1,none⟩=some (.int .i64 wi)/\W.cell? ⟨w.heap.size+1,0,none⟩=some (.int .i64 n.st)/\W.cell? ⟨w.heap.size+1,1,none⟩=some (.bool n.lp)/\W.cell? ⟨w.heap.size+1,2,none⟩=some (.bool n.tk))/\Hid (Kp [] w W)):=hZq (fun W hk=>⟨⟨(hP.kp hk (by simp)).cell rfl,(hP.kp hk (by simp)).cell rfl,(hN.kp hk (by simp)).cell rfl,(hN.kp hk (by simp)).cell rfl,(hN.kp hk (by simp)).cell rfl⟩,hZq (k0.trans hk (by simp))⟩)
 have HR:Hid (∀P M,(pcR ⟨stgs l,wi⟩).2=P->mayN (stgs l) n=M->nkE ⟨stgs l,wi⟩ n=if P=0 then (if M then 0 else 170) else P):=hZq (fun P M e1 e2=>by unfold nkE;rw[e1,e2])
 generalize (pcR ⟨stgs l,wi⟩).1=PA at *
 generalize (pcR ⟨stgs l,wi⟩).2=PC at *
 have HR2:=hZq (uQ HR PC _ rfl rfl)
 generalize mayN (stgs l) n=M at *
 generalize nkE ⟨stgs l,wi⟩ n=R at *
 clear h hT hok hl k0 hP hN HR
 generalize l.length=nn at *
 obtain ⟨st,a,b⟩:=n
 unfold Nd.c at *
 dsimp only at *
 obtain ⟨⟨c0,c1,c2,c3,c4⟩,_⟩:=uQ HV _ (Kp.refl _ _)
 go_enter Tryz.func118,Tryz.ntmps118
 go_wp2_with fail
 refine (uQ CK).mono ?_
 rintro e w1 ⟨rfl,hb1⟩
 have HK1:=hZq (Kp.ofBelow hb1)
 obtain ⟨⟨d0,d1,d2,d3,d4⟩,HW1⟩:=uQ HV _ (uQ HK1)
 clear c0 c1 c2 c3 c4 hb1 CK
 by_cases hp:PC=0
 ·subst hp
  have hR:=uQ HR2
  rw[if_pos rfl]at hR
  have MB1:=hZq (uQ MB w1 (uQ HW1))
  clear HR2 MB
  go_wp2_with fail
  refine (uQ MB1).mono ?_
  rintro e w2 ⟨rfl,hk2⟩
  have HW2:=hZq ((uQ HW1).trans hk2 (by simp))
  clear hk2 MB1 d0 d1 d2 d3 d4 HV HK1 HW1
  cases M with
  |true=>
   rw[if_pos rfl]at hR
   subst hR
   go_wp2
   go_ret
   exact ⟨rfl,uQ HW2⟩
  |false=>
   rw[if_neg (by simp)]at hR
   subst hR
   go_wp2
   go_ret
   exact ⟨rfl,uQ HW2⟩
 ·have hR:=uQ HR2
  rw[if_neg hp]at hR
  subst hR
  have g:(R != 0)=true:=by simp[hp]
  clear HR2 MB hp
  go_wp2
  go_ret
  exact ⟨rfl,uQ HW1⟩
theorem q8o (sa:Option Addr)(sc:Nat)(l:List SR)(wi s:Int)(w:World)(h:StsAt w sa l)(hT:TbE w)(hok: ∀r∈l,r.s.ok)(hl:l.length<=9223372036854775807):
  Calls Tryz.prog 75 #[.agg #[.slice sa l.length sc, .int .i64 wi], .int .i64 s] w fun e w'=>e= .returned (.tuple #[.agg (nbN ⟨stgs l,wi⟩ s).c, .int .i64 (nbE ⟨stgs l,wi⟩ s)])/\Kp [] w w':=by
 obtain ⟨k0,hN⟩:=q9v w (.cells #[.slice sa l.length sc, .int .i64 wi] 24) (.int .i64 0) (.bool false) (.bool false) 136
 have hP:=q47 w #[.slice sa l.length sc, .int .i64 wi] 24 (.cells #[.int .i64 0, .bool false, .bool false] 136)
 have CK:=hZq (q1M sa sc l wi _ (h.kp k0) (hT.kp k0 (by simp)) hok hl)
 have IS:=hZq (fun W=>q3c sa sc l.length wi (stgs l) (q03 l) s W)
 have TK:Hid (isS (stgs l) s=true-> ∀W,Kp [] w W->Calls Tryz.prog 101 #[.agg #[.slice sa l.length sc, .int .i64 wi], .int .i64 s] W fun e w'=>e= .returned (.agg (bgN (stgs l) s.toNat).c)/\Kp [] W w'):=hZq (fun hs W hk=>by
  obtain ⟨g1,g2⟩:=isS_iff.1 hs
  rw[q03]at g2
  have:=q2f sa sc l wi s.toNat W (h.kp hk) hl (by omega) (by omega)
  rwa [show ((s.toNat:Nat):Int)=s by omega]at this)
 have HV:Hid (∀W,Kp [] ((w.alloc (.cells #[.slice sa l.length sc, .int .i64 wi] 24)).alloc (.cells #[.int .i64 0, .bool false, .bool false] 136)) W->(W.cell? ⟨w.heap.size,0,none⟩=some (.slice sa l.length sc)/\W.cell? ⟨w.heap.size,1,none⟩=some (.int .i64 wi)/\W.cell? ⟨w.heap.size+1,0,none⟩=some (.int .i64 0)/\W.cell? ⟨w.heap.size+1,1,none⟩=some (.bool false)/\W.cell? ⟨w.heap.size+1,2,none⟩=some (.bool false))/\(W.frozen? ⟨w.heap.size+1,0,none⟩=false/\W.frozen? ⟨w.heap.size+1,1,none⟩=false/\W.frozen? ⟨w.heap.size+1,2,none⟩=false)/\Hid (Kp [] w W)/\Hid (CBox (w.heap.size+1) #[.int .i64 0, .bool false, .bool false] 136 W)):=hZq (fun W hk=>⟨⟨(hP.kp hk (by simp)).cell rfl,(hP.kp hk (by simp)).cell rfl,(hN.kp hk (by simp)).cell rfl,(hN.kp hk (by simp)).cell rfl,(hN.kp hk (by simp)).cell rfl⟩,⟨(hN.kp hk (by simp)).froz _,(hN.kp hk (by simp)).froz _,(hN.kp hk (by simp)).froz _⟩,hZq (k0.trans hk (by simp)),hZq (hN.kp hk (by simp))⟩)
 have HE:Hid (nbE ⟨stgs l,wi⟩ s=if (pcR ⟨stgs l,wi⟩).2=0 then (if isS (stgs l) s then 0 else 1) else (pcR ⟨stgs l,wi⟩).2):=hZq rfl
 have HN:Hid (nbN ⟨stgs l,wi⟩ s=if nbE ⟨stgs l,wi⟩ s=0 then bgN (stgs l) s.toNat else zN):=hZq rfl
 generalize (pcR ⟨stgs l,wi⟩).1=PA at *
 generalize (pcR ⟨stgs l,wi⟩).2=PC at *
 generalize isS (stgs l) s=I at *
 generalize nbE ⟨stgs l,wi⟩ s=R at *
 generalize nbN ⟨stgs l,wi⟩ s=ND at *
 generalize bgN (stgs l) s.toNat=T1 at *
 clear h hT hok hl k0 hP hN
 generalize l.length=nn at *
 obtain ⟨⟨c0,c1,c2,c3,c4⟩,⟨f0,f1,f2⟩,_⟩:=uQ HV _ (Kp.refl _ _)
 go_enter Tryz.func75,Tryz.ntmps75
 go_wp2_with fail
 refine (uQ CK).mono ?_
 rintro e w1 ⟨rfl,hb1⟩
 have HK1:=hZq (Kp.ofBelow hb1)
 obtain ⟨⟨d0,d1,d2,d3,d4⟩,⟨g0,g1,g2⟩,HW1,HB1⟩:=uQ HV _ (uQ HK1)
 clear c0 c1 c2 c3 c4 f0 f1 f2 hb1 CK
 by_cases hp:PC=0
 ·subst hp
  have hE:=uQ HE
  rw[if_pos rfl]at hE
  clear HE
  go_wp2_with fail
  refine (uQ IS _).mono ?_
  rintro e w2 ⟨rfl,hk2⟩
  have HK2:=hZq ((uQ HK1).trans hk2 (by simp))
  obtain ⟨⟨d0',d1',d2',d3',d4'⟩,⟨g0',g1',g2'⟩,HW2,HB2⟩:=uQ HV _ (uQ HK2)
  clear hk2 IS d0 d1 d2 d3 d4 g0 g1 g2 HK1 HW1 HB1
  cases I with
  |true=>
   rw[if_pos rfl]at hE
   subst hE
   have hN:=uQ HN
   rw[if_pos rfl]at hN
   subst hN
   have T:=hZq (uQ TK rfl w2 (uQ HW2))
   clear TK HN
   go_wp2_with fail
   refine (uQ T).mono ?_
   rintro e w3 ⟨rfl,hk3⟩
   obtain ⟨⟨-, -,e2,e3,e4⟩,⟨g0,g1,g2⟩,HW3,HB3⟩:=uQ HV _ ((uQ HK2).trans hk3 (by simp))
   have HO:=hZq (q3a (uQ HW3) (by omega) (uQ HB3) (.int .i64 ND.st) (.bool ND.lp) (.bool ND.tk))
   unfold Nd.c
   clear T hk3 HV HK2 HW2 HB2 HB3 HW3 d0' d1' d2' d3' d4' g0' g1' g2'
   go_wp2
   obtain ⟨hx,hy⟩:=uQ HO
   exact bodyPost_ret (q0E Tryz.results75 _ _ (w.heap.size+1) 136 _ (0,0) _ rfl hx Tryz.underlying136 rfl q1G) rfl ⟨rfl,hy⟩
  |false=>
   rw[if_neg (by simp)]at hE
   subst hE
   have hN:=uQ HN
   rw[if_neg (by omega)]at hN
   subst hN
   have HO:=hZq (q3a (uQ HW2) (by omega) (uQ HB2) (.int .i64 0) (.bool false) (.bool false))
   clear TK HN HV HK2 HW2 HB2
   go_wp2
   obtain ⟨hx,hy⟩:=uQ HO
   exact bodyPost_ret (q0E Tryz.results75 _ _ (w.heap.size+1) 136 _ (0,0) _ rfl hx Tryz.underlying136 rfl q1G) rfl ⟨rfl,hy⟩
 ·have hE:=uQ HE
  rw[if_neg hp]at hE
  subst hE
  have hN:=uQ HN
  rw[if_neg hp]at hN
  subst hN
  have g:(R != 0)=true:=by simp[hp]
  have HO:=hZq (q3a (uQ HW1) (by omega) (uQ HB1) (.int .i64 0) (.bool false) (.bool false))
  clear TK HN HV HK1 HW1 HB1 HE IS hp
  go_wp2
  obtain ⟨hx,hy⟩:=uQ HO
  exact bodyPost_ret (q0E Tryz.results75 _ _ (w.heap.size+1) 136 _ (0,0) _ rfl hx Tryz.underlying136 rfl q1G) rfl ⟨rfl,hy⟩
structure SpB (w W:World)(pc:Array Value)(n:Nd):Prop where
 p:CBox w.heap.size pc 24 W
 n:CBox (w.heap.size+1) n.c 136 W
 r:CBox (w.heap.size+1+1) zS.c 175 W
 k:Kp [] w W
theorem SpB.new (w:World)(pc:Array Value)(n:Nd):SpB w (((w.alloc (.cells pc 24)).alloc (.cells n.c 136)).alloc (.cells zS.c 175)) pc n:=by
 have e1:(w.alloc (.cells pc 24)).heap.size=w.heap.size+1:=by simp
 have e2:((w.alloc (.cells pc 24)).alloc (.cells n.c 136)).heap.size=w.heap.size+1+1:=by simp
 refine ⟨?_,?_,?_,((Kp.alloc _ _).trans (Kp.alloc _ _) (by simp)).trans (Kp.alloc _ _) (by simp)⟩
 ·exact ((CBox.new w _ _).kp (Kp.alloc _ _) (by simp)).kp (Kp.alloc _ _) (by simp)
 ·have:=(CBox.new (w.alloc (.cells pc 24)) n.c 136).kp (Kp.alloc _ (.cells zS.c 175)) (by simp)
  rwa [e1]at this
 ·have:=CBox.new ((w.alloc (.cells pc 24)).alloc (.cells n.c 136)) zS.c 175
  rwa [e2]at this
theorem SpB.kp {w W W':World}{pc:Array Value}{n:Nd}(h:SpB w W pc n)(hk:Kp [] W W'):SpB w W' pc n:=
 ⟨h.p.kp hk (by simp),h.n.kp hk (by simp),h.r.kp hk (by simp),h.k.trans hk (by simp)⟩
theorem SpB.cells {w W:World}{v u:Value}{n:Nd}(h:SpB w W #[v,u] n):(W.cell? ⟨w.heap.size,0,none⟩=some v/\W.cell? ⟨w.heap.size,1,none⟩=some u)/\W.cell? ⟨w.heap.size+1,0,none⟩=some (.int .i64 n.st)/\W.cell? ⟨w.heap.size+1,1,none⟩=some (.bool n.lp)/\W.cell? ⟨w.heap.size+1,2,none⟩=some (.bool n.tk):=
 ⟨⟨h.p.cell rfl,h.p.cell rfl⟩,h.n.cell rfl,h.n.cell rfl,h.n.cell rfl⟩
theorem q6H {g:Nat}{W:World}(h:CBox g zS.c 175 W):(W.cell? ⟨g,0,none⟩=some (.int .i64 0)/\W.cell? ⟨g,1,none⟩=some (.bool false)/\W.cell? ⟨g,2,none⟩=some (.bool false)/\W.cell? ⟨g,3,none⟩=some (.int .i64 0)/\W.cell? ⟨g,4,none⟩=some (.bool false)/\W.cell? ⟨g,5,none⟩=some (.bool false)/\W.cell? ⟨g,6,none⟩=some (.int .i64 0)/\W.cell? ⟨g,7,none⟩=some (.bool false)/\W.cell? ⟨g,8,none⟩=some (.bool false)/\W.cell? ⟨g,9,none⟩=some (.bool false)/\W.cell? ⟨g,10,none⟩=some (.bool false)/\W.cell? ⟨g,11,none⟩=some (.bool false))/\(W.frozen? ⟨g,0,none⟩=false/\W.frozen? ⟨g,1,none⟩=false/\W.frozen? ⟨g,2,none⟩=false/\W.frozen? ⟨g,3,none⟩=false/\W.frozen? ⟨g,4,none⟩=false/\W.frozen? ⟨g,5,none⟩=false/\W.frozen? ⟨g,6,none⟩=false/\W.frozen? ⟨g,7,none⟩=false/\W.frozen? ⟨g,8,none⟩=false/\W.frozen? ⟨g,9,none⟩=false/\W.frozen? ⟨g,10,none⟩=false/\W.frozen? ⟨g,11,none⟩=false):=
 ⟨⟨h.cell rfl,h.cell rfl,h.cell rfl,h.cell rfl,h.cell rfl,h.cell rfl,h.cell rfl,h.cell rfl,h.cell rfl,h.cell rfl,h.cell rfl,h.cell rfl⟩,h.froz _,h.froz _,h.froz _,h.froz _,h.froz _,h.froz _,h.froz _,h.froz _,h.froz _,h.froz _,h.froz _,h.froz _⟩
theorem q50 (sa:Option Addr)(sc:Nat)(l:List SR)(wi:Int)(n:Nd)(lo ta:Bool)(w:World)(h:StsAt w sa l)(hT:TbE w)(hok: ∀r∈l,r.s.ok)(hl:l.length<=9223372036854775807):
  Calls Tryz.prog 102 #[.agg #[.slice sa l.length sc, .int .i64 wi], .agg n.c, .bool lo, .bool ta] w fun e w'=>e= .returned (.tuple #[.agg (nsS ⟨stgs l,wi⟩ n lo ta).c, .int .i64 (nkE ⟨stgs l,wi⟩ n)])/\Kp [] w w':=by
 have B0:=SpB.new w #[.slice sa l.length sc, .int .i64 wi] n
 have CK:=hZq (q8p sa sc l wi n _ (h.kp B0.k) (hT.kp B0.k (by simp)) hok hl)
 have ST:Hid (nkE ⟨stgs l,wi⟩ n=0-> ∀W,Kp [] w W->Calls Tryz.prog 119 #[.agg #[.slice sa l.length sc, .int .i64 wi], .agg n.c, .bool lo, .bool ta] W fun e w'=>e= .returned (.agg (stpN (stgs l) n lo ta).c)/\Kp [] W w'):=hZq (fun h0 W hk=>qbq sa sc l wi n lo ta W (h.kp hk) hl (qeA h0).2)
 have HS:Hid (nsS ⟨stgs l,wi⟩ n lo ta=if nkE ⟨stgs l,wi⟩ n=0 then stpN (stgs l) n lo ta else zS):=hZq rfl
 generalize nkE ⟨stgs l,wi⟩ n=R at *
 generalize nsS ⟨stgs l,wi⟩ n lo ta=Y at *
 generalize stpN (stgs l) n lo ta=X at *
 clear h hT hok hl
 generalize l.length=nn at *
 obtain ⟨⟨p0,p1⟩,c0,c1,c2⟩:=B0.cells
 have HB0:=hZq B0
 obtain ⟨st,a,b⟩:=n
 clear B0
 unfold Nd.c zS zN Sps.c at CK HB0 p0 p1 c0 c1 c2
 unfold Nd.c at ST ⊢
 dsimp only at CK HB0 p0 p1 c0 c1 c2 ST ⊢
 go_enter Tryz.func102,Tryz.ntmps102
 go_wp2_with fail
 refine (uQ CK).mono ?_
 rintro e w1 ⟨rfl,hk1⟩
 have HB1:=hZq ((uQ HB0).kp hk1)
 clear HB0 hk1 CK p0 p1 c0 c1 c2
 have hS:=uQ HS
 clear HS
 by_cases hp:R=0
 ·subst hp
  rw[if_pos rfl]at hS
  subst hS
  obtain ⟨⟨p0,p1⟩,c0,c1,c2⟩:=(uQ HB1).cells
  have T:=hZq (uQ ST rfl w1 (uQ HB1).k)
  dsimp only at c0 c1 c2
  clear ST
  go_wp2_with fail
  refine (uQ T).mono ?_
  rintro e w2 ⟨rfl,hk2⟩
  have HB2:=hZq ((uQ HB1).kp hk2)
  have br:=(uQ HB2).r
  obtain ⟨⟨z0,z1,z2,z3,z4,z5,z6,z7,z8,z9,z10,z11⟩,f0,f1,f2,f3,f4,f5,f6,f7,f8,f9,f10,f11⟩:=q6H br
  obtain ⟨⟨l0,l1,l2⟩,⟨t0,t1,t2⟩,⟨v0,v1,v2⟩,cl,ct,cw⟩:=Y
  have HE:=hZq (q8w (show CBox (w.heap.size+1+1) #[.int .i64 0, .bool false, .bool false, .int .i64 0, .bool false, .bool false, .int .i64 0, .bool false, .bool false, .bool false, .bool false, .bool false] 175 w2 from br) (.int .i64 l0) (.bool l1) (.bool l2) (.int .i64 t0) (.bool t1) (.bool t2) (.int .i64 v0) (.bool v1) (.bool v2) (.bool cl) (.bool ct) (.bool cw))
  have HG:=hZq (fun W (hk:Kp [w.heap.size+1+1] w2 W)=>(uQ HB2).k.trans hk (fun x hx=>Or.inr (by simp only[List.mem_singleton]at hx;omega)))
  unfold Sps.c
  dsimp only
  clear T hk2 HB1 HB2 br p0 p1 c0 c1 c2
  go_wp2
  obtain ⟨hx,hy⟩:=uQ HE
  exact bodyPost_ret (q0E Tryz.results102 _ _ (w.heap.size+1+1) 175 _ (0,0) _ rfl hx Tryz.underlying175 rfl q2G) rfl ⟨rfl,uQ HG _ hy⟩
 ·rw[if_neg hp]at hS
  subst hS
  have g:(R != 0)=true:=by simp[hp]
  have br:=(uQ HB1).r
  obtain ⟨⟨z0,z1,z2,z3,z4,z5,z6,z7,z8,z9,z10,z11⟩,f0,f1,f2,f3,f4,f5,f6,f7,f8,f9,f10,f11⟩:=q6H br
  have HE:=hZq (q8w (show CBox (w.heap.size+1+1) #[.int .i64 0, .bool false, .bool false, .int .i64 0, .bool false, .bool false, .int .i64 0, .bool false, .bool false, .bool false, .bool false, .bool false] 175 w1 from br) (.int .i64 0) (.bool false) (.bool false) (.int .i64 0) (.bool false) (.bool false) (.int .i64 0) (.bool false) (.bool false) (.bool false) (.bool false) (.bool false))
  have HG:=hZq (fun W (hk:Kp [w.heap.size+1+1] w1 W)=>(uQ HB1).k.trans hk (fun x hx=>Or.inr (by simp only[List.mem_singleton]at hx;omega)))
  clear ST HB1 br hp
  go_wp2
  obtain ⟨hx,hy⟩:=uQ HE
  exact bodyPost_ret (q0E Tryz.results102 _ _ (w.heap.size+1+1) 175 _ (0,0) _ rfl hx Tryz.underlying175 rfl q2G) rfl ⟨rfl,uQ HG _ hy⟩
open Go.RowKit Go.Shelf
def rdN (fr td:Nat):Nd:=⟨(fr:Int)+1,decide (fr=td), !decide (fr=td)⟩
theorem qe7 {ss:List Stg}{fr td:Nat}(hft:(td=fr/\mnAt ss fr=true/\fr<ss.length)\/(td=fr+1/\td<ss.length)):mayN ss (rdN fr td)=true:=by
 unfold mayN isS rdN
 have h1:((fr:Int)+1).toNat=fr+1:=by omega
 dsimp only
 rw[h1,Nat.add_sub_cancel]
 rcases hft with ⟨rfl,h2,h3⟩|⟨rfl,h3⟩
 ·simp[h2]
  omega
 ·simp
  omega
theorem q6k {p:Ptn}(hp:(pcR p).2=0){fr td:Nat}(hft:(td=fr/\mnAt p.ss fr=true/\fr<p.ss.length)\/(td=fr+1/\td<p.ss.length))(b:Bool):(nsS p (rdN fr td) (b && (rdN fr td).lp) (b && (rdN fr td).tk)).cw=stay (hwAt p.ss td) b:=by
 have hk:nkE p (rdN fr td)=0:=by unfold nkE;rw[if_pos hp,if_pos (qe7 hft)]
 unfold nsS
 rw[if_pos hk]
 unfold stpN psN Nd.live rdN
 have h1:((fr:Int)+1).toNat=fr+1:=by omega
 dsimp only
 rw[h1,Nat.add_sub_cancel]
 rcases hft with ⟨rfl,h2,h3⟩|⟨rfl,h3⟩
 ·simp
 ·simp
theorem q8x (sa:Option Addr)(sc:Nat)(l:List SR)(wi:Int)(fr td:Nat)(w:World)(h:StsAt w sa l)(hp:(pcR ⟨stgs l,wi⟩).2=0)(hT:TbE w)(hok: ∀r∈l,r.s.ok)(hsc:l.length<=sc)(hft:(td=fr/\mnAt (stgs l) fr=true/\fr<l.length)\/(td=fr+1/\td<l.length)):
  Calls Tryz.prog 76 #[.agg #[.slice sa l.length sc, .int .i64 wi], .int .i64 (fr:Int), .int .i64 (td:Int)] w fun e w'=> ∃a c bs,e= .returned (.agg #[.int .i64 (fr:Int), .int .i64 (td:Int), .bool (stay (hwAt (stgs l) td) true), .bool (stay (hwAt (stgs l) td) false), .slice a bs.length c])/\AbS w fr (.slice a bs.length c) bs (fun i=> ∃t,td<=t/\t<l.length/\i∈asT (stgs l) t) 2000 w':=by
 have h8:l.length<=8:=by have:=(q1s hp).2.1;rw[show (⟨stgs l,wi⟩:Ptn).ss.length=l.length from q03 l]at this;exact this
 have htl:td<l.length:=by omega
 have hft':(td=fr/\mnAt (⟨stgs l,wi⟩:Ptn).ss fr=true/\fr<(⟨stgs l,wi⟩:Ptn).ss.length)\/(td=fr+1/\td<(⟨stgs l,wi⟩:Ptn).ss.length):=by rw[show (⟨stgs l,wi⟩:Ptn).ss.length=l.length from q03 l];exact hft
 have hH:=q6k hp hft' true
 have hE:=q6k hp hft' false
 rw[Bool.true_and,Bool.true_and]at hH
 rw[Bool.false_and,Bool.false_and]at hE
 have hfit: ∀r∈l, ∀q∈r.s.cd,q.fit:=fun r hr q hq=>((hok r hr).2.2 q hq).2.2.2.1
 have ST1:=hZq (fun W (hk:Kp [] w W)=>q50 sa sc l wi (rdN fr td) (rdN fr td).lp (rdN fr td).tk W (h.kp hk) (hT.kp hk (by simp)) hok (by omega))
 have ST2:=hZq (fun W (hk:Kp [] w W)=>q50 sa sc l wi (rdN fr td) false false W (h.kp hk) (hT.kp hk (by simp)) hok (by omega))
 have AB0:=hZq (fun W (hk:Kp [] w W)=>q3T sa sc l wi fr td W (h.kp hk) hp (hT.kp hk (by simp)) hfit hsc htl)
 generalize hs1:nsS ⟨stgs l,wi⟩ (rdN fr td) (rdN fr td).lp (rdN fr td).tk=S1 at *
 generalize hs2:nsS ⟨stgs l,wi⟩ (rdN fr td) false false=S2 at *
 change S1.cw=stay (hwAt (stgs l) td) true at hH
 change S2.cw=stay (hwAt (stgs l) td) false at hE
 rw[<-hH, <-hE]
 generalize nkE ⟨stgs l,wi⟩ (rdN fr td)=KE at *
 clear hs1 hs2 hH hE h hT hok hfit hft' hp
 unfold rdN Nd.c at ST1 ST2
 dsimp only at ST1 ST2
 generalize hbq:decide (fr=td)=BQ at *
 have g1:((fr:Int)==(td:Int))=BQ:=by
  rw[<-hbq]
  by_cases e:fr=td
  ·subst e;simp
  ·rw[decide_eq_false e];exact beq_eq_false_iff_ne.2 (by omega)
 have g2:((fr:Int) != (td:Int))= !BQ:=by unfold bne;rw[g1]
 have hfr:fr<=8:=by omega
 clear hbq hft htl
 have k1:=Kp.alloc w (.cells #[.slice sa l.length sc, .int .i64 wi] 24)
 have p1:=CBox.new w #[.slice sa l.length sc, .int .i64 wi] 24
 have k2:=Kp.alloc (w.alloc (.cells #[.slice sa l.length sc, .int .i64 wi] 24)) (.cells #[.int .i64 0, .int .i64 0, .bool false, .bool false, .slice none 0 0] 141)
 have z2:=CBox.new (w.alloc (.cells #[.slice sa l.length sc, .int .i64 wi] 24)) #[.int .i64 0, .int .i64 0, .bool false, .bool false, .slice none 0 0] 141
 rw[show (w.alloc (.cells #[.slice sa l.length sc, .int .i64 wi] 24)).heap.size=w.heap.size+1 by simp]at z2
 obtain ⟨Wa,hWa⟩: ∃Wa,Wa=(w.alloc (.cells #[.slice sa l.length sc, .int .i64 wi] 24)).alloc (.cells #[.int .i64 0, .int .i64 0, .bool false, .bool false, .slice none 0 0] 141):=⟨_,rfl⟩
 have HSA:Hid (Kp [] w Wa/\CBox w.heap.size #[.slice sa l.length sc, .int .i64 wi] 24 Wa/\CBox (w.heap.size+1) #[.int .i64 0, .int .i64 0, .bool false, .bool false, .slice none 0 0] 141 Wa/\Wa.heap.size=w.heap.size+2):=by rw[hWa];exact hZq ⟨k1.trans k2 (by simp),p1.kp k2 (by simp),z2,by simp⟩
 clear k1 p1 k2 z2
 unfold Sps.c at ST1 ST2
 obtain ⟨kA,pA,zA,sA⟩:=uQ HSA
 have kb:=Kp.alloc Wa (.cells #[.int .i64 ((fr:Int)+1), .bool BQ, .bool (!BQ)] 136)
 have nb:=CBox.new Wa #[.int .i64 ((fr:Int)+1), .bool BQ, .bool (!BQ)] 136
 have HB:Hid (∀W,Kp [] (Wa.alloc (.cells #[.int .i64 ((fr:Int)+1), .bool BQ, .bool (!BQ)] 136)) W->(W.cell? ⟨w.heap.size,0,none⟩=some (.slice sa l.length sc)/\W.cell? ⟨w.heap.size,1,none⟩=some (.int .i64 wi))/\(W.cell? ⟨Wa.heap.size,0,none⟩=some (.int .i64 ((fr:Int)+1))/\W.cell? ⟨Wa.heap.size,1,none⟩=some (.bool BQ)/\W.cell? ⟨Wa.heap.size,2,none⟩=some (.bool (!BQ)))/\Kp [] w W/\CBox (w.heap.size+1) #[.int .i64 0, .int .i64 0, .bool false, .bool false, .slice none 0 0] 141 W):=hZq (fun W hk=>by
  have a1:=(pA.kp kb (by simp)).kp hk (by simp)
  have a2:=nb.kp hk (by simp)
  exact ⟨⟨a1.cell rfl,a1.cell rfl⟩,⟨a2.cell rfl,a2.cell rfl,a2.cell rfl⟩,(kA.trans kb (by simp)).trans hk (by simp),(zA.kp kb (by simp)).kp hk (by simp)⟩)
 have hfw:IntKind.i64.wrap ((fr:Int)+1)=(fr:Int)+1:=by simp only[IntKind.wrap_i64];omega
 obtain ⟨⟨b1,b2⟩,⟨b3,b4,b5⟩,kwb, -⟩:=uQ HB _ (Kp.refl _ _)
 have S1C:=hZq (uQ ST1 _ kwb)
 clear HSA kA pA zA kb nb kwb ST1
 generalize l.length=n at *
 have hsz1:w.heap.size+1<Wa.heap.size:=by omega
 clear sA
 go_enter Tryz.func76,Tryz.ntmps76
 go_upto_region 1 with fail
 rw[<-hWa]
 clear hWa
 go_wp2_with fail
 refine (uQ S1C).mono ?_
 rintro e w3 ⟨rfl,hk3⟩
 have HK3:=hZq hk3
 obtain ⟨S1l,S1t,S1w,s1a,s1b,s1c⟩:=S1
 obtain ⟨x1,x2,x3⟩:=S1l
 obtain ⟨x4,x5,x6⟩:=S1t
 obtain ⟨x7,x8,x9⟩:=S1w
 dsimp only
 clear S1C b1 b2 b3 b4 b5 hk3
 have kc:=Kp.alloc w3 (.cells #[.int .i64 x1, .bool x2, .bool x3, .int .i64 x4, .bool x5, .bool x6, .int .i64 x7, .bool x8, .bool x9, .bool s1a, .bool s1b, .bool s1c] 175)
 have cc:=CBox.new w3 #[.int .i64 x1, .bool x2, .bool x3, .int .i64 x4, .bool x5, .bool x6, .int .i64 x7, .bool x8, .bool x9, .bool s1a, .bool s1b, .bool s1c] 175
 obtain ⟨⟨b1,b2⟩,⟨b3,b4,b5⟩,kwc, -⟩:=uQ HB _ ((uQ HK3).trans kc (by simp))
 have S2C:=hZq (uQ ST2 _ kwc)
 have HKC:=hZq ((uQ HK3).trans kc (by simp))
 have HCC:=hZq cc
 have hsz3:Wa.heap.size<w3.heap.size:=by have:=(uQ HK3).size;simp at this;omega
 clear HK3 kc cc kwc ST2
 go_wp2_with fail
 refine (uQ S2C).mono ?_
 rintro e w4 ⟨rfl,hk4⟩
 obtain ⟨S2l,S2t,S2w,s2a,s2b,s2c⟩:=S2
 obtain ⟨y1,y2,y3⟩:=S2l
 obtain ⟨y4,y5,y6⟩:=S2t
 obtain ⟨y7,y8,y9⟩:=S2w
 dsimp only
 have hsz4:w3.heap.size<w4.heap.size:=by have:=hk4.size;simp at this;omega
 obtain ⟨V,hV⟩: ∃V,V=(w4.alloc (.cells #[.int .i64 y1, .bool y2, .bool y3, .int .i64 y4, .bool y5, .bool y6, .int .i64 y7, .bool y8, .bool y9, .bool s2a, .bool s2b, .bool s2c] 175)).drew:=⟨_,rfl⟩
 have kV:Kp [] w4 V:=by rw[hV];exact (Kp.alloc _ _).trans (Kp.drew _) (by simp)
 have cV:CBox w4.heap.size #[.int .i64 y1, .bool y2, .bool y3, .int .i64 y4, .bool y5, .bool y6, .int .i64 y7, .bool y8, .bool y9, .bool s2a, .bool s2b, .bool s2c] 175 V:=by rw[hV];exact (CBox.new w4 _ _).kp (Kp.drew _) (by simp)
 have HS5:Hid (∀W,Kp [] V W->W.cell? ⟨w3.heap.size,11,none⟩=some (.bool s1c)/\W.cell? ⟨w4.heap.size,11,none⟩=some (.bool s2c)/\W.cell? ⟨w.heap.size,0,none⟩=some (.slice sa n sc)/\W.cell? ⟨w.heap.size,1,none⟩=some (.int .i64 wi)):=hZq (fun W hk=>by
  have q1:=((uQ HCC).kp hk4 (by simp)).kp (kV.trans hk (by simp)) (by simp)
  have q2:=cV.kp hk (by simp)
  obtain ⟨q3,_⟩:=uQ HB W ((uQ HKC).trans (hk4.trans (kV.trans hk (by simp)) (by simp)) (by simp))
  exact ⟨q1.cell rfl,q2.cell rfl,q3.1,q3.2⟩)
 have HZ5:Hid (∀W,Kp [] V W->CBox (w.heap.size+1) #[.int .i64 0, .int .i64 0, .bool false, .bool false, .slice none 0 0] 141 W):=hZq (fun W hk=>(uQ HB W ((uQ HKC).trans (hk4.trans (kV.trans hk (by simp)) (by simp)) (by simp))).2.2.2)
 have kwV:=(uQ HB V ((uQ HKC).trans (hk4.trans kV (by simp)) (by simp))).2.2.1
 have AB:=hZq (uQ AB0 V kwV)
 have HWV:=hZq kwV
 have b0:=uQ HS5 V (Kp.refl _ _)
 clear S2C hk4 kV cV HB HKC HCC kwV AB0 b1 b2 b3 b4 b5
 go_upto_region 4 with fail
 refine q0m (fun W=>W.cell? ⟨w3.heap.size,11,none⟩=some (.bool s1c)/\W.cell? ⟨w4.heap.size,11,none⟩=some (.bool s2c)/\W.cell? ⟨w.heap.size,0,none⟩=some (.slice sa n sc)/\W.cell? ⟨w.heap.size,1,none⟩=some (.int .i64 wi)) 11 (by kernel_rfl) ?_
 rw[<-hV]
 clear hV
 show q0a _ _ _ _ _ _ 12 (Array.replicate 12 false) _ _
 refine zzL (i:=0) (v:=?_) rfl (fun _ _ _ h=>h) (Or.inl ⟨by rfl,?_⟩) b0 ?_
 rotate_left 1
 ·intro w0 hSw;(try dsimp only at hSw);go_simp;(try with_reducible rfl)
 try simp only[Act.put,zz1,zz2,zz3]
 refine zzL (i:=1) (v:=?_) rfl (fun _ _ _ h=>h) (Or.inl ⟨by rfl,?_⟩) b0 ?_
 rotate_left 1
 ·intro w0 hSw;(try dsimp only at hSw);go_simp;(try with_reducible rfl)
 try simp only[Act.put,zz1,zz2,zz3]
 refine zzL (i:=2) (v:=?_) rfl (fun _ _ _ h=>h) (Or.inl ⟨by rfl,?_⟩) b0 ?_
 rotate_left 1
 ·intro w0 hSw;(try dsimp only at hSw);go_simp;(try with_reducible rfl)
 try simp only[Act.put,zz1,zz2,zz3]
 refine zzL (i:=3) (v:=?_) rfl (fun _ _ _ h=>h) (Or.inl ⟨by rfl,?_⟩) b0 ?_
 rotate_left 1
 ·intro w0 hSw;(try dsimp only at hSw);go_simp;(try with_reducible rfl)
 try simp only[Act.put,zz1,zz2,zz3]
 refine zzL (i:=4) (v:=?_) rfl (fun _ _ _ h=>h) (Or.inl ⟨by rfl,?_⟩) b0 ?_
 rotate_left 1
 ·intro w0 hSw;(try dsimp only at hSw);go_simp;(try with_reducible rfl)
 try simp only[Act.put,zz1,zz2,zz3]
 refine zzL (i:=5) (v:=?_) rfl (fun _ _ _ h=>h) (Or.inl ⟨by rfl,?_⟩) b0 ?_
 rotate_left 1
 ·intro w0 hSw;(try dsimp only at hSw);go_simp;(try with_reducible rfl)
 try simp only[Act.put,zz1,zz2,zz3]
 refine zzL (i:=6) (v:=?_) rfl (fun _ _ _ h=>h) (Or.inl ⟨by rfl,?_⟩) b0 ?_
 rotate_left 1
 ·intro w0 hSw;(try dsimp only at hSw);go_simp;(try with_reducible rfl)
 try simp only[Act.put,zz1,zz2,zz3]
 refine zzL (i:=7) (v:=?_) rfl (fun _ _ _ h=>h) (Or.inl ⟨by rfl,?_⟩) b0 ?_
 rotate_left 1
 ·intro w0 hSw;(try dsimp only at hSw);go_simp;(try with_reducible rfl)
 try simp only[Act.put,zz1,zz2,zz3]
 refine zzL (i:=8) (v:=?_) rfl (fun _ _ _ h=>h) (Or.inl ⟨by rfl,?_⟩) b0 ?_
 rotate_left 1
 ·intro w0 hSw;(try dsimp only at hSw);go_simp;(try with_reducible rfl)
 try simp only[Act.put,zz1,zz2,zz3]
 refine q01 (i:=9) rfl (by kernel_rfl) (fun K hK=>?_)
 go_simp
 refine (uQ AB).mono ?_
 rintro e w5 ⟨va,bs,rfl,hA5⟩
 obtain ⟨aa,ac,rfl⟩: ∃a c,va= .slice a bs.length c:=by
  obtain ⟨a,c,e,_⟩:=hA5.row.at
  rw[List.length_map]at e
  exact ⟨a,c,e⟩
 have b5:=uQ HS5 w5 hA5.kp
 have hz5:=(uQ HZ5 w5 hA5.kp)
 have y0:=hz5.cell (i:=0) (v:= .int .i64 0) rfl
 have y1:=hz5.cell (i:=1) (v:= .int .i64 0) rfl
 have y2:=hz5.cell (i:=2) (v:= .bool false) rfl
 have y3:=hz5.cell (i:=3) (v:= .bool false) rfl
 have y4:=hz5.cell (i:=4) (v:= .slice none 0 0) rfl
 have f0:=hz5.froz 0
 have f1:=hz5.froz 1
 have f2:=hz5.froz 2
 have f3:=hz5.froz 3
 have f4:=hz5.froz 4
 refine hK _ _ (Or.inr b5) ?_
 clear hK K
 try simp only[Act.put,zz1,zz2,zz3]
 refine zzL (i:=10) (v:=?_) rfl (fun _ _ _ h=>h) (Or.inl ⟨by rfl,?_⟩) b5 ?_
 rotate_left 1
 ·intro w0 hSw;(try dsimp only at hSw);go_simp;(try with_reducible rfl)
 try simp only[Act.put,zz1,zz2,zz3]
 refine q01 (i:=11) rfl (by kernel_rfl) (fun K hK=>?_)
 go_simp
 refine hK _ _ (Or.inl rfl) ?_
 clear hK K
 try simp only[Act.put,zz1,zz2,zz3]
 refine q0c (by kernel_rfl) ?_ _
 have hz6:CBox (w.heap.size+1) #[.int .i64 (fr:Int), .int .i64 (td:Int), .bool s1c, .bool s2c, .slice aa bs.length ac] 141 (((((w5.setCell ⟨w.heap.size+1,0,none⟩ (.int .i64 (fr:Int))).setCell ⟨w.heap.size+1,1,none⟩ (.int .i64 (td:Int))).setCell ⟨w.heap.size+1,2,none⟩ (.bool s1c)).setCell ⟨w.heap.size+1,3,none⟩ (.bool s2c)).setCell ⟨w.heap.size+1,4,none⟩ (.slice aa bs.length ac)):=((((hz5.set 0 (.int .i64 (fr:Int))).set 1 (.int .i64 (td:Int))).set 2 (.bool s1c)).set 3 (.bool s2c)).set 4 (.slice aa bs.length ac)
 have k6:Kp [w.heap.size+1] w5 (((((w5.setCell ⟨w.heap.size+1,0,none⟩ (.int .i64 (fr:Int))).setCell ⟨w.heap.size+1,1,none⟩ (.int .i64 (td:Int))).setCell ⟨w.heap.size+1,2,none⟩ (.bool s1c)).setCell ⟨w.heap.size+1,3,none⟩ (.bool s2c)).setCell ⟨w.heap.size+1,4,none⟩ (.slice aa bs.length ac)):=((((Kp.set _ _ _ _).trans (Kp.set _ _ _ _) (by simp)).trans (Kp.set _ _ _ _) (by simp)).trans (Kp.set _ _ _ _) (by simp)).trans (Kp.set _ _ _ _) (by simp)
 have hwV:=(uQ HWV).size
 have HFIN:Hid (AbS w fr (.slice aa bs.length ac) bs (fun i=> ∃t,td<=t/\t<n/\i∈asT (stgs l) t) 2000 (((((w5.setCell ⟨w.heap.size+1,0,none⟩ (.int .i64 (fr:Int))).setCell ⟨w.heap.size+1,1,none⟩ (.int .i64 (td:Int))).setCell ⟨w.heap.size+1,2,none⟩ (.bool s1c)).setCell ⟨w.heap.size+1,3,none⟩ (.bool s2c)).setCell ⟨w.heap.size+1,4,none⟩ (.slice aa bs.length ac))):=by
  refine hZq ⟨hA5.row.kp k6 (fun b hb hm=>?_),fun b hb=>Nat.le_trans hwV (hA5.nw b hb),hA5.lt,hA5.al,hA5.ln,((uQ HWV).trans hA5.kp (by simp)).trans k6 (by simp)⟩
  rw[List.mem_singleton]at hm
  subst hm
  exact q0d hA5.row hz5 (by decide) hb
 have HZ6:=hZq hz6
 clear hA5 hz5 k6 b5 HZ5 HS5 AB HWV hz6
 go_wp2
 refine bodyPost_ret (v:= .agg #[.int .i64 (fr:Int), .int .i64 (td:Int), .bool s1c, .bool s2c, .slice aa bs.length ac]) ?_ rfl ⟨_,_,bs,rfl,uQ HFIN⟩
 exact results_cell_row (p:=6) (ty:=141) rfl _ _ (w.heap.size+1) 141 _ (0,0) _ rfl (uQ HZ6) Tryz.underlying141 rfl rfl
open Go.RowKit Go.Shelf
structure RdC where
 fr:Nat
 td:Nat
 oh:Bool
 oe:Bool
 a:Option Addr
 c:Nat
 bs:List Nat
def RdC.v (x:RdC):Value:= .slice x.a x.bs.length x.c
def RdC.l (x:RdC):List Value:=[.int .i64 (x.fr:Int), .int .i64 (x.td:Int), .bool x.oh, .bool x.oe,x.v]
theorem q9k:(Tryz.prog.info? 141).map (fun i=>(i.zero,i.size,i.bytes))=some (some (.agg #[.int .i64 0, .int .i64 0, .bool false, .bool false, .slice none 0 0]),5,48):=by kernel_rfl
theorem q8d:(Tryz.prog.info? 139).map (fun i=>(i.zero,i.size,i.bytes))=some (some (.slice none 0 0),1,24):=by kernel_rfl
structure RoS (w:World)(B:Nat)(rs:List Value)(R:List (List RdC))(wr:World):Prop where
 row:CBox B rs.toArray 139 wr
 len:rs.length=R.length
 ins: ∀(i:Nat) (v:Value) (r:List RdC),rs[i]?=some v->R[i]?=some r->wr.ownsRow 0 141 5 v r.length (r.flatMap RdC.l)
 nd: ∀(i j:Nat) (a b:Value) (k:Nat),rs[i]?=some a->rs[j]?=some b->a.ownBlock=some k->b.ownBlock=some k->i=j
 az: ∀r∈R, ∀x∈r,IRo wr x.v (x.bs.map Int.ofNat)
 nw:(∀v∈rs, ∀b,v.ownBlock=some b->B<=b)/\(∀r∈R, ∀x∈r, ∀b,x.v.ownBlock=some b->B<=b)
 kp:Kp [] w wr
 lo:w.heap.size<=B
theorem RoS.go {w wr w':World}{B:Nat}{rs:List Value}{R:List (List RdC)}(h:RoS w B rs R wr)(hk:Kp [] wr w'):RoS w B rs R w':=
 ⟨h.row.kp hk (by simp),h.len,fun i v r hv hr=>q02 (h.ins i v r hv hr) hk (by simp),h.nd,fun r hr x hx=>(h.az r hr x hx).kp hk (by simp),h.nw,h.kp.trans hk (by simp),h.lo⟩
theorem qb6 (n:Nat)(hn:n<=100000)(W:World):(Instr.makeSlice 93 (.int .i64 (n:Int)) (.int .i64 (n:Int))).run Tryz.prog W= .ok (.slice (some ⟨W.heap.size,0,none⟩) n n) (W.alloc (.cells (List.replicate n (Value.slice none 0 0)).toArray 139)):=by
 obtain ⟨i0,hi,hz0,hz1,hz2⟩:=info_parts q8d
 have h:=run_make (P:=Tryz.prog) W 93 139 i0 (.slice none 0 0) Tryz.underlying93 hi hz0 .i64 .i64 (n:Int) (n:Int) (by omega) (by omega) (by rw[hz2];omega) (by omega)
 rw[hz1]at h
 simp only[Int.toNat_natCast,Nat.mul_one]at h
 rw[h]
 have e:madeCells (Value.slice none 0 0).cells n=(List.replicate n (Value.slice none 0 0)).toArray:=by
  apply Array.ext'
  exact toList_madeCells_one (Value.slice none 0 0) n
 rw[e]
theorem RoS.new (w:World)(n:Nat):RoS w w.heap.size (List.replicate n (Value.slice none 0 0)) (List.replicate n []) (w.alloc (.cells (List.replicate n (Value.slice none 0 0)).toArray 139)):=by
 have hm: ∀v∈List.replicate n (Value.slice none 0 0),v= .slice none 0 0:=fun v hv=>List.eq_of_mem_replicate hv
 refine ⟨CBox.new w _ _,by simp,fun i v r hv hr=>?_,fun i j a b k ha hb hka=>?_,fun r hr x hx=>?_,⟨fun v hv b hb=>?_,fun r hr x hx=>?_⟩,Kp.alloc _ _,Nat.le_refl _⟩
 ·have e1:=hm v (List.mem_of_getElem? hv)
  have e2:=List.eq_of_mem_replicate (List.mem_of_getElem? hr)
  subst e1 e2
  exact World.ownsRow_nil _ _ _ _
 ·have e1:=hm a (List.mem_of_getElem? ha)
  subst e1
  cases hka
 ·have e2:=List.eq_of_mem_replicate hr
  subst e2
  cases hx
 ·have e1:=hm v hv
  subst e1
  cases hb
 ·have e2:=List.eq_of_mem_replicate hr
  subst e2
  cases hx
theorem RoS.push {w wr:World}{B:Nat}{rs:List Value}{R:List (List RdC)}(h:RoS w B rs R wr){i:Nat}{v:Value}{r:List RdC}(hv:rs[i]?=some v)(hr:R[i]?=some r)(x:RdC)(hx:IRo wr x.v (x.bs.map Int.ofNat))(hxb: ∀b,x.v.ownBlock=some b->B<=b){g c:Nat}(hz:CBox g x.l.toArray 141 wr)(hl:r.length<=1000)(ty:TypeId):
  ∃g' cap w',(Builtin.append_ #[139,139] ty #[v, .slice (some ⟨g,0,none⟩) 1 c]).run Tryz.prog wr= .ok (.slice (some ⟨g',0,none⟩) (r.length+1) cap) w'/\CBox B rs.toArray 139 w'/\Kp v.ownBlock.toList wr w'/\
   RoS w B (rs.set i (.slice (some ⟨g',0,none⟩) (r.length+1) cap)) (R.set i (r++[x])) (w'.setCell ⟨B,i,none⟩ (.slice (some ⟨g',0,none⟩) (r.length+1) cap)):=by
 obtain ⟨i0,hi,hz0,hz1,hz2⟩:=info_parts q9k
 have hown:=h.ins i v r hv hr
 obtain ⟨g',cap,w',hrun,r1,r2,r3,_⟩:=run_append_lies (P:=Tryz.prog) (w:=wr) 139 ty 0 141 i0 _ 5 48 Tryz.underlying139 hi hz0 hz1 hz2 rfl (by decide) v r.length (r.flatMap RdC.l) hown ⟨g,0,none⟩ 1 c x.l rfl (fun j u hj=>by
  rw[Go.WideShapes.add_plain,Nat.zero_add]
  exact hz.cell (by simpa using hj)) (fun u hu=>by
   unfold RdC.l RdC.v at hu
   simp only[List.mem_cons,List.not_mem_nil,or_false]at hu
   rcases hu with rfl|rfl|rfl|rfl|rfl <;> rfl) (by omega) (by unfold maxLen;omega) (by omega) (Nat.zero_le _) _ rfl
 have hkv:=Kp.of r2
 have hiv:i<rs.length:=(List.getElem?_eq_some_iff.1 hv).1
 have hiR:i<R.length:=(List.getElem?_eq_some_iff.1 hr).1
 have hlt:B<wr.heap.size:=(Array.getElem?_eq_some_iff.1 h.row).1
 have hBv:B∉v.ownBlock.toList:=fun hm=>q0d hown h.row (by decide) (by simpa using hm)
 have hb1:=h.row.kp hkv hBv
 have hks:=Kp.set w' B i (.slice (some ⟨g',0,none⟩) (r.length+1) cap)
 have hgB:B<=g':=r3.elim (fun e=>h.nw.1 v (List.mem_of_getElem? hv) g' e) (fun e=>by omega)
 have rowk: ∀{u:Value} {q:List RdC},w'.ownsRow 0 141 5 u q.length (q.flatMap RdC.l)->(w'.setCell ⟨B,i,none⟩ (.slice (some ⟨g',0,none⟩) (r.length+1) cap)).ownsRow 0 141 5 u q.length (q.flatMap RdC.l):=fun hu=>q02 hu hks (fun b hb hm=>by
  rw[List.mem_singleton]at hm
  subst hm
  exact q0d hu hb1 (by decide) hb)
 have irok: ∀{u:Value} {p:List Int},IRo wr u p->IRo (w'.setCell ⟨B,i,none⟩ (.slice (some ⟨g',0,none⟩) (r.length+1) cap)) u p:=fun hu=>(hu.kp hkv (fun b hb hm=>q2z hu hown (by decide) b hb hm)).kpT hks (q4A hb1 (by decide))
 refine ⟨g',cap,w',hrun,hb1,hkv,⟨?_,by rw[List.length_set,List.length_set,h.len],fun j u q hu hq=>?_,fun a b y z k hy hz2 hky hkz=>?_,fun q hq y hy=>?_,⟨fun u hu b hb=>?_,fun q hq y hy b hb=>?_⟩,(h.kp.trans hkv (fun y hy=>Or.inr ?_)).trans hks (fun y hy=>Or.inr ?_),h.lo⟩⟩
 ·have:=hb1.set i (.slice (some ⟨g',0,none⟩) (r.length+1) cap)
  rw[List.setIfInBounds_toArray]at this
  exact this
 ·rw[List.getElem?_set]at hu hq
  by_cases e:i=j
  ·subst e
   rw[if_pos rfl,if_pos hiv]at hu
   rw[if_pos rfl,if_pos hiR]at hq
   cases hu
   cases hq
   refine rowk (q:=r++[x]) ?_
   rw[List.length_append,List.flatMap_append]
   simpa using r1
  ·rw[if_neg e]at hu hq
   exact rowk (q02 (h.ins j u q hu hq) hkv (fun b hb hm=>e (h.nd i j v u b hv hu (by simpa using hm) hb)))
 ·have key: ∀(j:Nat) (u:Value),j≠i->rs[j]?=some u->u.ownBlock=some g'->False:=fun j u hj hu hug=>by
   rcases r3 with r3|r3
   ·exact hj (h.nd j i u v g' hu hv hug r3)
   ·have h1:=World.ownsRow.lt (h.ins j u _ hu (List.getElem?_eq_getElem (by rw[<-h.len];exact (List.getElem?_eq_some_iff.1 hu).1))) g' hug
    omega
  rw[List.getElem?_set]at hy hz2
  by_cases ea:i=a
  ·by_cases eb:i=b
   ·omega
   ·rw[if_neg eb]at hz2
    rw[if_pos ea,if_pos hiv]at hy
    cases hy
    simp only[Value.ownBlock,Option.some.injEq]at hky
    subst hky
    exact (key b z (fun e=>eb e.symm) hz2 hkz).elim
  ·rw[if_neg ea]at hy
   by_cases eb:i=b
   ·rw[if_pos eb,if_pos hiv]at hz2
    cases hz2
    simp only[Value.ownBlock,Option.some.injEq]at hkz
    subst hkz
    exact (key a y (fun e=>ea e.symm) hy hky).elim
   ·rw[if_neg eb]at hz2
    exact h.nd a b y z k hy hz2 hky hkz
 ·rcases List.mem_or_eq_of_mem_set hq with hq|rfl
  ·exact irok (h.az q hq y hy)
  ·rw[List.mem_append,List.mem_singleton]at hy
   rcases hy with hy|rfl
   ·exact irok (h.az r (List.mem_of_getElem? hr) y hy)
   ·exact irok hx
 ·rcases List.mem_or_eq_of_mem_set hu with hu|rfl
  ·exact h.nw.1 u hu b hb
  ·simp only[Value.ownBlock,Option.some.injEq]at hb
   omega
 ·rcases List.mem_or_eq_of_mem_set hq with hq|rfl
  ·exact h.nw.2 q hq y hy b hb
  ·rw[List.mem_append,List.mem_singleton]at hy
   rcases hy with hy|rfl
   ·exact h.nw.2 r (List.mem_of_getElem? hr) y hy b hb
   ·exact hxb b hb
 ·have h1:=h.nw.1 v (List.mem_of_getElem? hv) y (by simpa using hy)
  have:=h.lo
  omega
 ·rw[List.mem_singleton]at hy
  rw[hy]
  exact h.lo
end Go.Proofs.YtcmjnlpofebbmaaGreatDoor
