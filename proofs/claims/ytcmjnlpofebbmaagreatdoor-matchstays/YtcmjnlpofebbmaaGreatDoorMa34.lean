/-
  Walks and plain facts, made small.
-/
import Derived.Test.YtcmjnlpofebbmaaGreatDoorMa33
set_option maxRecDepth 100000
set_option maxHeartbeats 8000000
set_option linter.unusedSimpArgs false
namespace Go.Proofs.YtcmjnlpofebbmaaGreatDoor
open Go.RowKit Go.Shelf
theorem St.look {c:SC}{go:Bool}{T:List (List Nat)}{en:Nat}{xs:List Cp}{w:World}(h:St c go T en xs w){q:Nat}(hq:q<c.x.k.es.length)(s:Spt):
  ∃o fd,w.cell? ⟨c.gd,q,none⟩=some (.map o)/\(∀W,Kp [] w W->W.cell? ⟨c.gd,q,none⟩=some (.map o)/\(Instr.lookup 100 (.map o) (.agg s.c) true).run Tryz.prog W= .ok (.tuple #[.agg #[], .bool fd]) W)/\(fd=true-> ∃s',s.q s'=true/\DdG c en q s'):=by
 obtain ⟨pv,lv,vs,D,hS⟩:=h
 obtain ⟨o,ho⟩: ∃o,D[q]?=some o:=⟨_,List.getElem?_eq_getElem (by rw[hS.dd.len];exact hq)⟩
 cases o with
 |none=>exact ⟨none,false,hS.dd.at ho,fun W hk=>⟨(hS.dd.kp hk (by simp)).at ho,qb5 W s⟩,fun e=>by cases e⟩
 |some b=>
  obtain ⟨_,S,h2,h3⟩:=hS.dd.mp q b ho
  refine ⟨some b,hasP S s,hS.dd.at ho,fun W hk=>⟨(hS.dd.kp hk (by simp)).at ho,(h2.kp hk (by simp)).look s⟩,fun e=>?_⟩
  unfold hasP at e
  rw[List.any_eq_true]at e
  obtain ⟨s',h4,h5⟩:=e
  exact ⟨s',h5,h3 s' h4⟩
theorem qbj {c:SC}(hI:ScI c){r r':List RdC}{y y':RdC}(hr:r∈c.R)(hr':r'∈c.R)(hy:y∈r)(hy':y'∈r')(hf:y'.fr=y.fr)(ht:y'.td=y.td):y'.bs=y.bs:=by
 obtain ⟨i,hi⟩:=List.getElem?_of_mem hr
 obtain ⟨j,hj⟩:=List.getElem?_of_mem hr'
 have hyi:=hI.ry i r hi
 have hyj:=hI.ry j r' hj
 have e1:=(hyi.2 y hy).1
 have e2:=(hyj.2 y' hy').1
 have:i=j:=by omega
 subst this
 rw[hi]at hj
 cases hj
 have hnd:(r.map (·.td)).Nodup:=by
  rw[hyi.1]
  unfold rdT rdA
  split <;> split <;> simp
 obtain ⟨a,ha⟩:=List.getElem?_of_mem hy
 obtain ⟨b,hb⟩:=List.getElem?_of_mem hy'
 have hab:a=b:=by
  obtain ⟨ha1,ha2⟩:=List.getElem?_eq_some_iff.1 ha
  obtain ⟨hb1,hb2⟩:=List.getElem?_eq_some_iff.1 hb
  have hpw:=List.pairwise_iff_getElem.1 hnd
  have hl:(r.map (·.td)).length=r.length:=List.length_map _
  have he: ∀(x z:Nat) (hx:x<r.length) (hz:z<r.length),x<z->r[x].td=r[z].td->False:=fun x z hx hz hxz e=>hpw x z (by omega) (by omega) hxz (by rw[List.getElem_map,List.getElem_map];exact e)
  rcases Nat.lt_trichotomy a b with h|h|h
  ·exact (he a b ha1 hb1 h (by rw[ha2,hb2,ht])).elim
  ·exact h
  ·exact (he b a hb1 ha1 h (by rw[ha2,hb2,ht])).elim
 subst hab
 rw[ha]at hb
 cases hb
 rfl
theorem DdG.of {c:SC}(hI:ScI c){T:List (List Nat)}{en:Nat}(hen:en<=c.x.k.es.length){r:List RdC}{y:RdC}(hr:r∈c.R)(hyr:y∈r)(hy:RoadOf c T y)(hd:Mt.alo c.x.k.P en T y.td=[]):DdG c en (Mt.endT T) ⟨y.fr,y.td,Mt.spE y.bs T⟩:=by
 intro r' hr' y' hy' h1 h2
 dsimp only at h1 h2 ⊢
 rw[qbj hI hr hr' hyr hy' h1 h2]
 have hl8:=hI.hX.hI.l8
 have hlt:=hy.lt
 refine Mt.Dd.of (Mt.asks_pm c.x.k.p c.x.k.es) (fun i hi t ht ha=>?_) (fun i hi=>?_) hy.fr.symm rfl (by rcases hy.td with h|h <;> omega) (by exact hen) hd
 ·refine hy.g.al i hi t ht ?_ (q8M hI.hX.hp ha)
  by_cases h:t<(c.x.ss).length
  ·exact h
  ·exfalso
   unfold Mt.askP at ha
   rw[show c.x.k.p.ss[t]?=none from List.getElem?_eq_none (by have:c.x.k.p.ss=c.x.ss:=rfl;rw[this];omega)]at ha
   cases ha
 ·have:=hy.g.lt i hi
  have h3:=hy.td
  omega
theorem DdG.dead {c:SC}{T:List (List Nat)}{en:Nat}{r:List RdC}{y:RdC}(hr:r∈c.R)(hyr:y∈r)(hy:RoadOf c T y){s':Spt}(hq:(⟨y.fr,y.td,Mt.spE y.bs T⟩:Spt).q s'=true)(hd:DdG c en (Mt.endT T) s'):Mt.alo c.x.k.P en T y.td=[]:=by
 obtain ⟨h1,h2,h3⟩:=(Spt.q_iff _ _).1 hq
 dsimp only at h1 h2 h3
 have:=hd r hr y hyr h1 h2 T (by rw[<-h1];exact hy.fr.symm) rfl h3
 rw[<-h2]at this
 exact this
theorem St.bury {c:SC}(hI:ScI c){go:Bool}{T:List (List Nat)}{en:Nat}{xs:List Cp}{w:World}(h:St c go T en xs w){q:Nat}(hq:q<c.x.k.es.length)(s:Spt)(hG:DdG c en q s):
  Calls Tryz.prog 109 #[.pointer (some ⟨c.gs,0,none⟩), .int .i64 (q:Int), .agg s.c] w fun e w'=>(∃v,e= .returned v)/\St c go T en xs w'/\KT w w':=by
 obtain ⟨pv,lv,vs,D,hS⟩:=h
 refine (qae c.x.k w c.gs c.x.gx c.B c.gd en xs.length c.x.k.w0.heap.size (DdG c en) D hS.bx hS.dd hS.hk.kp.size q hq s hG).mono ?_
 rintro e w' ⟨hv,D',hd,hk,_⟩
 obtain ⟨h1,h2⟩:=hS.bury hI hd hk
 exact ⟨hv,⟨pv,lv,vs,D',h1⟩,h2⟩
theorem q8I (c:SC)(hI:ScI c)(l en fs:Nat)(T:List (List Nat))(hT:TOk fs T)(hen:en<=c.x.k.es.length)(hfw:en<=fs+c.x.W)(hTe:Mt.endT T<en)(r:List RdC)(hr:r∈c.R)(y:RdC)(hyr:y∈r)(hy:RoadOf c T y)(IH: ∀q,Mt.endT T<q->q<en->q3i c l en T y.td q)(xs:List Cp)(w:World)(h:St c true T en xs w):
  Calls Tryz.prog 81 #[.pointer (some ⟨c.gs,0,none⟩), .agg y.l.toArray, .int .i64 (Mt.endT T:Int), .func (.yield l) #[] #[]] w (EndS c T en xs w (Mt.alo c.x.k.P en T y.td)):=by
 have hel:=hI.hX.hI.el
 have hl8:=hI.hX.hI.l8
 have hylt:=hy.lt
 have hyfr:=hy.fr
 have hytd:=hy.td
 have HWK:=hZq (fun (W:World) (hs:St c true T en xs W)=>qbJ c hI l en fs T hT hen hfw y hy IH xs W hs (by omega))
 have HDA:Hid (∀s',(⟨y.fr,y.td,Mt.spE y.bs T⟩:Spt).q s'=true->DdG c en (Mt.endT T) s'->Mt.alo c.x.k.P en T y.td=[]):=hZq (fun s' h1 h2=>DdG.dead hr hyr hy h1 h2)
 have HDO:Hid (Mt.alo c.x.k.P en T y.td=[]->DdG c en (Mt.endT T) ⟨y.fr,y.td,Mt.spE y.bs T⟩):=hZq (fun h1=>DdG.of hI hen hr hyr hy h1)
 have kw:=Kp.alloc w (.cells y.l.toArray 141)
 have hs1:=h.al hI kw
 have HSP:Hid (Calls Tryz.prog 107 #[.pointer (some ⟨c.gs,0,none⟩), .agg y.l.toArray] (w.alloc (.cells y.l.toArray 141)) fun e w'=>e= .returned (.agg (Spt.c ⟨y.fr,y.td,Mt.spE y.bs T⟩))/\Kp [] (w.alloc (.cells y.l.toArray 141)) w'):=hZq (by
  obtain ⟨pv,lv,vs,D,hS⟩:=hs1
  exact qbp c.x.k _ T _ pv lv vs hS.hk c.gs c.x.gx c.B c.gd en xs.length hS.bx y ((hI.ro _ hS.hk.kp).2.2 r hr y hyr) (by have:=hy.g.ln;omega) (fun i hi=>by have:=hy.g.lt i hi;omega) (by omega) (by omega) (fun m hm=>by
   have h1:=hT.ea m hm
   have h2:=hT.lst hm
   exact ⟨h1.1,by omega,by omega⟩))
 have rb1:=CBox.new w y.l.toArray 141
 have HLK:=hZq (fun (W:World) (hs:St c true T en xs W)=>hs.look (q:=Mt.endT T) (by omega) ⟨y.fr,y.td,Mt.spE y.bs T⟩)
 have hle:Mt.endT T<c.x.k.es.length:=by omega
 obtain ⟨A,hA⟩: ∃A,A=Mt.alo c.x.k.P en T y.td:=⟨_,rfl⟩
 rw[<-hA]at HWK HDA HDO ⊢
 clear hA
 obtain ⟨fr,td,oh,oe,xa,xc,bs⟩:=y
 unfold RdC.l RdC.v at *
 dsimp only at *
 generalize Value.slice xa bs.length xc=ov at *
 generalize Mt.spE bs T=f at *
 have HI:=hZq hI
 have HRB:Hid (RBx w.heap.size fr td oh oe ov (w.alloc (.cells #[.int .i64 (fr:Int), .int .i64 (td:Int), .bool oh, .bool oe,ov] 141))):=hZq ⟨rb1⟩
 have HS1:=hZq hs1
 have HKW:=hZq (KT.own kw (by simp))
 obtain ⟨W1,hW1⟩: ∃W1,W1=w.alloc (.cells #[.int .i64 (fr:Int), .int .i64 (td:Int), .bool oh, .bool oe,ov] 141):=⟨_,rfl⟩
 rw[<-hW1]at HRB HS1 HKW HSP
 clear hI h hT hy IH hs1 rb1 kw hr hyr
 generalize Mt.endT T=la at *
 obtain ⟨EL,hEL⟩: ∃EL,c.x.k.es.length=EL:=⟨_,rfl⟩
 have HEL:=hZq hEL
 rw[hEL]at hle
 clear hEL hel hen hfw hTe
 have hlei:(la:Int)<(EL:Int):=by omega
 obtain ⟨q0,q1,q2,q3,q4⟩:=(uQ HRB).kt (KT.refl _)
 go_enter Tryz.func81,Tryz.ntmps81
 go_upto_region 1 with fail
 rw[<-hW1]
 clear hW1
 go_wp2_with fail
 refine (uQ HSP).mono ?_
 rintro e w2 ⟨rfl,hk2⟩
 unfold Spt.c
 dsimp only
 have hs2:=(uQ HS1).al (uQ HI) hk2
 have k3:=Kp.alloc w2 (.cells #[.int .i16 (fr:Int), .int .i16 (td:Int), .int .i16 (f 0:Int), .int .i16 (f 1:Int), .int .i16 (f 2:Int), .int .i16 (f 3:Int), .int .i16 (f 4:Int), .int .i16 (f 5:Int), .int .i16 (f 6:Int), .int .i16 (f 7:Int)] 186)
 have hs3:=hs2.al (uQ HI) k3
 have sb3:=CBox.new w2 #[.int .i16 (fr:Int), .int .i16 (td:Int), .int .i16 (f 0:Int), .int .i16 (f 1:Int), .int .i16 (f 2:Int), .int .i16 (f 3:Int), .int .i16 (f 4:Int), .int .i16 (f 5:Int), .int .i16 (f 6:Int), .int .i16 (f 7:Int)] 186
 obtain ⟨o,fd,_,hlk,hfd⟩:=uQ HLK _ hs3
 have g3: ∀W,Kp [] (w2.alloc (.cells #[.int .i16 (fr:Int), .int .i16 (td:Int), .int .i16 (f 0:Int), .int .i16 (f 1:Int), .int .i16 (f 2:Int), .int .i16 (f 3:Int), .int .i16 (f 4:Int), .int .i16 (f 5:Int), .int .i16 (f 6:Int), .int .i16 (f 7:Int)] 186)) W->W.cell? ⟨c.gs,3,none⟩=some (.slice (some ⟨c.gd,0,none⟩) EL EL):=fun W hk=>by
  obtain ⟨pv,lv,vs,D,hS⟩:=hs3.al (uQ HI) hk
  rw[<-uQ HEL]
  exact hS.bx.cell rfl
 obtain ⟨W3,hW3⟩: ∃W3,W3=w2.alloc (.cells #[.int .i16 (fr:Int), .int .i16 (td:Int), .int .i16 (f 0:Int), .int .i16 (f 1:Int), .int .i16 (f 2:Int), .int .i16 (f 3:Int), .int .i16 (f 4:Int), .int .i16 (f 5:Int), .int .i16 (f 6:Int), .int .i16 (f 7:Int)] 186):=⟨_,rfl⟩
 rw[<-hW3]at k3 hs3 sb3 hlk g3
 have HSL:Hid (∀W,Kp [] W3 W->W.cell? ⟨c.gs,3,none⟩=some (.slice (some ⟨c.gd,0,none⟩) EL EL)/\W.cell? ⟨c.gd,la,none⟩=some (.map o)/\W.cell? ⟨w2.heap.size,0,none⟩=some (.int .i16 (fr:Int))/\W.cell? ⟨w2.heap.size,1,none⟩=some (.int .i16 (td:Int))/\W.cell? ⟨w2.heap.size,2,none⟩=some (.int .i16 (f 0:Int))/\W.cell? ⟨w2.heap.size,3,none⟩=some (.int .i16 (f 1:Int))/\W.cell? ⟨w2.heap.size,4,none⟩=some (.int .i16 (f 2:Int))/\W.cell? ⟨w2.heap.size,5,none⟩=some (.int .i16 (f 3:Int))/\W.cell? ⟨w2.heap.size,6,none⟩=some (.int .i16 (f 4:Int))/\W.cell? ⟨w2.heap.size,7,none⟩=some (.int .i16 (f 5:Int))/\W.cell? ⟨w2.heap.size,8,none⟩=some (.int .i16 (f 6:Int))/\W.cell? ⟨w2.heap.size,9,none⟩=some (.int .i16 (f 7:Int))/\(Instr.lookup 100 (.map o) (.agg #[.int .i16 (fr:Int), .int .i16 (td:Int), .int .i16 (f 0:Int), .int .i16 (f 1:Int), .int .i16 (f 2:Int), .int .i16 (f 3:Int), .int .i16 (f 4:Int), .int .i16 (f 5:Int), .int .i16 (f 6:Int), .int .i16 (f 7:Int)]) true).run Tryz.prog W= .ok (.tuple #[.agg #[], .bool fd]) W):=hZq (fun W hk=>by
  have h5:=sb3.kp hk (by simp)
  exact ⟨g3 W hk,(hlk W hk).1,h5.cell rfl,h5.cell rfl,h5.cell rfl,h5.cell rfl,h5.cell rfl,h5.cell rfl,h5.cell rfl,h5.cell rfl,h5.cell rfl,h5.cell rfl,(hlk W hk).2⟩)
 have HK3:=hZq (show Kp [] W1 W3 from hk2.trans k3 (by simp))
 have HS3:=hZq hs3
 have HSB:=hZq sb3
 have HFD:=hZq hfd
 clear HSP hk2 hs2 k3 hs3 sb3 hlk g3 hfd HLK HS1 q0 q1 q2 q3 q4
 go_upto_region 2 with fail
 rw[<-hW3]
 clear hW3
 obtain ⟨V,hV⟩: ∃V,V=W3.drew:=⟨_,rfl⟩
 have kd:Kp [] W3 V:=by rw[hV];exact Kp.drew _
 go_cut [11] (fun ov wc=>ov= .bool fd/\Hid (Kp [] W3 wc))
 case first=>
  refine wp_region_held_drew (S:=fun W=>W.cell? ⟨c.gs,3,none⟩=some (.slice (some ⟨c.gd,0,none⟩) EL EL)/\W.cell? ⟨c.gd,la,none⟩=some (.map o)/\W.cell? ⟨w2.heap.size,0,none⟩=some (.int .i16 (fr:Int))/\W.cell? ⟨w2.heap.size,1,none⟩=some (.int .i16 (td:Int))/\W.cell? ⟨w2.heap.size,2,none⟩=some (.int .i16 (f 0:Int))/\W.cell? ⟨w2.heap.size,3,none⟩=some (.int .i16 (f 1:Int))/\W.cell? ⟨w2.heap.size,4,none⟩=some (.int .i16 (f 2:Int))/\W.cell? ⟨w2.heap.size,5,none⟩=some (.int .i16 (f 3:Int))/\W.cell? ⟨w2.heap.size,6,none⟩=some (.int .i16 (f 4:Int))/\W.cell? ⟨w2.heap.size,7,none⟩=some (.int .i16 (f 5:Int))/\W.cell? ⟨w2.heap.size,8,none⟩=some (.int .i16 (f 6:Int))/\W.cell? ⟨w2.heap.size,9,none⟩=some (.int .i16 (f 7:Int))/\(Instr.lookup 100 (.map o) (.agg #[.int .i16 (fr:Int), .int .i16 (td:Int), .int .i16 (f 0:Int), .int .i16 (f 1:Int), .int .i16 (f 2:Int), .int .i16 (f 3:Int), .int .i16 (f 4:Int), .int .i16 (f 5:Int), .int .i16 (f 6:Int), .int .i16 (f 7:Int)]) true).run Tryz.prog W= .ok (.tuple #[.agg #[], .bool fd]) W) (by kernel_rfl) (by rw[<-hV];exact uQ HSL V kd) (fun hHeld=>?_)
  rw[<-hV]at hHeld ⊢
  clear hV
  show wpAnyH _ _ _ _ _ 15 (Array.replicate 15 false) _ _
  refine zzH (i:=0) (v:=?_) rfl (fun _ _ _ h=>h) (Or.inl ⟨by rfl,?_⟩) (by assumption) ?_
  rotate_left 1
  ·intro w0 hSw;(try dsimp only at hSw);go_simp;(try with_reducible rfl)
  try simp only[Act.put,zz1,zz2,zz3]
  refine zzH (i:=1) (v:=?_) rfl (fun _ _ _ h=>h) (Or.inl ⟨by rfl,?_⟩) (by assumption) ?_
  rotate_left 1
  ·intro w0 hSw;(try dsimp only at hSw);go_simp;(try with_reducible rfl)
  try simp only[Act.put,zz1,zz2,zz3]
  refine zzH (i:=2) (v:=?_) rfl (fun _ _ _ h=>h) (Or.inl ⟨by rfl,?_⟩) (by assumption) ?_
  rotate_left 1
  ·intro w0 hSw;(try dsimp only at hSw);go_simp;(try with_reducible rfl)
  try simp only[Act.put,zz1,zz2,zz3]
  refine zzH (i:=3) (v:=?_) rfl (fun _ _ _ h=>h) (Or.inl ⟨by rfl,?_⟩) (by assumption) ?_
  rotate_left 1
  ·intro w0 hSw;(try dsimp only at hSw);go_simp;(try with_reducible rfl)
  try simp only[Act.put,zz1,zz2,zz3]
  refine zzH (i:=4) (v:=?_) rfl (fun _ _ _ h=>h) (Or.inl ⟨by rfl,?_⟩) (by assumption) ?_
  rotate_left 1
  ·intro w0 hSw;(try dsimp only at hSw);go_simp;(try with_reducible rfl)
  try simp only[Act.put,zz1,zz2,zz3]
  refine zzH (i:=5) (v:=?_) rfl (fun _ _ _ h=>h) (Or.inl ⟨by rfl,?_⟩) (by assumption) ?_
  rotate_left 1
  ·intro w0 hSw;(try dsimp only at hSw);go_simp;(try with_reducible rfl)
  try simp only[Act.put,zz1,zz2,zz3]
  refine zzH (i:=6) (v:=?_) rfl (fun _ _ _ h=>h) (Or.inl ⟨by rfl,?_⟩) (by assumption) ?_
  rotate_left 1
  ·intro w0 hSw;(try dsimp only at hSw);go_simp;(try with_reducible rfl)
  try simp only[Act.put,zz1,zz2,zz3]
  refine zzH (i:=7) (v:=?_) rfl (fun _ _ _ h=>h) (Or.inl ⟨by rfl,?_⟩) (by assumption) ?_
  rotate_left 1
  ·intro w0 hSw;(try dsimp only at hSw);go_simp;(try with_reducible rfl)
  try simp only[Act.put,zz1,zz2,zz3]
  refine zzH (i:=8) (v:=?_) rfl (fun _ _ _ h=>h) (Or.inl ⟨by rfl,?_⟩) (by assumption) ?_
  rotate_left 1
  ·intro w0 hSw;(try dsimp only at hSw);go_simp;(try with_reducible rfl)
  try simp only[Act.put,zz1,zz2,zz3]
  refine zzH (i:=9) (v:=?_) rfl (fun _ _ _ h=>h) (Or.inl ⟨by rfl,?_⟩) (by assumption) ?_
  rotate_left 1
  ·intro w0 hSw;(try dsimp only at hSw);go_simp;(try with_reducible rfl)
  try simp only[Act.put,zz1,zz2,zz3]
  refine zzH (i:=10) (v:=?_) rfl (fun _ _ _ h=>h) (Or.inl ⟨by rfl,?_⟩) (by assumption) ?_
  rotate_left 1
  ·intro w0 hSw;(try dsimp only at hSw);go_simp;(try with_reducible rfl)
  try simp only[Act.put,zz1,zz2,zz3]
  refine zzH (i:=11) (v:=?_) rfl (fun _ _ _ h=>h) (Or.inl ⟨by rfl,?_⟩) (by assumption) ?_
  rotate_left 1
  ·intro w0 hSw;(try dsimp only at hSw);go_simp;(try with_reducible rfl)
  try simp only[Act.put,zz1,zz2,zz3]
  refine wpAnyH_ready (rs:=[12]) (by kernel_rfl) (by simp) ?_
  refine AllReadyH.cons rfl (fun K hK=>?_) AllReadyH.nil
  go_simp
  skip
  refine hK.out _ _ ?_ (fun hHeld=>?_)
  ·exact uQ HSL _ (kd.trans (Kp.alloc _ _) (by simp))
  clear hK K
  try simp only[Act.put,zz1,zz2,zz3]
  refine wpAnyH_ready (rs:=[13]) (by kernel_rfl) (by simp) ?_
  refine AllReadyH.cons rfl (fun K hK=>?_) AllReadyH.nil
  go_simp
  skip
  refine hK.out _ _ ?_ (fun hHeld=>?_)
  ·exact uQ HSL _ (kd.trans (Kp.alloc _ _) (by simp))
  clear hK K
  try simp only[Act.put,zz1,zz2,zz3]
  refine wpAnyH_ready (rs:=[14]) (by kernel_rfl) (by simp) ?_
  refine AllReadyH.cons rfl (fun K hK=>?_) AllReadyH.nil
  go_simp
  skip
  refine hK.out _ _ ?_ (fun hHeld=>?_)
  ·exact uQ HSL _ (kd.trans (Kp.alloc _ _) (by simp))
  clear hK K
  try simp only[Act.put,zz1,zz2,zz3]
  refine wpAnyH_done (by kernel_rfl) ?_ _
  go_wp2
  go_meet
  exact ⟨rfl,hZq (kd.trans (Kp.alloc _ _) (by simp))⟩
 case rest=>
 obtain ⟨rfl,HKC⟩:=hcut
 have hs4:=(uQ HS3).al (uQ HI) (uQ HKC)
 have kt4:KT W1 wc:=(KT.own (uQ HK3) (by simp)).trans (KT.own (uQ HKC) (by simp))
 have sb4:=(uQ HSB).kp (uQ HKC) (by simp)
 have HK4:=hZq ((uQ HKW).trans kt4)
 have HS4:=hZq hs4
 have HSB4:=hZq sb4
 obtain ⟨q0,q1,q2,q3,q4⟩:=(uQ HRB).kt kt4
 have g5:=hs4.gs5
 obtain ⟨n1,hn1⟩: ∃n,n=xs.length:=⟨_,rfl⟩
 rw[<-hn1]at g5
 have HN1:=hZq hn1
 have HWC:=hZq (uQ HWK wc hs4)
 clear hn1 hs4 sb4 kt4 HK3 HKC HS3 HSB HKW HSL HWK HRB
 cases fd with
 |true=>
  have HF:Hid (EndS c T en xs w A (.returned (.bool true)) wc):=hZq (by
   obtain ⟨s',h1,h2⟩:=uQ HFD rfl
   rw[uQ HDA s' h1 h2]
   exact ⟨true,[],rfl,by rw[List.append_nil];exact uQ HS4,uQ HK4,PrT.nil⟩)
  clear HS4 HK4 HFD HDA HDO HWC HSB4 HI HN1
  go_wp2
  go_ret
  exact uQ HF
 |false=>
  clear HFD HDA
  go_wp2_with fail
  refine (uQ HWC).mono ?_
  rintro e w5 ⟨go,ys,rfl,hst,hk,hpre⟩
  have h5:=hst.gs5
  obtain ⟨n2,hn2⟩: ∃n,n=(xs++ys).length:=⟨_,rfl⟩
  rw[<-hn2]at h5
  have HNN:Hid (n2=n1↔ys=[]):=hZq (by
   have e:(xs++ys).length=xs.length+ys.length:=List.length_append
   rw[uQ HN1,hn2,e]
   constructor
   ·intro e;exact List.length_eq_zero_iff.1 (by omega)
   ·rintro rfl;rfl)
  have HST:=hZq hst
  have HKT:=hZq ((uQ HK4).trans hk)
  have HPR:=hZq hpre
  have sb5:=hk.bl _ _ _ (uQ HSB4) (by simp)
  have t0:=sb5.cell (i:=0) (v:= .int .i16 (fr:Int)) rfl
  have t1:=sb5.cell (i:=1) (v:= .int .i16 (td:Int)) rfl
  have t2:=sb5.cell (i:=2) (v:= .int .i16 (f 0:Int)) rfl
  have t3:=sb5.cell (i:=3) (v:= .int .i16 (f 1:Int)) rfl
  have t4:=sb5.cell (i:=4) (v:= .int .i16 (f 2:Int)) rfl
  have t5:=sb5.cell (i:=5) (v:= .int .i16 (f 3:Int)) rfl
  have t6:=sb5.cell (i:=6) (v:= .int .i16 (f 4:Int)) rfl
  have t7:=sb5.cell (i:=7) (v:= .int .i16 (f 5:Int)) rfl
  have t8:=sb5.cell (i:=8) (v:= .int .i16 (f 6:Int)) rfl
  have t9:=sb5.cell (i:=9) (v:= .int .i16 (f 7:Int)) rfl
  clear hn2 hst hk hpre HWC g5 q0 q1 q2 q3 q4 HS4 HK4 HSB4 sb5 HN1
  cases go with
  |false=>
   have HF:Hid (EndS c T en xs w A (.returned (.bool false)) w5):=hZq ⟨false,ys,rfl,uQ HST,uQ HKT,uQ HPR⟩
   clear HST HKT HPR HNN HDO HI
   go_wp2
   go_ret
   exact uQ HF
  |true=>
   by_cases hz:ys=[]
   ·have hnn:n2=n1:=(uQ HNN).2 hz
    subst hnn
    have hAe:A=[]:=by
     rcases uQ HPR with ⟨_,e⟩|⟨e,_⟩
     ·rw[<-e,hz];rfl
     ·cases e
    have HBU:=hZq ((uQ HST).bury (uQ HI) (q:=la) (by rw[uQ HEL];exact hle) ⟨fr,td,f⟩ (uQ HDO hAe))
    unfold Spt.c at HBU
    dsimp only at HBU
    clear HNN HDO hAe
    go_wp2_with fail
    refine (uQ HBU).mono ?_
    rintro e w6 ⟨⟨v,rfl⟩,hs6,hk6⟩
    have HF:Hid (EndS c T en xs w A (.returned (.bool true)) w6):=hZq ⟨true,ys,rfl,hs6,(uQ HKT).trans hk6,uQ HPR⟩
    clear HBU hs6 hk6 HST HKT HPR HI
    go_wp2
    go_ret
    exact uQ HF
   ·have hnn: ¬ (n2:Int)=(n1:Int):=fun e=>hz ((uQ HNN).1 (by omega))
    have HF:Hid (EndS c T en xs w A (.returned (.bool true)) w5):=hZq ⟨true,ys,rfl,uQ HST,uQ HKT,uQ HPR⟩
    clear HST HKT HPR HNN HDO HI
    go_wp2
    go_ret
    exact uQ HF
open Go.RowKit Go.Shelf
theorem q9J: ∀(r:List RdC) (j:Nat) (h:j<r.length) (i:Nat),i<5->(r.flatMap RdC.l)[j * 5+i]?=(r[j].l)[i]?
 |[],j,h,_,_=>absurd h (by simp)
 |a::r,0,_,i,hi=>by
  rw[List.flatMap_cons,Nat.zero_mul,Nat.zero_add,List.getElem?_append_left (by show i<5;exact hi)]
  rfl
 |a::r,j+1,h,i,hi=>by
  have h2:j<r.length:=by simpa using h
  rw[List.flatMap_cons,List.getElem?_append_right (by show 5<=_;omega),show (j+1) * 5+i-a.l.length=j * 5+i by show _-5=_;omega,q9J r j h2 i hi]
  rfl
theorem St.roads {c:SC}(hI:ScI c){go:Bool}{T:List (List Nat)}{en:Nat}{xs:List Cp}{w:World}(h:St c go T en xs w){t:Nat}{r:List RdC}(hr:c.R[t]?=some r){v:Value}(hv:c.rs[t]?=some v):
  w.cell? ⟨c.gs,2,none⟩=some (.slice (some ⟨c.B,0,none⟩) c.x.k.l.length c.x.k.l.length)/\w.cell? ⟨c.B,t,none⟩=some v/\(∃a cap,v= .slice a r.length cap/\r.length<=cap\/v= .slice none 0 0/\r=[])/\ ∀(j:Nat) (hj:j<r.length), ∃g cap,v= .slice (some ⟨g,0,none⟩) r.length cap/\w.cell? ⟨g,j * 5,none⟩=some (.int .i64 (r[j].fr:Int))/\w.cell? ⟨g,j * 5+1,none⟩=some (.int .i64 (r[j].td:Int))/\w.cell? ⟨g,j * 5+2,none⟩=some (.bool r[j].oh)/\w.cell? ⟨g,j * 5+3,none⟩=some (.bool r[j].oe)/\w.cell? ⟨g,j * 5+4,none⟩=some r[j].v:=by
 obtain ⟨pv,lv,vs,D,hS⟩:=h
 obtain ⟨h1,h2,_⟩:=hI.ro w hS.hk.kp
 have ho:=h2 t v r hv hr
 refine ⟨hS.bx.cell rfl,h1.cell (by simpa using hv),?_,fun j hj=>?_⟩
 ·obtain ⟨_,⟨e,e0⟩|⟨g,cap,cur,e,_,_,hc,_⟩⟩:=id ho
  ·exact ⟨none,0,Or.inr ⟨e,List.eq_nil_of_length_eq_zero e0⟩⟩
  ·exact ⟨_,cap,Or.inl ⟨e,hc⟩⟩
 ·obtain ⟨_,⟨e,e0⟩|⟨g,cap,cur,e,_⟩⟩:=id ho
  ·omega
  ·have hc: ∀i,i<5->w.cell? ⟨g,j * 5+i,none⟩=(r[j].l)[i]?:=fun i hi=>by
    rw[<-q9J r j hj i hi]
    subst e
    exact World.ownsRow.cellAt ho (j * 5+i) (by omega)
   exact ⟨g,cap,e,hc 0 (by omega),hc 1 (by omega),hc 2 (by omega),hc 3 (by omega),hc 4 (by omega)⟩
theorem qbk {c:SC}(hI:ScI c){T:List (List Nat)}{t:Nat}(hT:T.length=t+1)(ht:t<c.x.k.l.length){r:List RdC}(hr:c.R[t]?=some r):r.map (·.td)=Mt.rds c.x.k.P T/\ ∀y∈r,RoadOf c T y:=by
 have hss:c.x.ss.length=c.x.k.l.length:=q03 _
 have hy:=hI.ry t r hr
 have e1:Mt.rds c.x.k.P T=rdT c.x.ss t:=by
  unfold Mt.rds rdT rdA
  rw[hT,Nat.add_sub_cancel]
  rfl
 have hm: ∀y∈r,(y.td=t/\mnAt c.x.ss t=true)\/(y.td=t+1/\t+1<c.x.ss.length):=fun y hyr=>by
  have hm:y.td∈rdT c.x.ss t:=by rw[<-hy.1];exact List.mem_map.2 ⟨y,hyr,rfl⟩
  unfold rdT rdA at hm
  rw[List.mem_append]at hm
  rcases hm with hm|hm
  ·split at hm
   ·rename_i h
    exact Or.inl ⟨by simpa using hm,h⟩
   ·cases hm
  ·split at hm
   ·rename_i h
    exact Or.inr ⟨by simpa using hm,h⟩
   ·cases hm
 refine ⟨by rw[hy.1,e1],fun y hyr=>⟨(hy.2 y hyr).2,by rw[(hy.2 y hyr).1,hT],?_,?_⟩⟩
 ·rw[(hy.2 y hyr).1]
  exact (hm y hyr).imp id (fun h=>h.1)
 ·rcases hm y hyr with h|h <;> omega
theorem qau {T:List (List Nat)}{t q:Nat}(ht:t=T.length\/t+1=T.length)(hne: ∀l∈T,l≠[]): ∃A l,Mt.ext T t q=A++[l++[q]]/\(if l=[] then A else A++[l])=T/\A.length=t:=by
 rcases ht with h|h
 ·exact ⟨T,[],by unfold Mt.ext;rw[if_pos h];rfl,if_pos rfl,h.symm⟩
 ·have hT:T≠[]:=fun e=>by rw[e]at h;simp at h
  have e1:T.dropLast++[T.getLast hT]=T:=List.dropLast_concat_getLast hT
  have e2:T.getLastD []=T.getLast hT:=by rw[List.getLastD_eq_getLast?,List.getLast?_eq_some_getLast hT];rfl
  refine ⟨T.dropLast,T.getLast hT,?_,?_,?_⟩
  ·unfold Mt.ext
   rw[if_neg (by omega),e2]
  ·rw[if_neg (hne _ (List.getLast_mem hT)),e1]
  ·rw[List.length_dropLast];omega
theorem qaB {α β γ:Type}(f:α->β)(g:β->List γ)(l:List α):(l.map f).flatMap g=l.flatMap fun a=>g (f a):=by rw[List.flatMap_map]
theorem q9m (c:SC)(hI:ScI c)(l:Nat)(hY:Ylds c l)(en fs:Nat)(T:List (List Nat))(t q:Nat)(ht:t=T.length\/t+1=T.length)(htl:t<c.x.k.l.length)(hne: ∀l∈T,l≠[]/\l.length<=4096)(hT:TOk fs (Mt.ext T t q))(hen:en<=c.x.k.es.length)(hfw:en<=fs+c.x.W)(hqe:q<en)
  (IH: ∀td q',q<q'->q'<en->(td=(Mt.ext T t q).length\/td+1=(Mt.ext T t q).length)->td<c.x.k.l.length->q3i c l en (Mt.ext T t q) td q'):q3i c l en T t q:=by
 intro xs w h
 have hel:=hI.hX.hI.el
 have hl8:=hI.hX.hI.l8
 have hTl:(Mt.ext T t q).length=t+1:=Mt.ext_len q ht
 have hTe:Mt.endT (Mt.ext T t q)=q:=Mt.endT_ext T t q
 obtain ⟨r,hr⟩: ∃r,c.R[t]?=some r:=⟨_,List.getElem?_eq_getElem (by rw[hI.rl];exact htl)⟩
 obtain ⟨v,hv⟩: ∃v,c.rs[t]?=some v:=⟨_,List.getElem?_eq_getElem (by rw[hI.rv,hI.rl];exact htl)⟩
 obtain ⟨hrm,hro⟩:=qbk hI hTl htl hr
 have hun:=Mt.all_unf (P:=c.x.k.P) (en:=en) (Mt.ext T t q) hen (show 1<=c.x.k.es.length by omega)
 have hPN:c.x.k.P.N=c.x.k.l.length:=q03 _
 have hrl:r.length<=2:=by
  have e:=congrArg List.length hrm
  rw[List.length_map]at e
  rw[e]
  unfold Mt.rds
  split <;> split <;> simp
 rw[<-hrm,qaB,hPN]at hun
 rw[hun]
 clear hun hrm
 have HPU:Hid (Calls Tryz.prog 79 #[.pointer (some ⟨c.x.k.gt,0,none⟩), .int .i64 (t:Int), .int .i64 (q:Int)] w fun e w'=>(∃v,e= .returned v)/\St c true (Mt.ext T t q) en xs w'/\KT w w'):=hZq (by
  obtain ⟨pv,lv,vs,D,hS⟩:=h
  refine (qbE c.x.k hI.hX.hI w T pv lv vs hS.hk t q ht (by omega) (by omega) (fun l hl=>(hne l hl).2)).mono ?_
  rintro e w' ⟨h1,pv',lv',vs',h2⟩
  obtain ⟨h3,h4⟩:=hS.take hI h2
  exact ⟨h1,⟨pv',lv',vs',D,h3⟩,h4⟩)
 have HBK:Hid (∀go ys W,St c go (Mt.ext T t q) en ys W->Calls Tryz.prog 82 #[.pointer (some ⟨c.x.k.gt,0,none⟩)] W fun e w'=>(∃v,e= .returned v)/\St c go T en ys w'/\KT W w'):=hZq (fun go ys W hs=>by
  obtain ⟨pv,lv,vs,D,hS⟩:=hs
  obtain ⟨A,m,e1,e2,e3⟩:=qau (q:=q) ht (fun l hl=>(hne l hl).1)
  have hk:=hS.hk
  have hbd: ∀x∈m,x<c.x.k.es.length:=fun x hx=>by
   have:=((hT.ea (m++[q]) (by rw[e1];simp)).2.2 x (by simp[hx])).2
   omega
  have hml:m.length<=4096:=by
   have:=(hT.ea (m++[q]) (by rw[e1];simp)).2.1
   rw[List.length_append]at this
   simp at this
   omega
  rw[e1]at hk
  refine (qa c.x.k hI.hX.hI W A m q pv lv vs hk (by omega) hml hbd).mono ?_
  rintro e w' ⟨h1,pv',lv',vs',h2⟩
  rw[e2]at h2
  obtain ⟨h3,h4⟩:=hS.take hI h2
  exact ⟨h1,⟨pv',lv',vs',D,h3⟩,h4⟩)
 have HHE:=hZq (fun (W:World) (hs:St c true (Mt.ext T t q) en xs W)=>qaQ c hI l hY (Mt.ext T t q) en xs W hs t hTl (by omega) (fun l hl=>⟨(hT.ea l hl).1,by have:=(hT.ea l hl).2.1;omega⟩))
 have HAL:Hid (∀(j:Nat) (hj:j<r.length) ys W,St c true (Mt.ext T t q) en ys W->Calls Tryz.prog 81 #[.pointer (some ⟨c.gs,0,none⟩), .agg r[j].l.toArray, .int .i64 (q:Int), .func (.yield l) #[] #[]] W (EndS c (Mt.ext T t q) en ys W (Mt.alo c.x.k.P en (Mt.ext T t q) r[j].td))):=hZq (fun j hj ys W hs=>by
  have hy:=hro r[j] (List.getElem_mem hj)
  have:=q8I c hI l en fs (Mt.ext T t q) hT hen hfw (by omega) r (List.mem_of_getElem? hr) r[j] (List.getElem_mem hj) hy (fun q' h1 h2=>IH r[j].td q' (by omega) h2 (by have:=hy.fr;rcases hy.td with h|h <;> omega) hy.lt) ys W hs
  rw[hTe]at this
  exact this)
 have HRO:=hZq (fun (go:Bool) (ys:List Cp) (W:World) (hs:St c go (Mt.ext T t q) en ys W)=>hs.roads hI hr hv)
 have HST:=hZq h
 have HI:=hZq hI
 have g0:w.cell? ⟨c.gs,0,none⟩=some (.pointer (some ⟨c.x.k.gt,0,none⟩)):=by obtain ⟨pv,lv,vs,D,hS⟩:=h;exact hS.bx.cell rfl
 have HG0:Hid (∀go ys W,St c go (Mt.ext T t q) en ys W->W.cell? ⟨c.gs,0,none⟩=some (.pointer (some ⟨c.x.k.gt,0,none⟩))):=hZq (fun go ys W hs=>by obtain ⟨pv,lv,vs,D,hS⟩:=hs;exact hS.bx.cell rfl)
 obtain ⟨H,hH⟩: ∃H,H=if (Mt.ext T t q).length=c.x.k.l.length then [Mt.ext T t q] else []:=⟨_,rfl⟩
 rw[<-hH]at HHE ⊢
 obtain ⟨T',hT'⟩: ∃T',T'=Mt.ext T t q:=⟨_,rfl⟩
 rw[<-hT']at HPU HBK HHE HAL HRO HG0 ⊢
 obtain ⟨N,hN⟩: ∃N,c.x.k.l.length=N:=⟨_,rfl⟩
 rw[hN]at HRO htl hl8
 have htN:(t:Int)<(N:Int):=by omega
 clear hI hY ht hne hT hen hfw hqe IH hTl hTe hr hv hro hPN h hH hT' hN hel
 go_enter Tryz.func43,Tryz.ntmps43
 go_wp2_with fail
 refine (uQ HPU).mono ?_
 rintro e w1 ⟨⟨v1,rfl⟩,hs1,hk1⟩
 have HK1:=hZq hk1
 have HHC:=hZq (uQ HHE w1 hs1)
 clear HPU hs1 hk1 HHE HST g0
 go_wp2_with fail
 refine (uQ HHC).mono ?_
 rintro e w2 ⟨go,ys,rfl,hs2,hk2,hp2⟩
 obtain ⟨b2,bt,bv, -⟩:=uQ HRO go (xs++ys) w2 hs2
 have HK2:=hZq ((uQ HK1).trans hk2)
 have HS2:=hZq hs2
 have HP2:=hZq hp2
 clear HHC HK1 hs2 hk2 hp2
 obtain ⟨va,vc,rfl⟩: ∃a cap,v= .slice a r.length cap:=by
  obtain ⟨a,cap,⟨e,_⟩|⟨e,e2⟩⟩:=bv
  ·exact ⟨a,cap,e⟩
  ·exact ⟨none,0,by rw[e,e2];rfl⟩
 clear bv
 obtain ⟨M,hM⟩: ∃M,r.length=M:=⟨_,rfl⟩
 have HM:=hZq hM
 rw[hM]at bt hrl
 clear hM
 have H0:Hid (St c go T' en (xs++ys) w2/\KT w w2/\PrT go ys (H++(r.take 0).flatMap fun a=>Mt.alo c.x.k.P en T' a.td)):=hZq ⟨uQ HS2,uQ HK2,by rw[List.take_zero,List.flatMap_nil,List.append_nil];exact uQ HP2⟩
 clear HS2 HK2 HP2
 go_wp2_with fail
 go_loopw [9,31] (fun mv jv wr=> ∃(j:Nat) (go:Bool) (ys:List Cp),j<=M/\jv= .int .i64 (j:Int)/\mv= .bool go/\Hid (St c go T' en (xs++ys) wr/\KT w wr/\PrT go ys (H++(r.take j).flatMap fun a=>Mt.alo c.x.k.P en T' a.td))) (fun _ jv _=>M-(intOf jv).toNat)
 case atStart=>exact ⟨0,go,ys,Nat.zero_le _,rfl,rfl,H0⟩
 case round=>
  obtain ⟨j,go,ys,hj,rfl,rfl,HR⟩:=hrel
  clear H0 b2 bt
  obtain ⟨hs,hk,hp⟩:=uQ HR
  have HS:=hZq hs
  have HK:=hZq hk
  have HP:=hZq hp
  clear HR hk hp
  by_cases hlt:j<M
  ·have hjr:j<r.length:=by rw[uQ HM];exact hlt
   have hji:(j:Int)<(M:Int):=by omega
   obtain ⟨g,cap,ev,y0,y1,y2,y3,y4⟩:=(uQ HRO go (xs++ys) wr hs).2.2.2 j hjr
   injection ev with ev1 _ ev3
   subst ev1 ev3
   have ka:=Kp.alloc wr (.cells r[j].l.toArray 141)
   have rb:=CBox.new wr r[j].l.toArray 141
   have hsa:=hs.al (uQ HI) ka
   have HAC:=hZq (fun (e:go=true)=>uQ HAL j hjr (xs++ys) (wr.alloc (.cells r[j].l.toArray 141)) (e ▸ hsa))
   have HTK:Hid ((r.take (j+1)).flatMap (fun a=>Mt.alo c.x.k.P en T' a.td)=(r.take j).flatMap (fun a=>Mt.alo c.x.k.P en T' a.td)++Mt.alo c.x.k.P en T' r[j].td):=hZq (by
    rw[List.take_add_one,List.getElem?_eq_getElem hjr,List.flatMap_append]
    simp)
   have HSA:=hZq hsa
   have HKA:=hZq ((uQ HK).trans (KT.own ka (by simp)))
   clear HRO HAL HBK HG0 hs hsa ka HS HK
   generalize r[j]=yy at *
   obtain ⟨fr,td,oh,oe,xa,xc,bs⟩:=yy
   unfold RdC.l RdC.v at *
   dsimp only at *
   generalize bs.length=bl at *
   have x0:=rb.cell (i:=0) (v:= .int .i64 (fr:Int)) rfl
   have x1:=rb.cell (i:=1) (v:= .int .i64 (td:Int)) rfl
   have x2:=rb.cell (i:=2) (v:= .bool oh) rfl
   have x3:=rb.cell (i:=3) (v:= .bool oe) rfl
   have x4:=rb.cell (i:=4) (v:= .slice xa bl xc) rfl
   clear rb
   cases go with
   |false=>
    have HN:Hid (St c false T' en (xs++ys) (wr.alloc (.cells #[.int .i64 (fr:Int), .int .i64 (td:Int), .bool oh, .bool oe, .slice xa bl xc] 141))/\KT w (wr.alloc (.cells #[.int .i64 (fr:Int), .int .i64 (td:Int), .bool oh, .bool oe, .slice xa bl xc] 141))/\PrT false ys (H++(r.take (j+1)).flatMap fun a=>Mt.alo c.x.k.P en T' a.td)):=hZq ⟨uQ HSA,uQ HKA,by rw[uQ HTK, <-List.append_assoc];exact (uQ HP).stop _⟩
    clear HSA HKA HTK HP HAC
    go_wp2
    go_roundw
    case rel=>exact ⟨j+1,false,ys,by omega,by go_num,rfl,HN⟩
    case measure=>simp[intOf];omega
   |true=>
    have HCC:=hZq (uQ HAC rfl)
    clear HAC HSA
    go_wp2_with fail
    refine (uQ HCC).mono ?_
    rintro e w4 ⟨go2,zs,rfl,hs4,hk4,hp4⟩
    have HN:Hid (St c go2 T' en (xs++(ys++zs)) w4/\KT w w4/\PrT go2 (ys++zs) (H++(r.take (j+1)).flatMap fun a=>Mt.alo c.x.k.P en T' a.td)):=hZq ⟨by rw[<-List.append_assoc];exact hs4,(uQ HKA).trans hk4,by rw[uQ HTK, <-List.append_assoc];exact (uQ HP).app hp4⟩
    clear HCC hs4 hk4 hp4 HKA HTK HP
    go_wp2
    go_roundw
    case rel=>exact ⟨j+1,go2,ys++zs,by omega,by go_num,rfl,HN⟩
    case measure=>simp[intOf];omega
  ·obtain rfl:j=M:=by omega
   have g0:=uQ HG0 go (xs++ys) wr hs
   have HBC:=hZq (uQ HBK go (xs++ys) wr hs)
   rw[<-uQ HM,List.take_length]at HP
   clear HRO HAL HBK HG0 hs HS
   go_wp2_with fail
   refine (uQ HBC).mono ?_
   rintro e w5 ⟨⟨v5,rfl⟩,hs5,hk5⟩
   have HF:Hid (EndS c T en xs w (H++r.flatMap fun a=>Mt.alo c.x.k.P en T' a.td) (.returned (.bool go)) w5):=hZq ⟨go,ys,rfl,hs5,(uQ HK).trans hk5,uQ HP⟩
   clear HBC hs5 hk5 HK HP
   go_wp2
   go_ret
   exact uQ HF
open Go.RowKit Go.Shelf
theorem q5U (c:SC)(hI:ScI c)(l:Nat)(hY:Ylds c l)(en:Nat)(hen:en<=c.x.k.es.length): ∀(m fs:Nat) (T:List (List Nat)) (t q:Nat),en-q<=m->(t=T.length\/t+1=T.length)->t<c.x.k.l.length->(∀l∈T,l≠[]/\l.length<=4096)->TOk fs (Mt.ext T t q)->en<=fs+c.x.W->q<en->q3i c l en T t q
 |0,fs,T,t,q,hm,_,_,_,_,_,hq=>by omega
 |m+1,fs,T,t,q,hm,ht,htl,hne,hT,hfw,hq=>by
  have hel:=hI.hX.hI.el
  have he:Mt.endT (Mt.ext T t q)=q:=Mt.endT_ext T t q
  refine q9m c hI l hY en fs T t q ht htl hne hT hen hfw hq (fun td q' h1 h2 h3 h4=>?_)
  refine q5U c hI l hY en hen m fs (Mt.ext T t q) td q' (by omega) h3 h4 (fun l hl=>?_) (hT.ext (by omega)) hfw h2
  have:=hT.ea l hl
  exact ⟨this.1,by omega⟩
theorem q8g (c:SC)(hI:ScI c)(l:Nat)(hY:Ylds c l)(en q:Nat)(hen:en<=c.x.k.es.length)(hfw:en<=q+c.x.W)(hq:q<en)(hN:0<c.x.k.l.length):q3i c l en [] 0 q:=
 q5U c hI l hY en hen (en-q) q [] 0 q (Nat.le_refl _) (Or.inl rfl) hN (by simp) (TOk.one q) hfw hq
theorem St.ask0 {c:SC}(hI:ScI c){go:Bool}{en:Nat}{xs:List Cp}{w:World}(h:St c go [] en xs w){q:Nat}(hN:0<c.x.k.l.length)(hq:q<c.x.k.es.length):
  Calls Tryz.prog 42 #[.pointer (some ⟨c.x.gx,0,none⟩), .int .i64 0, .int .i64 (q:Int)] w fun e w'=>e= .returned (.bool (c.x.k.P.H 0 [] q))/\St c go [] en xs w'/\KT w w':=by
 obtain ⟨pv,lv,vs,D,hS⟩:=h
 have ha:asT c.x.ss 0=[]:=by
  cases e:asT c.x.ss 0 with
  |nil=>rfl
  |cons a r=>
   have:=q5n hI.hX.hp 0 a (by rw[show c.x.k.p.ss=c.x.ss from rfl,e];simp)
   omega
 refine (q4o c.x hI.hX w [] pv lv vs hS.hk hS.nt (fun b hb hm=>(q18 hS.hk hm).ne (q1Y hI hS.hk.kp hS.nt hb) (by decide) rfl) 0 q hN (by simp) (by simp) hq (by rw[ha];simp) (by rw[ha];exact hI.w1)).mono ?_
 rintro e w' ⟨rfl,hn,hk⟩
 obtain ⟨h1,h2⟩:=hS.note hI hn hk
 exact ⟨rfl,⟨pv,lv,vs,D,h1⟩,h2⟩
theorem StE.fall {c:SC}{go:Bool}{T:List (List Nat)}{en en' tl:Nat}{xs:List Cp}{pv lv:Value}{vs:List Value}{D:List (Option Nat)}{w:World}(h:StE c go T en tl xs pv lv vs D w)(hI:ScI c)(hD:(∀q b:Nat,D[q]?≠some (some b))\/(en'<=en/\en<=c.x.k.es.length)):StE c go T en' tl xs pv lv vs D (w.setCell ⟨c.gs,4,none⟩ (.int .i64 (en':Int)))/\KT w (w.setCell ⟨c.gs,4,none⟩ (.int .i64 (en':Int))):=by
 obtain ⟨h1,h2,h3,h4,h5,h6⟩:=h.gsb hI 4 (.int .i64 (en':Int))
 refine ⟨⟨h.bx.set 4 _,h1,h2,?_,h4,h.dj,h5⟩,h6⟩
 rcases hD with hD|⟨hD,hl⟩
 ·exact ⟨h3.row,h3.len,fun q b hb=>absurd hb (hD q b),h3.nd⟩
 ·exact h3.less (fun q s hs r hr y hy a b=>(hs r hr y hy a b).less hD hl)
theorem StE.drop {c:SC}{go:Bool}{T:List (List Nat)}{en tl:Nat}{xs:List Cp}{pv lv:Value}{vs:List Value}{D:List (Option Nat)}{w:World}(h:StE c go T en tl xs pv lv vs D w)(hI:ScI c)(q:Nat):StE c go T en tl xs pv lv vs (D.set q none) (w.setCell ⟨c.gd,q,none⟩ (.map none))/\KT w (w.setCell ⟨c.gd,q,none⟩ (.map none)):=by
 have hd:=h.dd.set (q:=q) none (fun b hb=>by cases hb)
 exact h.bury hI hd ((Kp.set w c.gd q (.map none)).mono (fun b hb=>by rw[List.mem_singleton]at hb;rw[hb];unfold ddF;simp))
end Go.Proofs.YtcmjnlpofebbmaaGreatDoor
