/-
  Walks.
-/
import Derived.Test.YtfgkikeeadlcfaaGreatDoorMs08
import Derived.Lib.Small
import Derived.Lib.Bytealg
set_option maxRecDepth 100000
set_option maxHeartbeats 8000000
set_option linter.unusedSimpArgs false
namespace Go.Proofs.YtfgkikeeadlcfaaGreatDoor
open Go.RowKit Go.Shelf
attribute [local go_sem] Oper.semAt_some
theorem qdc (n:Nat)(c:SC)(hI:ScI c)(l:Nat)(hY:Ylds c l)(T:List (List Nat))(en:Nat)(xs:List Cp)(w:World)(h:St c true T en xs w)(t:Nat)(hT:T.length=t+1)(hle:T.length<=c.x.k.l.length)(hne: ∀l∈T,l≠[]/\l.length<=4096):
  CallsIn Fence.wide n Tryz.prog 88 #[.pointer (some ⟨c.gs,0,none⟩), .int .i64 (t:Int), .func (.yield l) #[] #[]] w (EndS c T en xs w (if T.length=c.x.k.l.length then [T] else [])):=by
 obtain ⟨A,hA⟩: ∃A,A=if T.length=c.x.k.l.length then [T] else []:=⟨_,rfl⟩
 rw[<-hA]
 have HA:=hZq hA
 clear hA
 obtain ⟨pv,lv,vs,D,hS⟩:=h
 have hl8:=hI.hX.hI.l8
 have hjl:=hI.jl _ _ _ hS.jj
 have b0:=hS.bx.cell (i:=0) (v:= .pointer (some ⟨c.x.k.gt,0,none⟩)) rfl
 have b5:=hS.bx.cell (i:=5) (v:= .int .i64 (xs.length:Int)) rfl
 have f5:=hS.bx.froz 5
 have hgg:c.gs≠c.x.k.gt:=q0p hS.bx hS.hk.box (by decide)
 have t0:=hS.hk.box.cell (i:=0) (v:= .slice c.x.k.sa c.x.k.l.length c.x.k.sc) rfl
 have HS:=hZq hS
 have HI:=hZq hI
 have HY:=hZq hY
 have HNE:=hZq hne
 clear hI hS hY hne
 refine callsIn_of_wp Tryz.func88 rfl trivial ?_ rfl
 simp only[Tryz.ntmps88,List.size_toArray,List.length_cons,List.length_nil,Nat.reduceAdd,Nat.reduceSub,Array.replicate_succ,Array.replicate_zero,List.push_toArray,List.append_toArray,List.nil_append,List.cons_append]
 obtain ⟨N,hN⟩: ∃N,c.x.k.l.length=N:=⟨_,rfl⟩
 rw[hN]at hle hl8 t0
 have HN:=hZq hN
 clear hN
 by_cases hlt:t+1<N
 ·have hi:(t:Int)+1<(N:Int):=by omega
  gi_wp2
  go_ret
  refine ⟨true,[],rfl,⟨pv,lv,vs,D,by rw[List.append_nil];exact uQ HS⟩,KT.refl _,?_⟩
  rw[uQ HA,if_neg (show ¬ T.length=c.x.k.l.length by rw[uQ HN];omega)]
  exact PrT.nil
 ·have hi: ¬ (t:Int)+1<(N:Int):=by omega
  obtain ⟨hS1,hk1⟩:=(uQ HS).tick (uQ HI)
  have t4:=hS1.hk.box.cell (i:=4) (v:=pv) rfl
  have b1:=hS1.bx.cell (i:=0) (v:= .pointer (some ⟨c.x.k.gt,0,none⟩)) rfl
  have hwn:IntKind.i64.wrap ((xs.length:Int)+1)=(xs.length:Int)+1:=by simp only[IntKind.wrap_i64];omega
  have CP:=hZq ((callsIn_wide (n:=n-1)).2 (q8k _ T pv vs hS1.hk.pl (by omega) (fun l hl=>(uQ HNE l hl).1) (fun l hl=>by have:=(uQ HNE l hl).2;omega)))
  have HS1:=hZq hS1
  have HK1:=hZq hk1
  clear hS1 hk1 HS
  gi_wp2_with fail
  refine ⟨trivial,(fun h=>by cases h),(uQ CP).mono ?_⟩
  rintro e w2 ⟨x,rfl,hx2,hxT,hk2,hxB⟩
  clear CP t4 b1 b0 b5 f5 t0
  have hS2:=(uQ HS1).al (uQ HI) hk2
  have hdj: ∀b∈x.B,b∉plB pv vs:=fun b hb hm=>by
   have h1:=hxB b hb
   have h2:=(uQ HS1).hk.pl.lt b hm
   omega
  obtain ⟨fn,tmps,assign,body,hy,hR⟩:=uQ HY (n-1) xs w2 x hS2.jj hx2 (by rw[hxT];omega) (by rw[hxT];exact uQ HNE)
  have HR:=hZq hR
  have HF:Hid (∀F go w3,Kp F w2 w3->(∀b∈F,Yw w2 b/\(b∈c.x.k.F0\/c.x.k.w0.heap.size<=b))->c.J go (xs++[x]) w3->EndS c T en xs w A (.returned (.bool go)) w3):=hZq (fun F go w3 h1 h2 h3=>by
   obtain ⟨h4,h5⟩:=hS2.yld (uQ HI) hx2 hdj h1 h2 h3
   refine ⟨go,[x],rfl,⟨pv,lv,vs,D,by rw[zF];exact h4⟩,((uQ HK1).trans (KT.own hk2 (by simp))).trans h5,?_⟩
   rw[uQ HA,if_pos (show T.length=c.x.k.l.length by rw[uQ HN];omega)]
   cases go with
   |true=>exact Or.inl ⟨rfl,by rw[List.map_cons,hxT];rfl⟩
   |false=>exact Or.inr ⟨rfl,[],by rw[List.map_cons,hxT];rfl⟩)
  unfold Cp.v at hy ⊢
  clear hR hx2 hxT hk2 hxB hS2 hdj HS1 HK1
  gi_wp2
  refine ⟨(fun h=>by cases h),?_⟩
  refine (uQ HR).mono ?_
  rintro e w3 ⟨F,go,rfl,h1,h2,h3⟩
  have HE:=hZq (uQ HF F go w3 h1 h2 h3)
  clear HR HF h1 h2 h3 hy
  gi_wp2
  go_ret
  exact uQ HE
theorem qbm (c:SC)(hI:ScI c)(l:Nat)(hY:Ylds c l)(T:List (List Nat))(en:Nat)(xs:List Cp)(w:World)(h:St c true T en xs w)(t:Nat)(hT:T.length=t+1)(hle:T.length<=c.x.k.l.length)(hne: ∀l∈T,l≠[]/\l.length<=4096):
  Calls Tryz.prog 88 #[.pointer (some ⟨c.gs,0,none⟩), .int .i64 (t:Int), .func (.yield l) #[] #[]] w (EndS c T en xs w (if T.length=c.x.k.l.length then [T] else [])):=callsIn_wide.1 (qdc 0 c hI l hY T en xs w h t hT hle hne)
end Go.Proofs.YtfgkikeeadlcfaaGreatDoor
namespace Go.Proofs.YtfgkikeeadlcfaaGreatDoor
open Go.RowKit Go.Shelf
structure TOk (fs:Nat)(T:List (List Nat)):Prop where
 ne:T≠[]
 ea: ∀l∈T,l≠[]/\l.length<=Mt.endT T+1/\ ∀y∈l,fs<=y/\y<=Mt.endT T
theorem TOk.one (q:Nat):TOk q [[q]]:=⟨by simp,fun l hl=>by
 rw[zD]at hl
 subst hl
 refine ⟨by simp,by simp,fun y hy=>?_⟩
 rw[zD]at hy
 subst hy
 exact ⟨zM _,zM _⟩⟩
theorem TOk.lst {fs:Nat}{T:List (List Nat)}(h:TOk fs T){l:List Nat}(hl:l∈T):fs<=Mt.lst l/\Mt.lst l<=Mt.endT T:=(h.ea l hl).2.2 _ (Mt.lst_mem (h.ea l hl).1)
theorem TOk.fin {fs:Nat}{T:List (List Nat)}(h:TOk fs T):fs<=Mt.endT T:=by
 obtain ⟨l,hl⟩:=List.exists_mem_of_ne_nil T h.ne
 have:=h.lst hl
 omega
theorem TOk.ext {fs:Nat}{T:List (List Nat)}(h:TOk fs T){t q:Nat}(hq:Mt.endT T<q):TOk fs (Mt.ext T t q):=by
 have hf:=h.fin
 have ho: ∀l∈T,l≠[]/\l.length<=q+1/\ ∀y∈l,fs<=y/\y<=q:=fun l hl=>by
  obtain ⟨h1,h2,h3⟩:=h.ea l hl
  exact ⟨h1,by omega,fun y hy=>by have:=h3 y hy;omega⟩
 refine ⟨Mt.ext_ne T t q,fun l hl=>?_⟩
 rw[Mt.endT_ext]
 unfold Mt.ext at hl
 split at hl
 ·rw[zG,zD]at hl
  rcases hl with hl|rfl
  ·exact ho l hl
  ·refine ⟨by simp,by simp,fun y hy=>?_⟩
   rw[zD]at hy
   omega
 ·rw[zG,zD]at hl
  rcases hl with hl|rfl
  ·exact ho l (List.dropLast_subset T hl)
  ·have hm:T.getLastD []∈T:=by
    rw[List.getLastD_eq_getLast?,List.getLast?_eq_some_getLast h.ne]
    exact List.getLast_mem h.ne
   obtain ⟨h1,h2,h3⟩:=h.ea _ hm
   refine ⟨by simp,by rw[zF];show _+1<=_;omega,fun y hy=>?_⟩
   rw[zG,zD]at hy
   rcases hy with hy|rfl
   ·have:=h3 y hy;omega
   ·omega
def q3m (c:SC)(l en:Nat)(T:List (List Nat))(t q:Nat):Prop:= ∀(xs:List Cp) (w:World),St c true T en xs w->Calls Tryz.prog 59 #[.pointer (some ⟨c.gs,0,none⟩), .int .i64 (t:Int), .int .i64 (q:Int), .func (.yield l) #[] #[]] w (EndS c T en xs w (Mt.all c.x.k.P en (Mt.ext T t q)))
structure RoadOf (c:SC)(T:List (List Nat))(y:RdC):Prop where
 g:RdG c.x.ss y
 fr:y.fr+1=T.length
 td:(y.td=y.fr/\mnAt c.x.ss y.fr=true)\/y.td=y.fr+1
 lt:y.td<c.x.k.l.length
theorem St.ask {c:SC}(hI:ScI c){go:Bool}{T:List (List Nat)}{en fs:Nat}{xs:List Cp}{w:World}(h:St c go T en xs w)(hT:TOk fs T)(hen:en<=c.x.k.es.length)(hfw:en<=fs+c.x.W){t q:Nat}(ht:t<c.x.k.l.length)(htT:t<=T.length)(hq:Mt.endT T<q)(hqe:q<en):
  Calls Tryz.prog 58 #[.pointer (some ⟨c.x.gx,0,none⟩), .int .i64 (t:Int), .int .i64 (q:Int)] w fun e w'=>e= .returned (.bool (c.x.k.P.H t (Mt.las T t) q))/\St c go T en xs w'/\KT w w':=by
 obtain ⟨pv,lv,vs,D,hS⟩:=h
 have hel:=hI.hX.hI.el
 have hw1:=hI.w1
 have hgd: ∀i∈(asT c.x.ss t).head?,fs<=(Mt.las T t).getD i 0/\(Mt.las T t).getD i 0<=Mt.endT T:=fun i hi=>by
  have hit:i<t:=q5q hI.hX.hp t i (List.mem_of_mem_head? hi)
  have hiT:i<T.length:=by omega
  rw[q62 hit,List.getD_eq_getElem?_getD,zE hiT]
  exact hT.lst (zJ hiT)
 refine (q4v c.x hI.hX w T pv lv vs hS.hk hS.nt (fun b hb hm=>(q18 hS.hk hm).ne (q20 hI hS.hk.kp hS.nt hb) (by decide) rfl) t q ht htT (fun l hl=>⟨(hT.ea l hl).1,by have:=(hT.ea l hl).2.1;omega⟩) (by omega) (fun i hi=>by have:=hgd i hi;omega) ?_).mono ?_
 ·unfold Mt.apN
  cases ha:asT c.x.ss t with
  |nil=>exact hw1
  |cons i r=>
   have:=hgd i (by rw[ha];rfl)
   dsimp only
   omega
 ·rintro e w' ⟨rfl,hn,hk⟩
  obtain ⟨h1,h2⟩:=hS.note hI hn hk
  exact ⟨rfl,⟨pv,lv,vs,D,h1⟩,h2⟩
theorem St.gs1 {c:SC}{go:Bool}{T:List (List Nat)}{en:Nat}{xs:List Cp}{w:World}(h:St c go T en xs w):w.cell? ⟨c.gs,1,none⟩=some (.pointer (some ⟨c.x.gx,0,none⟩)):=let ⟨_,_,_,_,hS⟩:=h;hS.bx.cell rfl
theorem St.gs4 {c:SC}{go:Bool}{T:List (List Nat)}{en:Nat}{xs:List Cp}{w:World}(h:St c go T en xs w):w.cell? ⟨c.gs,4,none⟩=some (.int .i64 (en:Int)):=let ⟨_,_,_,_,hS⟩:=h;hS.bx.cell rfl
theorem St.gs5 {c:SC}{go:Bool}{T:List (List Nat)}{en:Nat}{xs:List Cp}{w:World}(h:St c go T en xs w):w.cell? ⟨c.gs,5,none⟩=some (.int .i64 (xs.length:Int)):=let ⟨_,_,_,_,hS⟩:=h;hS.bx.cell rfl
theorem St.al {c:SC}(hI:ScI c){go:Bool}{T:List (List Nat)}{en:Nat}{xs:List Cp}{w w':World}(h:St c go T en xs w)(hk:Kp [] w w'):St c go T en xs w':=let ⟨pv,lv,vs,D,hS⟩:=h;⟨pv,lv,vs,D,hS.al hI hk⟩
structure RBx (b:Nat)(fr td:Nat)(oh oe:Bool)(v:Value)(w:World):Prop where
 bx:CBox b #[.int .i64 (fr:Int), .int .i64 (td:Int), .bool oh, .bool oe,v] 148 w
theorem RBx.kt {b fr td:Nat}{oh oe:Bool}{v:Value}{w w':World}(h:RBx b fr td oh oe v w)(hk:KT w w'):w'.cell? ⟨b,0,none⟩=some (.int .i64 (fr:Int))/\w'.cell? ⟨b,1,none⟩=some (.int .i64 (td:Int))/\w'.cell? ⟨b,2,none⟩=some (.bool oh)/\w'.cell? ⟨b,3,none⟩=some (.bool oe)/\w'.cell? ⟨b,4,none⟩=some v:=by
 have:=hk.bl _ _ _ h.bx (by simp)
 exact ⟨this.cell rfl,this.cell rfl,this.cell rfl,this.cell rfl,this.cell rfl⟩
theorem RBx.go {b fr td:Nat}{oh oe:Bool}{v:Value}{w w':World}(h:RBx b fr td oh oe v w)(hk:KT w w'):RBx b fr td oh oe v w':=⟨hk.bl _ _ _ h.bx (by simp)⟩
theorem qcg (c:SC)(hI:ScI c)(l en fs:Nat)(T:List (List Nat))(hT:TOk fs T)(hen:en<=c.x.k.es.length)(hfw:en<=fs+c.x.W)(y:RdC)(hy:RoadOf c T y)(IH: ∀q,Mt.endT T<q->q<en->q3m c l en T y.td q)(xs:List Cp)(w:World)(h:St c true T en xs w)(he:Mt.endT T<=4096):
  Calls Tryz.prog 115 #[.pointer (some ⟨c.gs,0,none⟩), .agg y.l.toArray, .int .i64 (Mt.endT T:Int), .func (.yield l) #[] #[]] w (EndS c T en xs w (Mt.alo c.x.k.P en T y.td)):=by
 obtain ⟨A,hA⟩: ∃A,A=Mt.alo c.x.k.P en T y.td:=⟨_,rfl⟩
 rw[<-hA]
 have hel:=hI.hX.hI.el
 have hAS:=Mt.asks_pm c.x.k.p c.x.k.es
 have hyT:y.td<=T.length:=by have:=hy.fr;rcases hy.td with h|h <;> omega
 have HLO:Hid (∀q,y.td=y.fr->Mt.endT T<q->Mt.btw c.x.k.P T y.td (Mt.endT T) q=true->q<en->c.x.k.P.H y.td (Mt.las T y.td) q=true->Mt.all c.x.k.P en (Mt.ext T y.td q)=[]->Mt.wal c.x.k.P en T y.td (q+1)=[]):=hZq (fun q e h1 h2 h3 h4 h5=>Mt.wal_loop hAS (by exact hen) (by rw[e];exact hy.fr) (by
  rcases hy.td with h|h
  ·rw[e];exact h.2
  ·omega) h1 h2 h3 h4 h5)
 have HST:Hid (∀q,Mt.endT T<q->Mt.btw c.x.k.P T y.td (Mt.endT T) q=true->q<en->Mt.wal c.x.k.P en T y.td q=(if c.x.k.P.H y.td (Mt.las T y.td) q=true then Mt.all c.x.k.P en (Mt.ext T y.td q) else [])++(if stay (hwAt c.x.ss y.td) (c.x.k.P.H y.td (Mt.las T y.td) q)=true then Mt.wal c.x.k.P en T y.td (q+1) else [])):=hZq (fun q h1 h2 h3=>Mt.wal_step h1 h2 h3)
 have HBN:Hid (∀q,Mt.endT T<q->Mt.btw c.x.k.P T y.td (Mt.endT T) q=true->stay (hwAt c.x.ss y.td) (c.x.k.P.H y.td (Mt.las T y.td) q)=true->Mt.btw c.x.k.P T y.td (Mt.endT T) (q+1)=true):=hZq (fun q h1 h2 h3=>by
  rw[Mt.btw_next h1 h2]
  exact h3)
 have HAK:=hZq (fun (go:Bool) (ys:List Cp) (W:World) (hs:St c go T en ys W) (q:Nat) (h1:Mt.endT T<q) (h2:q<en)=>hs.ask hI hT hen hfw hy.lt hyT h1 h2)
 have HIN:=hZq IH
 have HA:=hZq hA
 have HA0:Hid (A=Mt.wal c.x.k.P en T y.td (Mt.endT T+1)):=hZq hA
 have hb0:Mt.btw c.x.k.P T y.td (Mt.endT T) (Mt.endT T+1)=true:=Mt.btw_first _ _ _ _
 have HWE:Hid (∀q,en<=q->Mt.wal c.x.k.P en T y.td q=[]):=hZq (fun q h1=>Mt.wal_end h1)
 have hoh:=hy.g.oh
 have hoe:=hy.g.oe
 have kw:=Kp.alloc w (.cells y.l.toArray 148)
 have hs1:=h.al hI kw
 have rb1:=CBox.new w y.l.toArray 148
 obtain ⟨fr,td,oh,oe,xa,xc,bs⟩:=y
 unfold RdC.l RdC.v at *
 dsimp only at *
 generalize Value.slice xa bs.length xc=ov at *
 have HRB:Hid (RBx w.heap.size fr td oh oe ov (w.alloc (.cells #[.int .i64 (fr:Int), .int .i64 (td:Int), .bool oh, .bool oe,ov] 148))):=hZq ⟨rb1⟩
 have HS1:=hZq hs1
 have HI:=hZq hI
 have HKW:=hZq (KT.own kw (by simp))
 obtain ⟨W1,hW1⟩: ∃W1,W1=w.alloc (.cells #[.int .i64 (fr:Int), .int .i64 (td:Int), .bool oh, .bool oe,ov] 148):=⟨_,rfl⟩
 rw[<-hW1]at HRB HS1 HKW
 have HOH:Hid (oh=stay (hwAt c.x.ss td) true/\oe=stay (hwAt c.x.ss td) false):=hZq ⟨hoh,hoe⟩
 clear hI h hT hy IH hA hs1 rb1 kw hAS hoh hoe
 generalize Mt.endT T=la at *
 have hlw:IntKind.i64.wrap ((la:Int)+1)=(la:Int)+1:=by simp only[IntKind.wrap_i64];omega
 have hen4:en<=4096:=by omega
 go_enter Tryz.func115,Tryz.ntmps115
 go_upto_region 1 with fail
 rw[<-hW1]
 clear hW1
 go_wp2_with fail
 go_loopw [9] (fun pl wr=> ∃(q:Nat) (ys:List Cp),la<q/\q<=4200/\pl= .int .i64 (q:Int)/\Hid (Mt.btw c.x.k.P T td la q=true/\A=ys.map (·.T)++Mt.wal c.x.k.P en T td q/\St c true T en (xs++ys) wr/\KT W1 wr)) (fun pl _=>4200-(intOf pl).toNat)
 case atStart=>exact ⟨la+1,[],by omega,by omega,by go_num,hZq ⟨hb0,uQ HA0,by rw[List.append_nil];exact uQ HS1,KT.refl _⟩⟩
 case round=>
  obtain ⟨q,ys,hq1,hq2,rfl,HR⟩:=hrel
  obtain ⟨hbt,hAq,hst,hkr⟩:=uQ HR
  have g4:=hst.gs4
  have g1:=hst.gs1
  obtain ⟨r0,r1,r2,r3, -⟩:=(uQ HRB).kt hkr
  have HKR:=hZq hkr
  have HSR:=hZq hst
  have HAQ:=hZq hAq
  have HBT:=hZq hbt
  clear HR HS1 HA0 hb0 hst hkr hAq hbt
  by_cases hqe:q<en
  ·have hqi:(q:Int)<(en:Int):=by omega
   obtain ⟨V,hV⟩: ∃V,V=wr.drew:=⟨_,rfl⟩
   have kV:Kp [] wr V:=by rw[hV];exact Kp.drew _
   have hsV:=(uQ HSR).al (uQ HI) kV
   have XH:=hZq (uQ HAK true (xs++ys) V hsV q hq1 hqe)
   have S0:V.cell? ⟨c.gs,1,none⟩=some (.pointer (some ⟨c.x.gx,0,none⟩))/\V.cell? ⟨w.heap.size,1,none⟩=some (.int .i64 (td:Int)):=⟨hsV.gs1,kV.cell r1 (by simp)⟩
   have HRV:=hZq ((uQ HRB).go ((uQ HKR).trans (KT.own kV (by simp))))
   clear hsV
   go_upto_region 5 with fail
   refine wp_region_held_drew (S:=fun W=>W.cell? ⟨c.gs,1,none⟩=some (.pointer (some ⟨c.x.gx,0,none⟩))/\W.cell? ⟨w.heap.size,1,none⟩=some (.int .i64 (td:Int))) (by kernel_rfl) (by rw[<-hV];exact S0) (fun hHeld=>?_)
   rw[<-hV]at hHeld ⊢
   clear hV S0
   show wpAnyH _ _ _ _ _ 8 (Array.replicate 8 false) _ _
   refine zzH (i:=0) (v:=?_) rfl (Or.inl ⟨by rfl,?_⟩) (by assumption) ?_
   rotate_left
   ·intro w0 s9;(try dsimp only at s9);go_simp;(try with_reducible rfl)
   try simp only[Act.put,zz1,zz2,zz3]
   refine zzH (i:=1) (v:=?_) rfl (Or.inl ⟨by rfl,?_⟩) (by assumption) ?_
   rotate_left
   ·intro w0 s9;(try dsimp only at s9);go_simp;(try with_reducible rfl)
   try simp only[Act.put,zz1,zz2,zz3]
   refine zzH (i:=2) (v:=?_) rfl (Or.inl ⟨by rfl,?_⟩) (by assumption) ?_
   rotate_left
   ·intro w0 s9;(try dsimp only at s9);go_simp;(try with_reducible rfl)
   try simp only[Act.put,zz1,zz2,zz3]
   refine zzH (i:=3) (v:=?_) rfl (Or.inl ⟨by rfl,?_⟩) (by assumption) ?_
   rotate_left
   ·intro w0 s9;(try dsimp only at s9);go_simp;(try with_reducible rfl)
   try simp only[Act.put,zz1,zz2,zz3]
   refine zzH (i:=4) (v:=?_) rfl (Or.inl ⟨by rfl,?_⟩) (by assumption) ?_
   rotate_left
   ·intro w0 s9;(try dsimp only at s9);go_simp;(try with_reducible rfl)
   try simp only[Act.put,zz1,zz2,zz3]
   refine zzH (i:=5) (v:=?_) rfl (Or.inl ⟨by rfl,?_⟩) (by assumption) ?_
   rotate_left
   ·intro w0 s9;(try dsimp only at s9);go_simp;(try with_reducible rfl)
   try simp only[Act.put,zz1,zz2,zz3]
   refine zzH (i:=6) (v:=?_) rfl (Or.inl ⟨by rfl,?_⟩) (by assumption) ?_
   rotate_left
   ·intro w0 s9;(try dsimp only at s9);go_simp;(try with_reducible rfl)
   try simp only[Act.put,zz1,zz2,zz3]
   refine wpAnyH_ready (rs:=[7]) (by kernel_rfl) (by simp) ?_
   refine AllReadyH.cons rfl (fun K hK=>?_) AllReadyH.nil
   go_simp
   refine (uQ XH).mono ?_
   rintro e w2 ⟨rfl,hs2,hk2⟩
   have HS2:w2.cell? ⟨c.gs,1,none⟩=some (.pointer (some ⟨c.x.gx,0,none⟩))/\w2.cell? ⟨w.heap.size,1,none⟩=some (.int .i64 (td:Int)):=⟨St.gs1 hs2,((uQ HRV).kt hk2).2.1⟩
   have HST2:=hZq hs2
   have HKT2:=hZq ((uQ HKR).trans ((KT.own kV (by simp)).trans hk2))
   clear XH hs2 hk2
   refine hK.out _ _ ?_ (fun hHeld=>?_)
   ·exact HS2
   clear hK K
   try simp only[Act.put,zz1,zz2,zz3]
   refine wpAnyH_done (by kernel_rfl) ?_ _
   have HAS:=hZq (uQ HST q hq1 (uQ HBT) hqe)
   have HBX:=hZq (uQ HBN q hq1 (uQ HBT))
   obtain ⟨r0,r1,r2,r3, -⟩:=(uQ HRB).kt (uQ HKT2)
   have g5:=(uQ HST2).gs5
   obtain ⟨n1,hn1⟩: ∃n,n=(xs++ys).length:=⟨_,rfl⟩
   rw[<-hn1]at g5
   have HN1:=hZq hn1
   clear hn1
   obtain ⟨ho1,ho2⟩:=uQ HOH
   clear HRV HKR HSR HAK HST HBN HS2 g4 g1 hHeld kV
   cases hH:c.x.k.P.H td (Mt.las T td) q with
   |false=>
    rw[hH, <-ho2]at HAS HBX
    have HCT:Hid (oe=true->Mt.btw c.x.k.P T td la (q+1)=true):=HBX
    have HAN:Hid (A=ys.map (·.T)++(if oe=true then Mt.wal c.x.k.P en T td (q+1) else [])):=hZq (by rw[uQ HAQ,uQ HAS,if_neg (by simp)];rfl)
    have HSN:=HST2
    have HKN:=HKT2
    clear HAS HBX HST2 HKT2 HLO HIN HWE HAQ HBT HI ho1 ho2
    cases oe with
    |true=>
     have HN:Hid (Mt.btw c.x.k.P T td la (q+1)=true/\A=(ys).map (·.T)++Mt.wal c.x.k.P en T td (q+1)/\St c true T en (xs++(ys)) w2/\KT W1 w2):=hZq ⟨uQ HCT rfl,uQ HAN,uQ HSN,uQ HKN⟩
     clear HCT HAN HSN HKN
     go_wp2
     go_roundw
     case rel=>exact ⟨q+1,ys,by omega,by omega,by go_num,HN⟩
     case measure=>simp[intOf];omega
    |false=>
     have HF:Hid (EndS c T en xs w A (.returned (.bool true)) w2):=hZq ⟨true,ys,rfl,uQ HSN,(uQ HKW).trans (uQ HKN),Or.inl ⟨rfl,((uQ HAN).trans (List.append_nil _)).symm⟩⟩
     clear HCT HAN HSN HKN
     go_wp2
     go_ret
     exact uQ HF
   |true=>
    rw[hH, <-ho1]at HAS HBX
    have HCT:Hid (oh=true->Mt.btw c.x.k.P T td la (q+1)=true):=HBX
    have HIC:=hZq (uQ HIN q hq1 hqe (xs++ys) w2 (uQ HST2))
    have HLP:=hZq (fun e h5=>uQ HLO q e hq1 (uQ HBT) hqe hH h5)
    obtain ⟨M,hM⟩: ∃M,M=Mt.all c.x.k.P en (Mt.ext T td q):=⟨_,rfl⟩
    rw[<-hM]at HIC HAS HLP
    have HAM:Hid (A=ys.map (·.T)++(M++(if oh=true then Mt.wal c.x.k.P en T td (q+1) else []))):=hZq (by rw[uQ HAQ,uQ HAS,if_pos rfl])
    clear HAS HBX HST2 HLO HIN HWE HAQ HBT HI hM ho1 ho2
    go_wp2_with fail
    refine (uQ HIC).mono ?_
    rintro e w3 ⟨go,zs,rfl,hst3,hk3,hpre⟩
    have HKN:=hZq ((uQ HKT2).trans hk3)
    obtain ⟨r0,r1,r2,r3, -⟩:=(uQ HRB).kt (uQ HKN)
    have HSN:Hid (St c go T en (xs++(ys++zs)) w3):=hZq (by rw[<-List.append_assoc];exact hst3)
    have h5:=hst3.gs5
    have HPR:=hZq hpre
    clear HIC hst3 hk3 hpre HKT2
    obtain ⟨n2,hn2⟩: ∃n,n=(xs++ys++zs).length:=⟨_,rfl⟩
    have HNN:Hid (n2=n1↔zs=[]):=hZq (by
     have e:(xs++ys++zs).length=(xs++ys).length+zs.length:=zF
     rw[uQ HN1,hn2,e]
     constructor
     ·intro e;exact List.length_eq_zero_iff.1 (by omega)
     ·rintro rfl;rfl)
    rw[<-hn2]at h5
    clear hn2 g5
    cases go with
    |false=>
     have HF:Hid (EndS c T en xs w A (.returned (.bool false)) w3):=hZq ⟨false,ys++zs,rfl,uQ HSN,(uQ HKW).trans (uQ HKN),by
      rw[uQ HAM, <-List.append_assoc]
      exact PrT.stop (PrT.app (Or.inl ⟨rfl,rfl⟩) (uQ HPR)) _⟩
     clear HSN HKN HPR HAM HLP HCT
     go_wp2
     go_ret
     exact uQ HF
    |true=>
     have hMz:zs.map (·.T)=M:=by
      rcases uQ HPR with ⟨_,e⟩|⟨e,_⟩
      ·exact e
      ·cases e
     have HAN:Hid (A=(ys++zs).map (·.T)++(if oh=true then Mt.wal c.x.k.P en T td (q+1) else [])):=hZq (by rw[uQ HAM,List.map_append,hMz,List.append_assoc])
     have HMZ:=hZq hMz
     clear HAM HPR hMz
     by_cases hft:td=fr
     ·subst hft
      by_cases hz:zs=[]
      ·have hnn:(n2:Int)=(n1:Int):=by rw[(uQ HNN).2 hz]
       have HF:Hid (EndS c T en xs w A (.returned (.bool true)) w3):=hZq ⟨true,ys++zs,rfl,uQ HSN,(uQ HKW).trans (uQ HKN),Or.inl ⟨rfl,by
        rw[uQ HAN,uQ HLP rfl (by rw[<-uQ HMZ,hz];rfl)]
        simp⟩⟩
       clear HSN HKN HAN HLP HCT HMZ HNN
       go_wp2
       go_ret
       exact uQ HF
      ·have hnn: ¬ (n2:Int)=(n1:Int):=fun e=>hz ((uQ HNN).1 (by omega))
       clear HLP HMZ HNN
       cases oh with
       |true=>
        have HN:Hid (Mt.btw c.x.k.P T td la (q+1)=true/\A=(ys++zs).map (·.T)++Mt.wal c.x.k.P en T td (q+1)/\St c true T en (xs++(ys++zs)) w3/\KT W1 w3):=hZq ⟨uQ HCT rfl,uQ HAN,uQ HSN,uQ HKN⟩
        clear HCT HAN HSN HKN
        go_wp2
        go_roundw
        case rel=>exact ⟨q+1,ys++zs,by omega,by omega,by go_num,HN⟩
        case measure=>simp[intOf];omega
       |false=>
        have HF:Hid (EndS c T en xs w A (.returned (.bool true)) w3):=hZq ⟨true,ys++zs,rfl,uQ HSN,(uQ HKW).trans (uQ HKN),Or.inl ⟨rfl,((uQ HAN).trans (List.append_nil _)).symm⟩⟩
        clear HCT HAN HSN HKN
        go_wp2
        go_ret
        exact uQ HF
     ·have hfi: ¬ (fr:Int)=(td:Int):=by omega
      clear HLP HMZ HNN
      cases oh with
      |true=>
       have HN:Hid (Mt.btw c.x.k.P T td la (q+1)=true/\A=(ys++zs).map (·.T)++Mt.wal c.x.k.P en T td (q+1)/\St c true T en (xs++(ys++zs)) w3/\KT W1 w3):=hZq ⟨uQ HCT rfl,uQ HAN,uQ HSN,uQ HKN⟩
       clear HCT HAN HSN HKN
       go_wp2
       go_roundw
       case rel=>exact ⟨q+1,ys++zs,by omega,by omega,by go_num,HN⟩
       case measure=>simp[intOf];omega
      |false=>
       have HF:Hid (EndS c T en xs w A (.returned (.bool true)) w3):=hZq ⟨true,ys++zs,rfl,uQ HSN,(uQ HKW).trans (uQ HKN),Or.inl ⟨rfl,((uQ HAN).trans (List.append_nil _)).symm⟩⟩
       clear HCT HAN HSN HKN
       go_wp2
       go_ret
       exact uQ HF
  ·have hqi: ¬ (q:Int)<(en:Int):=by omega
   have HF:Hid (EndS c T en xs w A (.returned (.bool true)) wr):=hZq ⟨true,ys,rfl,uQ HSR,(uQ HKW).trans (uQ HKR),Or.inl ⟨rfl,by rw[uQ HAQ,uQ HWE q (by omega),List.append_nil]⟩⟩
   clear HKR HSR HAQ HBT HLO HST HBN HAK HIN HWE HRB HI HKW HOH
   go_wp2
   go_ret
   exact uQ HF
theorem St.look {c:SC}{go:Bool}{T:List (List Nat)}{en:Nat}{xs:List Cp}{w:World}(h:St c go T en xs w){q:Nat}(hq:q<c.x.k.es.length)(s:Spt):
  ∃o fd,w.cell? ⟨c.gd,q,none⟩=some (.map o)/\(∀W,Kp [] w W->W.cell? ⟨c.gd,q,none⟩=some (.map o)/\(Instr.lookup 114 (.map o) (.agg s.c) true).run Tryz.prog W= .ok (.tuple #[.agg #[], .bool fd]) W)/\(fd=true-> ∃s',s.q s'=true/\DdG c en q s'):=by
 obtain ⟨pv,lv,vs,D,hS⟩:=h
 obtain ⟨o,ho⟩: ∃o,D[q]?=some o:=⟨_,zE (by rw[hS.dd.len];exact hq)⟩
 cases o with
 |none=>exact ⟨none,false,hS.dd.at ho,fun W hk=>⟨(hS.dd.kp hk (by simp)).at ho,qbC W s⟩,fun e=>by cases e⟩
 |some b=>
  obtain ⟨_,S,h2,h3⟩:=hS.dd.mp q b ho
  refine ⟨some b,hasP S s,hS.dd.at ho,fun W hk=>⟨(hS.dd.kp hk (by simp)).at ho,(h2.kp hk (by simp)).look s⟩,fun e=>?_⟩
  unfold hasP at e
  rw[List.any_eq_true]at e
  obtain ⟨s',h4,h5⟩:=e
  exact ⟨s',h5,h3 s' h4⟩
theorem qbQ {c:SC}(hI:ScI c){r r':List RdC}{y y':RdC}(hr:r∈c.R)(hr':r'∈c.R)(hy:y∈r)(hy':y'∈r')(hf:y'.fr=y.fr)(ht:y'.td=y.td):y'.bs=y.bs:=by
 obtain ⟨i,hi⟩:=List.getElem?_of_mem hr
 obtain ⟨j,hj⟩:=List.getElem?_of_mem hr'
 have hyi:=hI.ry i r hi
 have hyj:=hI.ry j r' hj
 have e1:=(hyi.2 y hy).1
 have e2:=(hyj.2 y' hy').1
 have:i=j:=by omega
 subst this
 rw[hi]at hj
 cases hj
 have hnd:(r.map (·.td)).Nodup:=by
  rw[hyi.1]
  unfold rdT rdA
  split <;> split <;> simp
 obtain ⟨a,ha⟩:=List.getElem?_of_mem hy
 obtain ⟨b,hb⟩:=List.getElem?_of_mem hy'
 have hab:a=b:=by
  obtain ⟨ha1,ha2⟩:=zC.1 ha
  obtain ⟨hb1,hb2⟩:=zC.1 hb
  have hpw:=List.pairwise_iff_getElem.1 hnd
  have hl:(r.map (·.td)).length=r.length:=zI _
  have he: ∀(x z:Nat) (hx:x<r.length) (hz:z<r.length),x<z->r[x].td=r[z].td->False:=fun x z hx hz hxz e=>hpw x z (by omega) (by omega) hxz (by rw[List.getElem_map,List.getElem_map];exact e)
  rcases Nat.lt_trichotomy a b with h|h|h
  ·exact (he a b ha1 hb1 h (by rw[ha2,hb2,ht])).elim
  ·exact h
  ·exact (he b a hb1 ha1 h (by rw[ha2,hb2,ht])).elim
 subst hab
 rw[ha]at hb
 cases hb
 rfl
theorem DdG.of {c:SC}(hI:ScI c){T:List (List Nat)}{en:Nat}(hen:en<=c.x.k.es.length){r:List RdC}{y:RdC}(hr:r∈c.R)(hyr:y∈r)(hy:RoadOf c T y)(hd:Mt.alo c.x.k.P en T y.td=[]):DdG c en (Mt.endT T) ⟨y.fr,y.td,Mt.spE y.bs T⟩:=by
 intro r' hr' y' hy' h1 h2
 dsimp only at h1 h2 ⊢
 rw[qbQ hI hr hr' hyr hy' h1 h2]
 have hl8:=hI.hX.hI.l8
 have hlt:=hy.lt
 refine Mt.Dd.of (Mt.asks_pm c.x.k.p c.x.k.es) (fun i hi t ht ha=>?_) (fun i hi=>?_) hy.fr.symm rfl (by rcases hy.td with h|h <;> omega) (by exact hen) hd
 ·refine hy.g.al i hi t ht ?_ (q93 hI.hX.hp ha)
  by_cases h:t<(c.x.ss).length
  ·exact h
  ·exfalso
   unfold Mt.askP at ha
   rw[show c.x.k.p.ss[t]?=none from List.getElem?_eq_none (by have:c.x.k.p.ss=c.x.ss:=rfl;rw[this];omega)]at ha
   cases ha
 ·have:=hy.g.lt i hi
  have h3:=hy.td
  omega
theorem DdG.dead {c:SC}{T:List (List Nat)}{en:Nat}{r:List RdC}{y:RdC}(hr:r∈c.R)(hyr:y∈r)(hy:RoadOf c T y){s':Spt}(hq:(⟨y.fr,y.td,Mt.spE y.bs T⟩:Spt).q s'=true)(hd:DdG c en (Mt.endT T) s'):Mt.alo c.x.k.P en T y.td=[]:=by
 obtain ⟨h1,h2,h3⟩:=(Spt.q_iff _ _).1 hq
 dsimp only at h1 h2 h3
 have:=hd r hr y hyr h1 h2 T (by rw[<-h1];exact hy.fr.symm) rfl h3
 rw[<-h2]at this
 exact this
theorem St.bury {c:SC}(hI:ScI c){go:Bool}{T:List (List Nat)}{en:Nat}{xs:List Cp}{w:World}(h:St c go T en xs w){q:Nat}(hq:q<c.x.k.es.length)(s:Spt)(hG:DdG c en q s):
  Calls Tryz.prog 116 #[.pointer (some ⟨c.gs,0,none⟩), .int .i64 (q:Int), .agg s.c] w fun e w'=>(∃v,e= .returned v)/\St c go T en xs w'/\KT w w':=by
 obtain ⟨pv,lv,vs,D,hS⟩:=h
 refine (qaK c.x.k w c.gs c.x.gx c.B c.gd en xs.length c.x.k.w0.heap.size (DdG c en) D hS.bx hS.dd hS.hk.kp.size q hq s hG).mono ?_
 rintro e w' ⟨hv,D',hd,hk,_⟩
 obtain ⟨h1,h2⟩:=hS.bury hI hd hk
 exact ⟨hv,⟨pv,lv,vs,D',h1⟩,h2⟩
theorem q8Z (c:SC)(hI:ScI c)(l en fs:Nat)(T:List (List Nat))(hT:TOk fs T)(hen:en<=c.x.k.es.length)(hfw:en<=fs+c.x.W)(hTe:Mt.endT T<en)(r:List RdC)(hr:r∈c.R)(y:RdC)(hyr:y∈r)(hy:RoadOf c T y)(IH: ∀q,Mt.endT T<q->q<en->q3m c l en T y.td q)(xs:List Cp)(w:World)(h:St c true T en xs w):
  Calls Tryz.prog 89 #[.pointer (some ⟨c.gs,0,none⟩), .agg y.l.toArray, .int .i64 (Mt.endT T:Int), .func (.yield l) #[] #[]] w (EndS c T en xs w (Mt.alo c.x.k.P en T y.td)):=by
 have hel:=hI.hX.hI.el
 have hl8:=hI.hX.hI.l8
 have hylt:=hy.lt
 have hyfr:=hy.fr
 have hytd:=hy.td
 have HWK:=hZq (fun (W:World) (hs:St c true T en xs W)=>qcg c hI l en fs T hT hen hfw y hy IH xs W hs (by omega))
 have HDA:Hid (∀s',(⟨y.fr,y.td,Mt.spE y.bs T⟩:Spt).q s'=true->DdG c en (Mt.endT T) s'->Mt.alo c.x.k.P en T y.td=[]):=hZq (fun s' h1 h2=>DdG.dead hr hyr hy h1 h2)
 have HDO:Hid (Mt.alo c.x.k.P en T y.td=[]->DdG c en (Mt.endT T) ⟨y.fr,y.td,Mt.spE y.bs T⟩):=hZq (fun h1=>DdG.of hI hen hr hyr hy h1)
 have kw:=Kp.alloc w (.cells y.l.toArray 148)
 have hs1:=h.al hI kw
 have HSP:Hid (Calls Tryz.prog 114 #[.pointer (some ⟨c.gs,0,none⟩), .agg y.l.toArray] (w.alloc (.cells y.l.toArray 148)) fun e w'=>e= .returned (.agg (Spt.c ⟨y.fr,y.td,Mt.spE y.bs T⟩))/\Kp [] (w.alloc (.cells y.l.toArray 148)) w'):=hZq (by
  obtain ⟨pv,lv,vs,D,hS⟩:=hs1
  exact qbY c.x.k _ T _ pv lv vs hS.hk c.gs c.x.gx c.B c.gd en xs.length hS.bx y ((hI.ro _ hS.hk.kp).2.2 r hr y hyr) (by have:=hy.g.ln;omega) (fun i hi=>by have:=hy.g.lt i hi;omega) (by omega) (by omega) (fun m hm=>by
   have h1:=hT.ea m hm
   have h2:=hT.lst hm
   exact ⟨h1.1,by omega,by omega⟩))
 have rb1:=CBox.new w y.l.toArray 148
 have HLK:=hZq (fun (W:World) (hs:St c true T en xs W)=>hs.look (q:=Mt.endT T) (by omega) ⟨y.fr,y.td,Mt.spE y.bs T⟩)
 have hle:Mt.endT T<c.x.k.es.length:=by omega
 obtain ⟨A,hA⟩: ∃A,A=Mt.alo c.x.k.P en T y.td:=⟨_,rfl⟩
 rw[<-hA]at HWK HDA HDO ⊢
 clear hA
 obtain ⟨fr,td,oh,oe,xa,xc,bs⟩:=y
 unfold RdC.l RdC.v at *
 dsimp only at *
 generalize Value.slice xa bs.length xc=ov at *
 generalize Mt.spE bs T=f at *
 have HI:=hZq hI
 have HRB:Hid (RBx w.heap.size fr td oh oe ov (w.alloc (.cells #[.int .i64 (fr:Int), .int .i64 (td:Int), .bool oh, .bool oe,ov] 148))):=hZq ⟨rb1⟩
 have HS1:=hZq hs1
 have HKW:=hZq (KT.own kw (by simp))
 obtain ⟨W1,hW1⟩: ∃W1,W1=w.alloc (.cells #[.int .i64 (fr:Int), .int .i64 (td:Int), .bool oh, .bool oe,ov] 148):=⟨_,rfl⟩
 rw[<-hW1]at HRB HS1 HKW HSP
 clear hI h hT hy IH hs1 rb1 kw hr hyr
 generalize Mt.endT T=la at *
 obtain ⟨EL,hEL⟩: ∃EL,c.x.k.es.length=EL:=⟨_,rfl⟩
 have HEL:=hZq hEL
 rw[hEL]at hle
 clear hEL hel hen hfw hTe
 have hlei:(la:Int)<(EL:Int):=by omega
 obtain ⟨q0,q1,q2,q3,q4⟩:=(uQ HRB).kt (KT.refl _)
 go_enter Tryz.func89,Tryz.ntmps89
 go_upto_region 1 with fail
 rw[<-hW1]
 clear hW1
 go_wp2_with fail
 refine (uQ HSP).mono ?_
 rintro e w2 ⟨rfl,hk2⟩
 unfold Spt.c
 dsimp only
 have hs2:=(uQ HS1).al (uQ HI) hk2
 have k3:=Kp.alloc w2 (.cells #[.int .i16 (fr:Int), .int .i16 (td:Int), .int .i16 (f 0:Int), .int .i16 (f 1:Int), .int .i16 (f 2:Int), .int .i16 (f 3:Int), .int .i16 (f 4:Int), .int .i16 (f 5:Int), .int .i16 (f 6:Int), .int .i16 (f 7:Int)] 196)
 have hs3:=hs2.al (uQ HI) k3
 have sb3:=CBox.new w2 #[.int .i16 (fr:Int), .int .i16 (td:Int), .int .i16 (f 0:Int), .int .i16 (f 1:Int), .int .i16 (f 2:Int), .int .i16 (f 3:Int), .int .i16 (f 4:Int), .int .i16 (f 5:Int), .int .i16 (f 6:Int), .int .i16 (f 7:Int)] 196
 obtain ⟨o,fd,_,hlk,hfd⟩:=uQ HLK _ hs3
 have g3: ∀W,Kp [] (w2.alloc (.cells #[.int .i16 (fr:Int), .int .i16 (td:Int), .int .i16 (f 0:Int), .int .i16 (f 1:Int), .int .i16 (f 2:Int), .int .i16 (f 3:Int), .int .i16 (f 4:Int), .int .i16 (f 5:Int), .int .i16 (f 6:Int), .int .i16 (f 7:Int)] 196)) W->W.cell? ⟨c.gs,3,none⟩=some (.slice (some ⟨c.gd,0,none⟩) EL EL):=fun W hk=>by
  obtain ⟨pv,lv,vs,D,hS⟩:=hs3.al (uQ HI) hk
  rw[<-uQ HEL]
  exact hS.bx.cell rfl
 obtain ⟨W3,hW3⟩: ∃W3,W3=w2.alloc (.cells #[.int .i16 (fr:Int), .int .i16 (td:Int), .int .i16 (f 0:Int), .int .i16 (f 1:Int), .int .i16 (f 2:Int), .int .i16 (f 3:Int), .int .i16 (f 4:Int), .int .i16 (f 5:Int), .int .i16 (f 6:Int), .int .i16 (f 7:Int)] 196):=⟨_,rfl⟩
 rw[<-hW3]at k3 hs3 sb3 hlk g3
 have HSL:Hid (∀W,Kp [] W3 W->W.cell? ⟨c.gs,3,none⟩=some (.slice (some ⟨c.gd,0,none⟩) EL EL)/\W.cell? ⟨c.gd,la,none⟩=some (.map o)/\W.cell? ⟨w2.heap.size,0,none⟩=some (.int .i16 (fr:Int))/\W.cell? ⟨w2.heap.size,1,none⟩=some (.int .i16 (td:Int))/\W.cell? ⟨w2.heap.size,2,none⟩=some (.int .i16 (f 0:Int))/\W.cell? ⟨w2.heap.size,3,none⟩=some (.int .i16 (f 1:Int))/\W.cell? ⟨w2.heap.size,4,none⟩=some (.int .i16 (f 2:Int))/\W.cell? ⟨w2.heap.size,5,none⟩=some (.int .i16 (f 3:Int))/\W.cell? ⟨w2.heap.size,6,none⟩=some (.int .i16 (f 4:Int))/\W.cell? ⟨w2.heap.size,7,none⟩=some (.int .i16 (f 5:Int))/\W.cell? ⟨w2.heap.size,8,none⟩=some (.int .i16 (f 6:Int))/\W.cell? ⟨w2.heap.size,9,none⟩=some (.int .i16 (f 7:Int))/\(Instr.lookup 114 (.map o) (.agg #[.int .i16 (fr:Int), .int .i16 (td:Int), .int .i16 (f 0:Int), .int .i16 (f 1:Int), .int .i16 (f 2:Int), .int .i16 (f 3:Int), .int .i16 (f 4:Int), .int .i16 (f 5:Int), .int .i16 (f 6:Int), .int .i16 (f 7:Int)]) true).run Tryz.prog W= .ok (.tuple #[.agg #[], .bool fd]) W):=hZq (fun W hk=>by
  have h5:=sb3.kp hk (by simp)
  exact ⟨g3 W hk,(hlk W hk).1,h5.cell rfl,h5.cell rfl,h5.cell rfl,h5.cell rfl,h5.cell rfl,h5.cell rfl,h5.cell rfl,h5.cell rfl,h5.cell rfl,h5.cell rfl,(hlk W hk).2⟩)
 have HK3:=hZq (show Kp [] W1 W3 from hk2.trans k3 (by simp))
 have HS3:=hZq hs3
 have HSB:=hZq sb3
 have HFD:=hZq hfd
 clear HSP hk2 hs2 k3 hs3 sb3 hlk g3 hfd HLK HS1 q0 q1 q2 q3 q4
 go_upto_region 2 with fail
 rw[<-hW3]
 clear hW3
 obtain ⟨V,hV⟩: ∃V,V=W3.drew:=⟨_,rfl⟩
 have kd:Kp [] W3 V:=by rw[hV];exact Kp.drew _
 go_cut [11] (fun ov wc=>ov= .bool fd/\Hid (Kp [] W3 wc))
 case first=>
  refine wp_region_held_drew (S:=fun W=>W.cell? ⟨c.gs,3,none⟩=some (.slice (some ⟨c.gd,0,none⟩) EL EL)/\W.cell? ⟨c.gd,la,none⟩=some (.map o)/\W.cell? ⟨w2.heap.size,0,none⟩=some (.int .i16 (fr:Int))/\W.cell? ⟨w2.heap.size,1,none⟩=some (.int .i16 (td:Int))/\W.cell? ⟨w2.heap.size,2,none⟩=some (.int .i16 (f 0:Int))/\W.cell? ⟨w2.heap.size,3,none⟩=some (.int .i16 (f 1:Int))/\W.cell? ⟨w2.heap.size,4,none⟩=some (.int .i16 (f 2:Int))/\W.cell? ⟨w2.heap.size,5,none⟩=some (.int .i16 (f 3:Int))/\W.cell? ⟨w2.heap.size,6,none⟩=some (.int .i16 (f 4:Int))/\W.cell? ⟨w2.heap.size,7,none⟩=some (.int .i16 (f 5:Int))/\W.cell? ⟨w2.heap.size,8,none⟩=some (.int .i16 (f 6:Int))/\W.cell? ⟨w2.heap.size,9,none⟩=some (.int .i16 (f 7:Int))/\(Instr.lookup 114 (.map o) (.agg #[.int .i16 (fr:Int), .int .i16 (td:Int), .int .i16 (f 0:Int), .int .i16 (f 1:Int), .int .i16 (f 2:Int), .int .i16 (f 3:Int), .int .i16 (f 4:Int), .int .i16 (f 5:Int), .int .i16 (f 6:Int), .int .i16 (f 7:Int)]) true).run Tryz.prog W= .ok (.tuple #[.agg #[], .bool fd]) W) (by kernel_rfl) (by rw[<-hV];exact uQ HSL V kd) (fun hHeld=>?_)
  rw[<-hV]at hHeld ⊢
  clear hV
  show wpAnyH _ _ _ _ _ 15 (Array.replicate 15 false) _ _
  refine zzH (i:=0) (v:=?_) rfl (Or.inl ⟨by rfl,?_⟩) (by assumption) ?_
  rotate_left
  ·intro w0 s9;(try dsimp only at s9);go_simp;(try with_reducible rfl)
  try simp only[Act.put,zz1,zz2,zz3]
  refine zzH (i:=1) (v:=?_) rfl (Or.inl ⟨by rfl,?_⟩) (by assumption) ?_
  rotate_left
  ·intro w0 s9;(try dsimp only at s9);go_simp;(try with_reducible rfl)
  try simp only[Act.put,zz1,zz2,zz3]
  refine zzH (i:=2) (v:=?_) rfl (Or.inl ⟨by rfl,?_⟩) (by assumption) ?_
  rotate_left
  ·intro w0 s9;(try dsimp only at s9);go_simp;(try with_reducible rfl)
  try simp only[Act.put,zz1,zz2,zz3]
  refine zzH (i:=3) (v:=?_) rfl (Or.inl ⟨by rfl,?_⟩) (by assumption) ?_
  rotate_left
  ·intro w0 s9;(try dsimp only at s9);go_simp;(try with_reducible rfl)
  try simp only[Act.put,zz1,zz2,zz3]
  refine zzH (i:=4) (v:=?_) rfl (Or.inl ⟨by rfl,?_⟩) (by assumption) ?_
  rotate_left
  ·intro w0 s9;(try dsimp only at s9);go_simp;(try with_reducible rfl)
  try simp only[Act.put,zz1,zz2,zz3]
  refine zzH (i:=5) (v:=?_) rfl (Or.inl ⟨by rfl,?_⟩) (by assumption) ?_
  rotate_left
  ·intro w0 s9;(try dsimp only at s9);go_simp;(try with_reducible rfl)
  try simp only[Act.put,zz1,zz2,zz3]
  refine zzH (i:=6) (v:=?_) rfl (Or.inl ⟨by rfl,?_⟩) (by assumption) ?_
  rotate_left
  ·intro w0 s9;(try dsimp only at s9);go_simp;(try with_reducible rfl)
  try simp only[Act.put,zz1,zz2,zz3]
  refine zzH (i:=7) (v:=?_) rfl (Or.inl ⟨by rfl,?_⟩) (by assumption) ?_
  rotate_left
  ·intro w0 s9;(try dsimp only at s9);go_simp;(try with_reducible rfl)
  try simp only[Act.put,zz1,zz2,zz3]
  refine zzH (i:=8) (v:=?_) rfl (Or.inl ⟨by rfl,?_⟩) (by assumption) ?_
  rotate_left
  ·intro w0 s9;(try dsimp only at s9);go_simp;(try with_reducible rfl)
  try simp only[Act.put,zz1,zz2,zz3]
  refine zzH (i:=9) (v:=?_) rfl (Or.inl ⟨by rfl,?_⟩) (by assumption) ?_
  rotate_left
  ·intro w0 s9;(try dsimp only at s9);go_simp;(try with_reducible rfl)
  try simp only[Act.put,zz1,zz2,zz3]
  refine zzH (i:=10) (v:=?_) rfl (Or.inl ⟨by rfl,?_⟩) (by assumption) ?_
  rotate_left
  ·intro w0 s9;(try dsimp only at s9);go_simp;(try with_reducible rfl)
  try simp only[Act.put,zz1,zz2,zz3]
  refine zzH (i:=11) (v:=?_) rfl (Or.inl ⟨by rfl,?_⟩) (by assumption) ?_
  rotate_left
  ·intro w0 s9;(try dsimp only at s9);go_simp;(try with_reducible rfl)
  try simp only[Act.put,zz1,zz2,zz3]
  refine wpAnyH_ready (rs:=[12]) (by kernel_rfl) (by simp) ?_
  refine AllReadyH.cons rfl (fun K hK=>?_) AllReadyH.nil
  go_simp
  skip
  refine hK.out _ _ ?_ (fun hHeld=>?_)
  ·exact uQ HSL _ (kd.trans (Kp.alloc _ _) (by simp))
  clear hK K
  try simp only[Act.put,zz1,zz2,zz3]
  refine wpAnyH_ready (rs:=[13]) (by kernel_rfl) (by simp) ?_
  refine AllReadyH.cons rfl (fun K hK=>?_) AllReadyH.nil
  go_simp
  skip
  refine hK.out _ _ ?_ (fun hHeld=>?_)
  ·exact uQ HSL _ (kd.trans (Kp.alloc _ _) (by simp))
  clear hK K
  try simp only[Act.put,zz1,zz2,zz3]
  refine wpAnyH_ready (rs:=[14]) (by kernel_rfl) (by simp) ?_
  refine AllReadyH.cons rfl (fun K hK=>?_) AllReadyH.nil
  go_simp
  skip
  refine hK.out _ _ ?_ (fun hHeld=>?_)
  ·exact uQ HSL _ (kd.trans (Kp.alloc _ _) (by simp))
  clear hK K
  try simp only[Act.put,zz1,zz2,zz3]
  refine wpAnyH_done (by kernel_rfl) ?_ _
  go_wp2
  go_meet
  exact ⟨rfl,hZq (kd.trans (Kp.alloc _ _) (by simp))⟩
 case rest=>
 obtain ⟨rfl,HKC⟩:=hcut
 have hs4:=(uQ HS3).al (uQ HI) (uQ HKC)
 have kt4:KT W1 wc:=(KT.own (uQ HK3) (by simp)).trans (KT.own (uQ HKC) (by simp))
 have sb4:=(uQ HSB).kp (uQ HKC) (by simp)
 have HK4:=hZq ((uQ HKW).trans kt4)
 have HS4:=hZq hs4
 have HSB4:=hZq sb4
 obtain ⟨q0,q1,q2,q3,q4⟩:=(uQ HRB).kt kt4
 have g5:=hs4.gs5
 obtain ⟨n1,hn1⟩: ∃n,n=xs.length:=⟨_,rfl⟩
 rw[<-hn1]at g5
 have HN1:=hZq hn1
 have HWC:=hZq (uQ HWK wc hs4)
 clear hn1 hs4 sb4 kt4 HK3 HKC HS3 HSB HKW HSL HWK HRB
 cases fd with
 |true=>
  have HF:Hid (EndS c T en xs w A (.returned (.bool true)) wc):=hZq (by
   obtain ⟨s',h1,h2⟩:=uQ HFD rfl
   rw[uQ HDA s' h1 h2]
   exact ⟨true,[],rfl,by rw[List.append_nil];exact uQ HS4,uQ HK4,PrT.nil⟩)
  clear HS4 HK4 HFD HDA HDO HWC HSB4 HI HN1
  go_wp2
  go_ret
  exact uQ HF
 |false=>
  clear HFD HDA
  go_wp2_with fail
  refine (uQ HWC).mono ?_
  rintro e w5 ⟨go,ys,rfl,hst,hk,hpre⟩
  have h5:=hst.gs5
  obtain ⟨n2,hn2⟩: ∃n,n=(xs++ys).length:=⟨_,rfl⟩
  rw[<-hn2]at h5
  have HNN:Hid (n2=n1↔ys=[]):=hZq (by
   have e:(xs++ys).length=xs.length+ys.length:=zF
   rw[uQ HN1,hn2,e]
   constructor
   ·intro e;exact List.length_eq_zero_iff.1 (by omega)
   ·rintro rfl;rfl)
  have HST:=hZq hst
  have HKT:=hZq ((uQ HK4).trans hk)
  have HPR:=hZq hpre
  have sb5:=hk.bl _ _ _ (uQ HSB4) (by simp)
  have t0:=sb5.cell (i:=0) (v:= .int .i16 (fr:Int)) rfl
  have t1:=sb5.cell (i:=1) (v:= .int .i16 (td:Int)) rfl
  have t2:=sb5.cell (i:=2) (v:= .int .i16 (f 0:Int)) rfl
  have t3:=sb5.cell (i:=3) (v:= .int .i16 (f 1:Int)) rfl
  have t4:=sb5.cell (i:=4) (v:= .int .i16 (f 2:Int)) rfl
  have t5:=sb5.cell (i:=5) (v:= .int .i16 (f 3:Int)) rfl
  have t6:=sb5.cell (i:=6) (v:= .int .i16 (f 4:Int)) rfl
  have t7:=sb5.cell (i:=7) (v:= .int .i16 (f 5:Int)) rfl
  have t8:=sb5.cell (i:=8) (v:= .int .i16 (f 6:Int)) rfl
  have t9:=sb5.cell (i:=9) (v:= .int .i16 (f 7:Int)) rfl
  clear hn2 hst hk hpre HWC g5 q0 q1 q2 q3 q4 HS4 HK4 HSB4 sb5 HN1
  cases go with
  |false=>
   have HF:Hid (EndS c T en xs w A (.returned (.bool false)) w5):=hZq ⟨false,ys,rfl,uQ HST,uQ HKT,uQ HPR⟩
   clear HST HKT HPR HNN HDO HI
   go_wp2
   go_ret
   exact uQ HF
  |true=>
   by_cases hz:ys=[]
   ·have hnn:n2=n1:=(uQ HNN).2 hz
    subst hnn
    have hAe:A=[]:=by
     rcases uQ HPR with ⟨_,e⟩|⟨e,_⟩
     ·rw[<-e,hz];rfl
     ·cases e
    have HBU:=hZq ((uQ HST).bury (uQ HI) (q:=la) (by rw[uQ HEL];exact hle) ⟨fr,td,f⟩ (uQ HDO hAe))
    unfold Spt.c at HBU
    dsimp only at HBU
    clear HNN HDO hAe
    go_wp2_with fail
    refine (uQ HBU).mono ?_
    rintro e w6 ⟨⟨v,rfl⟩,hs6,hk6⟩
    have HF:Hid (EndS c T en xs w A (.returned (.bool true)) w6):=hZq ⟨true,ys,rfl,hs6,(uQ HKT).trans hk6,uQ HPR⟩
    clear HBU hs6 hk6 HST HKT HPR HI
    go_wp2
    go_ret
    exact uQ HF
   ·have hnn: ¬ (n2:Int)=(n1:Int):=fun e=>hz ((uQ HNN).1 (by omega))
    have HF:Hid (EndS c T en xs w A (.returned (.bool true)) w5):=hZq ⟨true,ys,rfl,uQ HST,uQ HKT,uQ HPR⟩
    clear HST HKT HPR HNN HDO HI
    go_wp2
    go_ret
    exact uQ HF
theorem qa6: ∀(r:List RdC) (j:Nat) (h:j<r.length) (i:Nat),i<5->(r.flatMap RdC.l)[j * 5+i]?=(r[j].l)[i]?
 |[],j,h,_,_=>absurd h (by simp)
 |a::r,0,_,i,hi=>by
  rw[List.flatMap_cons,Nat.zero_mul,Nat.zero_add,List.getElem?_append_left (by show i<5;exact hi)]
  rfl
 |a::r,j+1,h,i,hi=>by
  have h2:j<r.length:=by simpa using h
  rw[List.flatMap_cons,List.getElem?_append_right (by show 5<=_;omega),show (j+1) * 5+i-a.l.length=j * 5+i by show _-5=_;omega,qa6 r j h2 i hi]
  rfl
theorem St.roads {c:SC}(hI:ScI c){go:Bool}{T:List (List Nat)}{en:Nat}{xs:List Cp}{w:World}(h:St c go T en xs w){t:Nat}{r:List RdC}(hr:c.R[t]?=some r){v:Value}(hv:c.rs[t]?=some v):
  w.cell? ⟨c.gs,2,none⟩=some (.slice (some ⟨c.B,0,none⟩) c.x.k.l.length c.x.k.l.length)/\w.cell? ⟨c.B,t,none⟩=some v/\(∃a cap,v= .slice a r.length cap/\r.length<=cap\/v= .slice none 0 0/\r=[])/\ ∀(j:Nat) (hj:j<r.length), ∃g cap,v= .slice (some ⟨g,0,none⟩) r.length cap/\w.cell? ⟨g,j * 5,none⟩=some (.int .i64 (r[j].fr:Int))/\w.cell? ⟨g,j * 5+1,none⟩=some (.int .i64 (r[j].td:Int))/\w.cell? ⟨g,j * 5+2,none⟩=some (.bool r[j].oh)/\w.cell? ⟨g,j * 5+3,none⟩=some (.bool r[j].oe)/\w.cell? ⟨g,j * 5+4,none⟩=some r[j].v:=by
 obtain ⟨pv,lv,vs,D,hS⟩:=h
 obtain ⟨h1,h2,_⟩:=hI.ro w hS.hk.kp
 have ho:=h2 t v r hv hr
 refine ⟨hS.bx.cell rfl,h1.cell (by simpa using hv),?_,fun j hj=>?_⟩
 ·obtain ⟨_,⟨e,e0⟩|⟨g,cap,cur,e,_,_,hc,_⟩⟩:=id ho
  ·exact ⟨none,0,Or.inr ⟨e,List.eq_nil_of_length_eq_zero e0⟩⟩
  ·exact ⟨_,cap,Or.inl ⟨e,hc⟩⟩
 ·obtain ⟨_,⟨e,e0⟩|⟨g,cap,cur,e,_⟩⟩:=id ho
  ·omega
  ·have hc: ∀i,i<5->w.cell? ⟨g,j * 5+i,none⟩=(r[j].l)[i]?:=fun i hi=>by
    rw[<-qa6 r j hj i hi]
    subst e
    exact World.ownsRow.cellAt ho (j * 5+i) (by omega)
   exact ⟨g,cap,e,hc 0 (by omega),hc 1 (by omega),hc 2 (by omega),hc 3 (by omega),hc 4 (by omega)⟩
theorem qbR {c:SC}(hI:ScI c){T:List (List Nat)}{t:Nat}(hT:T.length=t+1)(ht:t<c.x.k.l.length){r:List RdC}(hr:c.R[t]?=some r):r.map (·.td)=Mt.rds c.x.k.P T/\ ∀y∈r,RoadOf c T y:=by
 have hss:c.x.ss.length=c.x.k.l.length:=q02 _
 have hy:=hI.ry t r hr
 have e1:Mt.rds c.x.k.P T=rdT c.x.ss t:=by
  unfold Mt.rds rdT rdA
  rw[hT,Nat.add_sub_cancel]
  rfl
 have hm: ∀y∈r,(y.td=t/\mnAt c.x.ss t=true)\/(y.td=t+1/\t+1<c.x.ss.length):=fun y hyr=>by
  have hm:y.td∈rdT c.x.ss t:=by rw[<-hy.1];exact List.mem_map.2 ⟨y,hyr,rfl⟩
  unfold rdT rdA at hm
  rw[zG]at hm
  rcases hm with hm|hm
  ·split at hm
   ·rename_i h
    exact Or.inl ⟨by simpa using hm,h⟩
   ·cases hm
  ·split at hm
   ·rename_i h
    exact Or.inr ⟨by simpa using hm,h⟩
   ·cases hm
 refine ⟨by rw[hy.1,e1],fun y hyr=>⟨(hy.2 y hyr).2,by rw[(hy.2 y hyr).1,hT],?_,?_⟩⟩
 ·rw[(hy.2 y hyr).1]
  exact (hm y hyr).imp id (fun h=>h.1)
 ·rcases hm y hyr with h|h <;> omega
theorem qb {T:List (List Nat)}{t q:Nat}(ht:t=T.length\/t+1=T.length)(hne: ∀l∈T,l≠[]): ∃A l,Mt.ext T t q=A++[l++[q]]/\(if l=[] then A else A++[l])=T/\A.length=t:=by
 rcases ht with h|h
 ·exact ⟨T,[],by unfold Mt.ext;rw[if_pos h];rfl,if_pos rfl,h.symm⟩
 ·have hT:T≠[]:=fun e=>by rw[e]at h;simp at h
  have e1:T.dropLast++[T.getLast hT]=T:=List.dropLast_concat_getLast hT
  have e2:T.getLastD []=T.getLast hT:=by rw[List.getLastD_eq_getLast?,List.getLast?_eq_some_getLast hT];rfl
  refine ⟨T.dropLast,T.getLast hT,?_,?_,?_⟩
  ·unfold Mt.ext
   rw[if_neg (by omega),e2]
  ·rw[if_neg (hne _ (List.getLast_mem hT)),e1]
  ·rw[List.length_dropLast];omega
theorem qb6 {α β γ:Type}(f:α->β)(g:β->List γ)(l:List α):(l.map f).flatMap g=l.flatMap fun a=>g (f a):=by rw[List.flatMap_map]
theorem q9H (c:SC)(hI:ScI c)(l:Nat)(hY:Ylds c l)(en fs:Nat)(T:List (List Nat))(t q:Nat)(ht:t=T.length\/t+1=T.length)(htl:t<c.x.k.l.length)(hne: ∀l∈T,l≠[]/\l.length<=4096)(hT:TOk fs (Mt.ext T t q))(hen:en<=c.x.k.es.length)(hfw:en<=fs+c.x.W)(hqe:q<en)
  (IH: ∀td q',q<q'->q'<en->(td=(Mt.ext T t q).length\/td+1=(Mt.ext T t q).length)->td<c.x.k.l.length->q3m c l en (Mt.ext T t q) td q'):q3m c l en T t q:=by
 intro xs w h
 have hel:=hI.hX.hI.el
 have hl8:=hI.hX.hI.l8
 have hTl:(Mt.ext T t q).length=t+1:=Mt.ext_len q ht
 have hTe:Mt.endT (Mt.ext T t q)=q:=Mt.endT_ext T t q
 obtain ⟨r,hr⟩: ∃r,c.R[t]?=some r:=⟨_,zE (by rw[hI.rl];exact htl)⟩
 obtain ⟨v,hv⟩: ∃v,c.rs[t]?=some v:=⟨_,zE (by rw[hI.rv,hI.rl];exact htl)⟩
 obtain ⟨hrm,hro⟩:=qbR hI hTl htl hr
 have hun:=Mt.all_unf (P:=c.x.k.P) (en:=en) (Mt.ext T t q) hen (show 1<=c.x.k.es.length by omega)
 have hPN:c.x.k.P.N=c.x.k.l.length:=q02 _
 have hrl:r.length<=2:=by
  have e:=congrArg List.length hrm
  rw[zI]at e
  rw[e]
  unfold Mt.rds
  split <;> split <;> simp
 rw[<-hrm,qb6,hPN]at hun
 rw[hun]
 clear hun hrm
 have HPU:Hid (Calls Tryz.prog 45 #[.pointer (some ⟨c.x.k.gt,0,none⟩), .int .i64 (t:Int), .int .i64 (q:Int)] w fun e w'=>(∃v,e= .returned v)/\St c true (Mt.ext T t q) en xs w'/\KT w w'):=hZq (by
  obtain ⟨pv,lv,vs,D,hS⟩:=h
  refine (q6L c.x.k hI.hX.hI w T pv lv vs hS.hk t q ht (by omega) (by omega) (fun l hl=>(hne l hl).2)).mono ?_
  rintro e w' ⟨h1,pv',lv',vs',h2⟩
  obtain ⟨h3,h4⟩:=hS.take hI h2
  exact ⟨h1,⟨pv',lv',vs',D,h3⟩,h4⟩)
 have HBK:Hid (∀go ys W,St c go (Mt.ext T t q) en ys W->Calls Tryz.prog 90 #[.pointer (some ⟨c.x.k.gt,0,none⟩)] W fun e w'=>(∃v,e= .returned v)/\St c go T en ys w'/\KT W w'):=hZq (fun go ys W hs=>by
  obtain ⟨pv,lv,vs,D,hS⟩:=hs
  obtain ⟨A,m,e1,e2,e3⟩:=qb (q:=q) ht (fun l hl=>(hne l hl).1)
  have hk:=hS.hk
  have hbd: ∀x∈m,x<c.x.k.es.length:=fun x hx=>by
   have:=((hT.ea (m++[q]) (by rw[e1];simp)).2.2 x (by simp[hx])).2
   omega
  have hml:m.length<=4096:=by
   have:=(hT.ea (m++[q]) (by rw[e1];simp)).2.1
   rw[zF]at this
   simp at this
   omega
  rw[e1]at hk
  refine (qap c.x.k hI.hX.hI W A m q pv lv vs hk (by omega) hml hbd).mono ?_
  rintro e w' ⟨h1,pv',lv',vs',h2⟩
  rw[e2]at h2
  obtain ⟨h3,h4⟩:=hS.take hI h2
  exact ⟨h1,⟨pv',lv',vs',D,h3⟩,h4⟩)
 have HHE:=hZq (fun (W:World) (hs:St c true (Mt.ext T t q) en xs W)=>qbm c hI l hY (Mt.ext T t q) en xs W hs t hTl (by omega) (fun l hl=>⟨(hT.ea l hl).1,by have:=(hT.ea l hl).2.1;omega⟩))
 have HAL:Hid (∀(j:Nat) (hj:j<r.length) ys W,St c true (Mt.ext T t q) en ys W->Calls Tryz.prog 89 #[.pointer (some ⟨c.gs,0,none⟩), .agg r[j].l.toArray, .int .i64 (q:Int), .func (.yield l) #[] #[]] W (EndS c (Mt.ext T t q) en ys W (Mt.alo c.x.k.P en (Mt.ext T t q) r[j].td))):=hZq (fun j hj ys W hs=>by
  have hy:=hro r[j] (zJ hj)
  have:=q8Z c hI l en fs (Mt.ext T t q) hT hen hfw (by omega) r (List.mem_of_getElem? hr) r[j] (zJ hj) hy (fun q' h1 h2=>IH r[j].td q' (by omega) h2 (by have:=hy.fr;rcases hy.td with h|h <;> omega) hy.lt) ys W hs
  rw[hTe]at this
  exact this)
 have HRO:=hZq (fun (go:Bool) (ys:List Cp) (W:World) (hs:St c go (Mt.ext T t q) en ys W)=>hs.roads hI hr hv)
 have HST:=hZq h
 have HI:=hZq hI
 have g0:w.cell? ⟨c.gs,0,none⟩=some (.pointer (some ⟨c.x.k.gt,0,none⟩)):=by obtain ⟨pv,lv,vs,D,hS⟩:=h;exact hS.bx.cell rfl
 have HG0:Hid (∀go ys W,St c go (Mt.ext T t q) en ys W->W.cell? ⟨c.gs,0,none⟩=some (.pointer (some ⟨c.x.k.gt,0,none⟩))):=hZq (fun go ys W hs=>by obtain ⟨pv,lv,vs,D,hS⟩:=hs;exact hS.bx.cell rfl)
 obtain ⟨H,hH⟩: ∃H,H=if (Mt.ext T t q).length=c.x.k.l.length then [Mt.ext T t q] else []:=⟨_,rfl⟩
 rw[<-hH]at HHE ⊢
 obtain ⟨T',hT'⟩: ∃T',T'=Mt.ext T t q:=⟨_,rfl⟩
 rw[<-hT']at HPU HBK HHE HAL HRO HG0 ⊢
 obtain ⟨N,hN⟩: ∃N,c.x.k.l.length=N:=⟨_,rfl⟩
 rw[hN]at HRO htl hl8
 have htN:(t:Int)<(N:Int):=by omega
 clear hI hY ht hne hT hen hfw hqe IH hTl hTe hr hv hro hPN h hH hT' hN hel
 go_enter Tryz.func59,Tryz.ntmps59
 go_wp2_with fail
 refine (uQ HPU).mono ?_
 rintro e w1 ⟨⟨v1,rfl⟩,hs1,hk1⟩
 have HK1:=hZq hk1
 have HHC:=hZq (uQ HHE w1 hs1)
 clear HPU hs1 hk1 HHE HST g0
 go_wp2_with fail
 refine (uQ HHC).mono ?_
 rintro e w2 ⟨go,ys,rfl,hs2,hk2,hp2⟩
 obtain ⟨b2,bt,bv, -⟩:=uQ HRO go (xs++ys) w2 hs2
 have HK2:=hZq ((uQ HK1).trans hk2)
 have HS2:=hZq hs2
 have HP2:=hZq hp2
 clear HHC HK1 hs2 hk2 hp2
 obtain ⟨va,vc,rfl⟩: ∃a cap,v= .slice a r.length cap:=by
  obtain ⟨a,cap,⟨e,_⟩|⟨e,e2⟩⟩:=bv
  ·exact ⟨a,cap,e⟩
  ·exact ⟨none,0,by rw[e,e2];rfl⟩
 clear bv
 obtain ⟨M,hM⟩: ∃M,r.length=M:=⟨_,rfl⟩
 have HM:=hZq hM
 rw[hM]at bt hrl
 clear hM
 have H0:Hid (St c go T' en (xs++ys) w2/\KT w w2/\PrT go ys (H++(r.take 0).flatMap fun a=>Mt.alo c.x.k.P en T' a.td)):=hZq ⟨uQ HS2,uQ HK2,by rw[List.take_zero,List.flatMap_nil,List.append_nil];exact uQ HP2⟩
 clear HS2 HK2 HP2
 go_wp2_with fail
 go_loopw [9,31] (fun mv jv wr=> ∃(j:Nat) (go:Bool) (ys:List Cp),j<=M/\jv= .int .i64 (j:Int)/\mv= .bool go/\Hid (St c go T' en (xs++ys) wr/\KT w wr/\PrT go ys (H++(r.take j).flatMap fun a=>Mt.alo c.x.k.P en T' a.td))) (fun _ jv _=>M-(intOf jv).toNat)
 case atStart=>exact ⟨0,go,ys,Nat.zero_le _,rfl,rfl,H0⟩
 case round=>
  obtain ⟨j,go,ys,hj,rfl,rfl,HR⟩:=hrel
  clear H0 b2 bt
  obtain ⟨hs,hk,hp⟩:=uQ HR
  have HS:=hZq hs
  have HK:=hZq hk
  have HP:=hZq hp
  clear HR hk hp
  by_cases hlt:j<M
  ·have hjr:j<r.length:=by rw[uQ HM];exact hlt
   have hji:(j:Int)<(M:Int):=by omega
   obtain ⟨g,cap,ev,y0,y1,y2,y3,y4⟩:=(uQ HRO go (xs++ys) wr hs).2.2.2 j hjr
   injection ev with ev1 _ ev3
   subst ev1 ev3
   have ka:=Kp.alloc wr (.cells r[j].l.toArray 148)
   have rb:=CBox.new wr r[j].l.toArray 148
   have hsa:=hs.al (uQ HI) ka
   have HAC:=hZq (fun (e:go=true)=>uQ HAL j hjr (xs++ys) (wr.alloc (.cells r[j].l.toArray 148)) (e ▸ hsa))
   have HTK:Hid ((r.take (j+1)).flatMap (fun a=>Mt.alo c.x.k.P en T' a.td)=(r.take j).flatMap (fun a=>Mt.alo c.x.k.P en T' a.td)++Mt.alo c.x.k.P en T' r[j].td):=hZq (by
    rw[List.take_add_one,zE hjr,List.flatMap_append]
    simp)
   have HSA:=hZq hsa
   have HKA:=hZq ((uQ HK).trans (KT.own ka (by simp)))
   clear HRO HAL HBK HG0 hs hsa ka HS HK
   generalize r[j]=yy at *
   obtain ⟨fr,td,oh,oe,xa,xc,bs⟩:=yy
   unfold RdC.l RdC.v at *
   dsimp only at *
   generalize bs.length=bl at *
   have x0:=rb.cell (i:=0) (v:= .int .i64 (fr:Int)) rfl
   have x1:=rb.cell (i:=1) (v:= .int .i64 (td:Int)) rfl
   have x2:=rb.cell (i:=2) (v:= .bool oh) rfl
   have x3:=rb.cell (i:=3) (v:= .bool oe) rfl
   have x4:=rb.cell (i:=4) (v:= .slice xa bl xc) rfl
   clear rb
   cases go with
   |false=>
    have HN:Hid (St c false T' en (xs++ys) (wr.alloc (.cells #[.int .i64 (fr:Int), .int .i64 (td:Int), .bool oh, .bool oe, .slice xa bl xc] 148))/\KT w (wr.alloc (.cells #[.int .i64 (fr:Int), .int .i64 (td:Int), .bool oh, .bool oe, .slice xa bl xc] 148))/\PrT false ys (H++(r.take (j+1)).flatMap fun a=>Mt.alo c.x.k.P en T' a.td)):=hZq ⟨uQ HSA,uQ HKA,by rw[uQ HTK, <-List.append_assoc];exact (uQ HP).stop _⟩
    clear HSA HKA HTK HP HAC
    go_wp2
    go_roundw
    case rel=>exact ⟨j+1,false,ys,by omega,by go_num,rfl,HN⟩
    case measure=>simp[intOf];omega
   |true=>
    have HCC:=hZq (uQ HAC rfl)
    clear HAC HSA
    go_wp2_with fail
    refine (uQ HCC).mono ?_
    rintro e w4 ⟨go2,zs,rfl,hs4,hk4,hp4⟩
    have HN:Hid (St c go2 T' en (xs++(ys++zs)) w4/\KT w w4/\PrT go2 (ys++zs) (H++(r.take (j+1)).flatMap fun a=>Mt.alo c.x.k.P en T' a.td)):=hZq ⟨by rw[<-List.append_assoc];exact hs4,(uQ HKA).trans hk4,by rw[uQ HTK, <-List.append_assoc];exact (uQ HP).app hp4⟩
    clear HCC hs4 hk4 hp4 HKA HTK HP
    go_wp2
    go_roundw
    case rel=>exact ⟨j+1,go2,ys++zs,by omega,by go_num,rfl,HN⟩
    case measure=>simp[intOf];omega
  ·obtain rfl:j=M:=by omega
   have g0:=uQ HG0 go (xs++ys) wr hs
   have HBC:=hZq (uQ HBK go (xs++ys) wr hs)
   rw[<-uQ HM,List.take_length]at HP
   clear HRO HAL HBK HG0 hs HS
   go_wp2_with fail
   refine (uQ HBC).mono ?_
   rintro e w5 ⟨⟨v5,rfl⟩,hs5,hk5⟩
   have HF:Hid (EndS c T en xs w (H++r.flatMap fun a=>Mt.alo c.x.k.P en T' a.td) (.returned (.bool go)) w5):=hZq ⟨go,ys,rfl,hs5,(uQ HK).trans hk5,uQ HP⟩
   clear HBC hs5 hk5 HK HP
   go_wp2
   go_ret
   exact uQ HF
theorem q5X (c:SC)(hI:ScI c)(l:Nat)(hY:Ylds c l)(en:Nat)(hen:en<=c.x.k.es.length): ∀(m fs:Nat) (T:List (List Nat)) (t q:Nat),en-q<=m->(t=T.length\/t+1=T.length)->t<c.x.k.l.length->(∀l∈T,l≠[]/\l.length<=4096)->TOk fs (Mt.ext T t q)->en<=fs+c.x.W->q<en->q3m c l en T t q
 |0,fs,T,t,q,hm,_,_,_,_,_,hq=>by omega
 |m+1,fs,T,t,q,hm,ht,htl,hne,hT,hfw,hq=>by
  have hel:=hI.hX.hI.el
  have he:Mt.endT (Mt.ext T t q)=q:=Mt.endT_ext T t q
  refine q9H c hI l hY en fs T t q ht htl hne hT hen hfw hq (fun td q' h1 h2 h3 h4=>?_)
  refine q5X c hI l hY en hen m fs (Mt.ext T t q) td q' (by omega) h3 h4 (fun l hl=>?_) (hT.ext (by omega)) hfw h2
  have:=hT.ea l hl
  exact ⟨this.1,by omega⟩
theorem q8y (c:SC)(hI:ScI c)(l:Nat)(hY:Ylds c l)(en q:Nat)(hen:en<=c.x.k.es.length)(hfw:en<=q+c.x.W)(hq:q<en)(hN:0<c.x.k.l.length):q3m c l en [] 0 q:=
 q5X c hI l hY en hen (en-q) q [] 0 q (zM _) (Or.inl rfl) hN (by simp) (TOk.one q) hfw hq
theorem St.ask0 {c:SC}(hI:ScI c){go:Bool}{en:Nat}{xs:List Cp}{w:World}(h:St c go [] en xs w){q:Nat}(hN:0<c.x.k.l.length)(hq:q<c.x.k.es.length):
  Calls Tryz.prog 58 #[.pointer (some ⟨c.x.gx,0,none⟩), .int .i64 0, .int .i64 (q:Int)] w fun e w'=>e= .returned (.bool (c.x.k.P.H 0 [] q))/\St c go [] en xs w'/\KT w w':=by
 obtain ⟨pv,lv,vs,D,hS⟩:=h
 have ha:asT c.x.ss 0=[]:=by
  cases e:asT c.x.ss 0 with
  |nil=>rfl
  |cons a r=>
   have:=q5q hI.hX.hp 0 a (by rw[show c.x.k.p.ss=c.x.ss from rfl,e];simp)
   omega
 refine (q4v c.x hI.hX w [] pv lv vs hS.hk hS.nt (fun b hb hm=>(q18 hS.hk hm).ne (q20 hI hS.hk.kp hS.nt hb) (by decide) rfl) 0 q hN (by simp) (by simp) hq (by rw[ha];simp) (by rw[ha];exact hI.w1)).mono ?_
 rintro e w' ⟨rfl,hn,hk⟩
 obtain ⟨h1,h2⟩:=hS.note hI hn hk
 exact ⟨rfl,⟨pv,lv,vs,D,h1⟩,h2⟩
theorem StE.fall {c:SC}{go:Bool}{T:List (List Nat)}{en en' tl:Nat}{xs:List Cp}{pv lv:Value}{vs:List Value}{D:List (Option Nat)}{w:World}(h:StE c go T en tl xs pv lv vs D w)(hI:ScI c)(hD:(∀q b:Nat,D[q]?≠some (some b))\/(en'<=en/\en<=c.x.k.es.length)):StE c go T en' tl xs pv lv vs D (w.setCell ⟨c.gs,4,none⟩ (.int .i64 (en':Int)))/\KT w (w.setCell ⟨c.gs,4,none⟩ (.int .i64 (en':Int))):=by
 obtain ⟨h1,h2,h3,h4,h5,h6⟩:=h.gsb hI 4 (.int .i64 (en':Int))
 refine ⟨⟨h.bx.set 4 _,h1,h2,?_,h4,h.dj,h5⟩,h6⟩
 rcases hD with hD|⟨hD,hl⟩
 ·exact ⟨h3.row,h3.len,fun q b hb=>absurd hb (hD q b),h3.nd⟩
 ·exact h3.less (fun q s hs r hr y hy a b=>(hs r hr y hy a b).less hD hl)
theorem StE.drop {c:SC}{go:Bool}{T:List (List Nat)}{en tl:Nat}{xs:List Cp}{pv lv:Value}{vs:List Value}{D:List (Option Nat)}{w:World}(h:StE c go T en tl xs pv lv vs D w)(hI:ScI c)(q:Nat):StE c go T en tl xs pv lv vs (D.set q none) (w.setCell ⟨c.gd,q,none⟩ (.map none))/\KT w (w.setCell ⟨c.gd,q,none⟩ (.map none)):=by
 have hd:=h.dd.set (q:=q) none (fun b hb=>by cases hb)
 exact h.bury hI hd ((Kp.set w c.gd q (.map none)).mono (fun b hb=>by rw[zD]at hb;rw[hb];unfold ddF;simp))
def fnF (P:Mt.Pm)(wi x:Nat):List (List (List Nat)):=if P.H 0 [] x=true then Mt.all P (min (x+wi) P.len) [[x]] else []
def fnK (P:Mt.Pm)(wi k:Nat):List (List (List Nat)):=(List.range k).reverse.flatMap (fnF P wi)
theorem qd0 (P:Mt.Pm)(wi:Nat):Mt.fnd P wi=fnK P wi P.len:=Mt.fnd_all P wi
theorem qb8 (P:Mt.Pm)(wi k:Nat):fnK P wi (k+1)=fnF P wi k++fnK P wi k:=by
 unfold fnK
 rw[List.range_succ,List.reverse_append]
 rfl
def AllE (c:SC)(w:World)(e:Ending)(w':World):Prop:=(∃v,e= .returned v)/\ ∃go ys en,St c go [] en ys w'/\KT w w'/\PrT go ys (Mt.fnd c.x.k.P c.x.W)
structure AlS (c:SC)(w:World)(k:Nat)(ys:List Cp)(en:Nat)(pv lv:Value)(vs:List Value)(D:List (Option Nat))(wr:World):Prop where
 st:StE c true [] en ys.length ys pv lv vs D wr
 dd:(∀q b:Nat,D[q]?≠some (some b))\/(en=min (k+c.x.W) c.x.k.es.length)
 kt:KT w wr
 pr:Mt.fnd c.x.k.P c.x.W=ys.map (·.T)++fnK c.x.k.P c.x.W k
theorem AlS.cells {c:SC}(hI:ScI c){k:Nat}{ys:List Cp}{en:Nat}{pv lv:Value}{vs:List Value}{D:List (Option Nat)}{wr:World}(h:StE c true [] en k ys pv lv vs D wr):wr.cell? ⟨c.gs,0,none⟩=some (.pointer (some ⟨c.x.k.gt,0,none⟩))/\wr.cell? ⟨c.x.k.gt,1,none⟩=some (.int .i64 (c.x.W:Int))/\wr.cell? ⟨c.x.k.gt,2,none⟩=some (.slice c.x.k.ea c.x.k.es.length c.x.k.ec)/\wr.cell? ⟨c.gs,4,none⟩=some (.int .i64 (en:Int))/\wr.cell? ⟨c.gs,3,none⟩=some (.slice (some ⟨c.gd,0,none⟩) c.x.k.es.length c.x.k.es.length)/\wr.cell? ⟨c.gs,1,none⟩=some (.pointer (some ⟨c.x.gx,0,none⟩)):=by
 refine ⟨h.bx.cell rfl,?_,h.hk.box.cell rfl,h.bx.cell rfl,h.bx.cell rfl,h.bx.cell rfl⟩
 rw[<-hI.hX.wi]
 exact h.hk.box.cell rfl
theorem qcw (c:SC)(hI:ScI c)(l:Nat)(hY:Ylds c l)(hN:0<c.x.k.l.length)(hW:c.x.W<=100000000000)(pv lv:Value)(vs:List Value)(D:List (Option Nat))(w:World)(h:StE c true [] 0 0 [] pv lv vs D w)(hD: ∀q b:Nat,D[q]?≠some (some b)):
  Calls Tryz.prog 38 #[.pointer (some ⟨c.gs,0,none⟩), .func (.yield l) #[] #[]] w (AllE c w):=by
 have hel:=hI.hX.hI.el
 have hw1:=hI.w1
 obtain ⟨a0,a1,a2, -⟩:=AlS.cells hI h
 have H0:Hid (∃ys en pv lv vs D,AlS c w c.x.k.es.length ys en pv lv vs D w):=hZq ⟨[],0,pv,lv,vs,D,h,Or.inl hD,KT.refl _,qd0 _ _⟩
 have HIN:=hZq (fun (q:Nat) (hq:q<c.x.k.es.length)=>q8y c hI l hY (min (q+c.x.W) c.x.k.es.length) q (by omega) (by omega) (by omega) hN)
 have HAK:=hZq (fun (go:Bool) (en:Nat) (ys:List Cp) (W:World) (hs:St c go [] en ys W) (q:Nat) (hq:q<c.x.k.es.length)=>hs.ask0 hI hN hq)
 have HI:=hZq hI
 have HCE:=hZq (fun (k en:Nat) (ys:List Cp) (pv lv:Value) (vs:List Value) (D:List (Option Nat)) (wr:World) (h:StE c true [] en k ys pv lv vs D wr)=>AlS.cells hI h)
 clear hI hY h hD
 obtain ⟨EL,hEL⟩: ∃EL,c.x.k.es.length=EL:=⟨_,rfl⟩
 obtain ⟨WI,hWI⟩: ∃WI,c.x.W=WI:=⟨_,rfl⟩
 rw[hEL]at hel a2
 rw[hWI]at hw1 hW a1
 have HEL:=hZq hEL
 have HWI:=hZq hWI
 clear hEL hWI
 have hlw:IntKind.i64.wrap ((EL:Int)-1)=(EL:Int)-1:=by simp only[IntKind.wrap_i64];omega
 go_enter Tryz.func38,Tryz.ntmps38
 go_wp2_with fail
 go_loopw [4] (fun fv wr=> ∃k:Nat,k<=EL/\fv= .int .i64 ((k:Int)-1)/\Hid (∃ys en pv lv vs D,AlS c w k ys en pv lv vs D wr)) (fun fv _=>(intOf fv+1).toNat)
 case atStart=>exact ⟨EL,zM _,rfl,by rw[uQ HEL]at H0;exact H0⟩
 case round=>
  obtain ⟨k,hk,rfl,HR⟩:=hrel
  clear H0 a0 a1 a2
  obtain ⟨ys,en,pv,lv,vs,D,hA⟩:=uQ HR
  clear HR
  cases k with
  |zero=>
   have HF:Hid (∃go ys en,St c go [] en ys wr/\KT w wr/\PrT go ys (Mt.fnd c.x.k.P c.x.W)):=hZq ⟨true,ys,en,⟨pv,lv,vs,D,hA.st⟩,hA.kt,Or.inl ⟨rfl,by rw[hA.pr];exact (List.append_nil _).symm⟩⟩
   have hz: ¬ (0:Int)<=((0:Nat):Int)-1:=by omega
   clear hA HIN HAK HCE
   go_wp2
   go_end0
   exact ⟨⟨_,rfl⟩,uQ HF⟩
  |succ k=>
   have e1:((k+1:Nat):Int)-1=(k:Int):=by omega
   rw[e1]
   have hki:(0:Int)<=(k:Int):=by omega
   have hkw:IntKind.i64.wrap ((k:Int)+(WI:Int))=(k:Int)+(WI:Int):=by simp only[IntKind.wrap_i64];omega
   obtain ⟨V,hV⟩: ∃V,V=wr.drew:=⟨_,rfl⟩
   have kV:Kp [] wr V:=by rw[hV];exact Kp.drew _
   have hSV:=hA.st.al (uQ HI) kV
   obtain ⟨b0,b1,b2,b4,b3, -⟩:=uQ HCE _ _ _ _ _ _ _ _ hSV
   rw[uQ HEL]at b2 b3
   rw[uQ HWI]at b1
   obtain ⟨E,hE⟩: ∃E,E=min (k+WI) EL:=⟨_,rfl⟩
   have hmin:min ((k:Int)+(WI:Int)) (EL:Int)=(E:Int):=by omega
   obtain ⟨hS4,kt4⟩:=hSV.fall (uQ HI) (en':=E) (hA.dd.imp id (fun e=>by rw[uQ HEL,uQ HWI]at e;rw[uQ HEL];omega))
   have HE:=hZq hE
   have hEk:k<E:=by omega
   have hEL2:E<=EL:=by omega
   clear hE
   obtain ⟨d0,d1,d2,d4,d3,dx⟩:=uQ HCE _ _ _ _ _ _ _ _ hS4
   rw[uQ HEL]at d2 d3
   rw[uQ HWI]at d1
   have f4:=hSV.bx.froz 4
   have HS3:=And.intro d0 (And.intro d1 d2)
   have HS4:=hZq hS4
   go_upto_region 3 with fail
   refine wp_region_held_drew (S:=fun W=>W.cell? ⟨c.gs,0,none⟩=some (.pointer (some ⟨c.x.k.gt,0,none⟩))/\W.cell? ⟨c.x.k.gt,1,none⟩=some (.int .i64 (WI:Int))/\W.cell? ⟨c.x.k.gt,2,none⟩=some (.slice c.x.k.ea EL c.x.k.ec)) (by kernel_rfl) (by rw[<-hV];exact ⟨b0,b1,b2⟩) (fun hHeld=>?_)
   rw[<-hV]at hHeld ⊢
   clear hV
   show wpAnyH _ _ _ _ _ 23 (Array.replicate 23 false) _ _
   refine wpAnyH_take (i:=0) (oi:=⟨some 18,Op.move (.tmp 0),81,"search.go:50",#[],none⟩) (v:=?_) rfl (by kernel_rfl) (by kernel_rfl) (by kernel_rfl) (fun _ _ _ h=>h) (Or.inl ⟨by rfl,?_⟩) (by assumption) ?_
   rotate_left
   ·intro w0 s9
    (try dsimp only at s9)
    go_simp
    (try with_reducible rfl)
   try simp only[Act.put,zz1,zz2,zz3]
   refine wpAnyH_take (i:=1) (oi:=⟨some 19,Op.move (.tmp 4),3,"search.go:50",#[],none⟩) (v:=?_) rfl (by kernel_rfl) (by kernel_rfl) (by kernel_rfl) (fun _ _ _ h=>h) (Or.inl ⟨by rfl,?_⟩) (by assumption) ?_
   rotate_left
   ·intro w0 s9
    (try dsimp only at s9)
    go_simp
    (try with_reducible rfl)
   try simp only[Act.put,zz1,zz2,zz3]
   refine wpAnyH_take (i:=2) (oi:=⟨some 20,Op.move (.tmp 0),81,"search.go:50",#[],none⟩) (v:=?_) rfl (by kernel_rfl) (by kernel_rfl) (by kernel_rfl) (fun _ _ _ h=>h) (Or.inl ⟨by rfl,?_⟩) (by assumption) ?_
   rotate_left
   ·intro w0 s9
    (try dsimp only at s9)
    go_simp
    (try with_reducible rfl)
   try simp only[Act.put,zz1,zz2,zz3]
   refine wpAnyH_take (i:=3) (oi:=⟨some 21,Op.nilCheck (.tmp 20),0,"search.go:50",#[⟨2, .data⟩],none⟩) (v:=?_) rfl (by kernel_rfl) (by kernel_rfl) (by kernel_rfl) (fun _ _ _ h=>h) (Or.inl ⟨by rfl,?_⟩) (by assumption) ?_
   rotate_left
   ·intro w0 s9
    (try dsimp only at s9)
    go_simp
    (try with_reducible rfl)
   try simp only[Act.put,zz1,zz2,zz3]
   refine wpAnyH_take (i:=4) (oi:=⟨some 22,Op.fieldAddr 111 (.tmp 21) 0,0,"search.go:50",#[⟨3, .data⟩],none⟩) (v:=?_) rfl (by kernel_rfl) (by kernel_rfl) (by kernel_rfl) (fun _ _ _ h=>h) (Or.inl ⟨by rfl,?_⟩) (by assumption) ?_
   rotate_left
   ·intro w0 s9
    (try dsimp only at s9)
    go_simp
    (try with_reducible rfl)
   try simp only[Act.put,zz1,zz2,zz3]
   refine wpAnyH_take (i:=5) (oi:=⟨some 23,Op.load 89 (.tmp 22),89,"search.go:50",#[⟨4, .data⟩],none⟩) (v:=?_) rfl (by kernel_rfl) (by kernel_rfl) (by kernel_rfl) (fun _ _ _ h=>h) (Or.inl ⟨by rfl,?_⟩) (by assumption) ?_
   rotate_left
   ·intro w0 s9
    (try dsimp only at s9)
    go_simp
    (try with_reducible rfl)
   try simp only[Act.put,zz1,zz2,zz3]
   refine wpAnyH_take (i:=6) (oi:=⟨some 24,Op.nilCheck (.tmp 23),0,"search.go:50",#[⟨5, .data⟩],none⟩) (v:=?_) rfl (by kernel_rfl) (by kernel_rfl) (by kernel_rfl) (fun _ _ _ h=>h) (Or.inl ⟨by rfl,?_⟩) (by assumption) ?_
   rotate_left
   ·intro w0 s9
    (try dsimp only at s9)
    go_simp
    (try with_reducible rfl)
   try simp only[Act.put,zz1,zz2,zz3]
   refine wpAnyH_take (i:=7) (oi:=⟨some 25,Op.fieldAddr 113 (.tmp 24) 0,0,"search.go:50",#[⟨6, .data⟩],none⟩) (v:=?_) rfl (by kernel_rfl) (by kernel_rfl) (by kernel_rfl) (fun _ _ _ h=>h) (Or.inl ⟨by rfl,?_⟩) (by assumption) ?_
   rotate_left
   ·intro w0 s9
    (try dsimp only at s9)
    go_simp
    (try with_reducible rfl)
   try simp only[Act.put,zz1,zz2,zz3]
   refine wpAnyH_take (i:=8) (oi:=⟨some 26,Op.fieldAddr 24 (.tmp 25) 1,0,"search.go:50",#[⟨7, .data⟩],none⟩) (v:=?_) rfl (by kernel_rfl) (by kernel_rfl) (by kernel_rfl) (fun _ _ _ h=>h) (Or.inl ⟨by rfl,?_⟩) (by assumption) ?_
   rotate_left
   ·intro w0 s9
    (try dsimp only at s9)
    go_simp
    (try with_reducible rfl)
   try simp only[Act.put,zz1,zz2,zz3]
   refine wpAnyH_take (i:=9) (oi:=⟨some 27,Op.load 3 (.tmp 26),3,"search.go:50",#[⟨8, .data⟩],none⟩) (v:=?_) rfl (by kernel_rfl) (by kernel_rfl) (by kernel_rfl) (fun _ _ _ h=>h) (Or.inl ⟨by rfl,?_⟩) (by assumption) ?_
   rotate_left
   ·intro w0 s9
    (try dsimp only at s9)
    go_simp
    (try with_reducible rfl)
   try simp only[Act.put,zz1,zz2,zz3]
   refine wpAnyH_take (i:=10) (oi:=⟨some 28,Op.binOp BinOp.add 3 (.tmp 19) (.tmp 27) 3,3,"search.go:50",#[⟨1, .data⟩,⟨9, .data⟩],none⟩) (v:=?_) rfl (by kernel_rfl) (by kernel_rfl) (by kernel_rfl) (fun _ _ _ h=>h) (Or.inl ⟨by rfl,?_⟩) (by assumption) ?_
   rotate_left
   ·intro w0 s9
    (try dsimp only at s9)
    go_simp
    (try with_reducible rfl)
   try simp only[Act.put,zz1,zz2,zz3]
   refine wpAnyH_take (i:=11) (oi:=⟨some 29,Op.move (.tmp 0),81,"search.go:50",#[],none⟩) (v:=?_) rfl (by kernel_rfl) (by kernel_rfl) (by kernel_rfl) (fun _ _ _ h=>h) (Or.inl ⟨by rfl,?_⟩) (by assumption) ?_
   rotate_left
   ·intro w0 s9
    (try dsimp only at s9)
    go_simp
    (try with_reducible rfl)
   try simp only[Act.put,zz1,zz2,zz3]
   refine wpAnyH_take (i:=12) (oi:=⟨some 30,Op.nilCheck (.tmp 29),0,"search.go:50",#[⟨11, .data⟩],none⟩) (v:=?_) rfl (by kernel_rfl) (by kernel_rfl) (by kernel_rfl) (fun _ _ _ h=>h) (Or.inl ⟨by rfl,?_⟩) (by assumption) ?_
   rotate_left
   ·intro w0 s9
    (try dsimp only at s9)
    go_simp
    (try with_reducible rfl)
   try simp only[Act.put,zz1,zz2,zz3]
   refine wpAnyH_take (i:=13) (oi:=⟨some 31,Op.fieldAddr 111 (.tmp 30) 0,0,"search.go:50",#[⟨12, .data⟩],none⟩) (v:=?_) rfl (by kernel_rfl) (by kernel_rfl) (by kernel_rfl) (fun _ _ _ h=>h) (Or.inl ⟨by rfl,?_⟩) (by assumption) ?_
   rotate_left
   ·intro w0 s9
    (try dsimp only at s9)
    go_simp
    (try with_reducible rfl)
   try simp only[Act.put,zz1,zz2,zz3]
   refine wpAnyH_take (i:=14) (oi:=⟨some 32,Op.load 89 (.tmp 31),89,"search.go:50",#[⟨13, .data⟩],none⟩) (v:=?_) rfl (by kernel_rfl) (by kernel_rfl) (by kernel_rfl) (fun _ _ _ h=>h) (Or.inl ⟨by rfl,?_⟩) (by assumption) ?_
   rotate_left
   ·intro w0 s9
    (try dsimp only at s9)
    go_simp
    (try with_reducible rfl)
   try simp only[Act.put,zz1,zz2,zz3]
   refine wpAnyH_take (i:=15) (oi:=⟨some 33,Op.nilCheck (.tmp 32),0,"search.go:50",#[⟨14, .data⟩],none⟩) (v:=?_) rfl (by kernel_rfl) (by kernel_rfl) (by kernel_rfl) (fun _ _ _ h=>h) (Or.inl ⟨by rfl,?_⟩) (by assumption) ?_
   rotate_left
   ·intro w0 s9
    (try dsimp only at s9)
    go_simp
    (try with_reducible rfl)
   try simp only[Act.put,zz1,zz2,zz3]
   refine wpAnyH_take (i:=16) (oi:=⟨some 34,Op.fieldAddr 113 (.tmp 33) 1,0,"search.go:50",#[⟨15, .data⟩],none⟩) (v:=?_) rfl (by kernel_rfl) (by kernel_rfl) (by kernel_rfl) (fun _ _ _ h=>h) (Or.inl ⟨by rfl,?_⟩) (by assumption) ?_
   rotate_left
   ·intro w0 s9
    (try dsimp only at s9)
    go_simp
    (try with_reducible rfl)
   try simp only[Act.put,zz1,zz2,zz3]
   refine wpAnyH_take (i:=17) (oi:=⟨some 35,Op.load 25 (.tmp 34),25,"search.go:50",#[⟨16, .data⟩],none⟩) (v:=?_) rfl (by kernel_rfl) (by kernel_rfl) (by kernel_rfl) (fun _ _ _ h=>h) (Or.inl ⟨by rfl,?_⟩) (by assumption) ?_
   rotate_left
   ·intro w0 s9
    (try dsimp only at s9)
    go_simp
    (try with_reducible rfl)
   try simp only[Act.put,zz1,zz2,zz3]
   refine wpAnyH_take (i:=18) (oi:=⟨some 36,Op.call { callee:= .builtin Builtin.len,args:=#[.tmp 35],argTypes:=#[25] },3,"search.go:50",#[⟨17, .data⟩],none⟩) (v:=?_) rfl (by kernel_rfl) (by kernel_rfl) (by kernel_rfl) (fun _ _ _ h=>h) (Or.inl ⟨by rfl,?_⟩) (by assumption) ?_
   rotate_left
   ·intro w0 s9
    (try dsimp only at s9)
    go_simp
    (try with_reducible rfl)
   try simp only[Act.put,zz1,zz2,zz3]
   refine wpAnyH_take (i:=19) (oi:=⟨some 37,Op.call { callee:= .builtin Builtin.min,args:=#[.tmp 28, .tmp 36],argTypes:=#[3,3] },3,"search.go:50",#[⟨10, .data⟩,⟨18, .data⟩],none⟩) (v:=?_) rfl (by kernel_rfl) (by kernel_rfl) (by kernel_rfl) (fun _ _ _ h=>h) (Or.inl ⟨by rfl,?_⟩) (by assumption) ?_
   rotate_left
   ·intro w0 s9
    (try dsimp only at s9)
    go_simp
    (try with_reducible rfl)
   try simp only[Act.put,zz1,zz2,zz3]
   refine wpAnyH_take (i:=20) (oi:=⟨some 38,Op.nilCheck (.tmp 18),0,"search.go:50",#[⟨0, .data⟩,⟨0, .phase⟩,⟨1, .phase⟩,⟨2, .phase⟩,⟨3, .phase⟩,⟨4, .phase⟩,⟨5, .phase⟩,⟨6, .phase⟩,⟨7, .phase⟩,⟨8, .phase⟩,⟨9, .phase⟩,⟨10, .phase⟩,⟨11, .phase⟩,⟨12, .phase⟩,⟨13, .phase⟩,⟨14, .phase⟩,⟨15, .phase⟩,⟨16, .phase⟩,⟨17, .phase⟩,⟨18, .phase⟩,⟨19, .phase⟩],none⟩) (v:=?_) rfl (by kernel_rfl) (by kernel_rfl) (by kernel_rfl) (fun _ _ _ h=>h) (Or.inl ⟨by rfl,?_⟩) (by assumption) ?_
   rotate_left
   ·intro w0 s9
    (try dsimp only at s9)
    go_simp
    (try with_reducible rfl)
   try simp only[Act.put,zz1,zz2,zz3]
   refine wpAnyH_take (i:=21) (oi:=⟨some 39,Op.fieldAddr 111 (.tmp 38) 4,0,"search.go:50",#[⟨20, .data⟩,⟨0, .phase⟩,⟨1, .phase⟩,⟨2, .phase⟩,⟨3, .phase⟩,⟨4, .phase⟩,⟨5, .phase⟩,⟨6, .phase⟩,⟨7, .phase⟩,⟨8, .phase⟩,⟨9, .phase⟩,⟨10, .phase⟩,⟨11, .phase⟩,⟨12, .phase⟩,⟨13, .phase⟩,⟨14, .phase⟩,⟨15, .phase⟩,⟨16, .phase⟩,⟨17, .phase⟩,⟨18, .phase⟩,⟨19, .phase⟩],none⟩) (v:=?_) rfl (by kernel_rfl) (by kernel_rfl) (by kernel_rfl) (fun _ _ _ h=>h) (Or.inl ⟨by rfl,?_⟩) (by assumption) ?_
   rotate_left
   ·intro w0 s9
    (try dsimp only at s9)
    go_simp
    (try with_reducible rfl)
   try simp only[Act.put,zz1,zz2,zz3]
   refine wpAnyH_ready (rs:=[22]) (by kernel_rfl) (by simp) ?_
   refine AllReadyH.cons (o:=⟨none,Op.store 3 (.tmp 39) (.tmp 37),0,"search.go:50",#[⟨21, .data⟩,⟨19, .data⟩,⟨0, .phase⟩,⟨1, .phase⟩,⟨2, .phase⟩,⟨3, .phase⟩,⟨4, .phase⟩,⟨5, .phase⟩,⟨6, .phase⟩,⟨7, .phase⟩,⟨8, .phase⟩,⟨9, .phase⟩,⟨10, .phase⟩,⟨11, .phase⟩,⟨12, .phase⟩,⟨13, .phase⟩,⟨14, .phase⟩,⟨15, .phase⟩,⟨16, .phase⟩,⟨17, .phase⟩,⟨18, .phase⟩,⟨19, .phase⟩],none⟩) rfl (fun K hK=>?_) AllReadyH.nil
   go_simp
   skip
   refine hK.out _ _ ?_ (fun hHeld=>?_)
   ·exact HS3
   clear hK K
   try simp only[Act.put,zz1,zz2,zz3]
   refine wpAnyH_done (by kernel_rfl) ?_ _
   obtain ⟨W4,hW4⟩: ∃W4,W4=V.setCell ⟨c.gs,4,none⟩ (.int .i64 (E:Int)):=⟨_,rfl⟩
   rw[<-hW4]at HS4 kt4 ⊢
   have HA:=hZq hA
   have HKR:Hid (KT wr W4):=hZq ((KT.own kV (by simp)).trans kt4)
   clear hW4 hS4 kt4 hSV kV HS3 b0 b1 b2 b3 b4 d0 d1 d2 d3 d4 dx f4 hA hHeld hmin
   obtain ⟨V5,hV5⟩: ∃V5,V5=W4.drew:=⟨_,rfl⟩
   have k5:Kp [] W4 V5:=by rw[hV5];exact Kp.drew _
   have hS5:=(uQ HS4).al (uQ HI) k5
   obtain ⟨b0,b1,b2,b4,b3, -⟩:=uQ HCE _ _ _ _ _ _ _ _ hS5
   rw[uQ HEL]at b2 b3
   have HK5:Hid (KT wr V5):=hZq ((uQ HKR).trans (KT.own k5 (by simp)))
   have HS5:=hZq hS5
   clear HS4 HKR k5
   go_upto_region 4 with fail
   refine wp_region_held_drew (S:=fun W=>W.cell? ⟨c.gs,0,none⟩=some (.pointer (some ⟨c.x.k.gt,0,none⟩))/\W.cell? ⟨c.gs,4,none⟩=some (.int .i64 (E:Int))/\W.cell? ⟨c.x.k.gt,2,none⟩=some (.slice c.x.k.ea EL c.x.k.ec)) (by kernel_rfl) (by rw[<-hV5];exact ⟨b0,b4,b2⟩) (fun hHeld=>?_)
   rw[<-hV5]at hHeld ⊢
   clear hV5
   show wpAnyH _ _ _ _ _ 13 (Array.replicate 13 false) _ _
   refine wpAnyH_take (i:=0) (oi:=⟨some 40,Op.move (.tmp 0),81,"search.go:51",#[],none⟩) (v:=?_) rfl (by kernel_rfl) (by kernel_rfl) (by kernel_rfl) (fun _ _ _ h=>h) (Or.inl ⟨by rfl,?_⟩) (by assumption) ?_
   rotate_left
   ·intro w0 s9
    (try dsimp only at s9)
    go_simp
    (try with_reducible rfl)
   try simp only[Act.put,zz1,zz2,zz3]
   refine wpAnyH_take (i:=1) (oi:=⟨some 41,Op.nilCheck (.tmp 40),0,"search.go:51",#[⟨0, .data⟩],none⟩) (v:=?_) rfl (by kernel_rfl) (by kernel_rfl) (by kernel_rfl) (fun _ _ _ h=>h) (Or.inl ⟨by rfl,?_⟩) (by assumption) ?_
   rotate_left
   ·intro w0 s9
    (try dsimp only at s9)
    go_simp
    (try with_reducible rfl)
   try simp only[Act.put,zz1,zz2,zz3]
   refine wpAnyH_take (i:=2) (oi:=⟨some 42,Op.fieldAddr 111 (.tmp 41) 4,0,"search.go:51",#[⟨1, .data⟩],none⟩) (v:=?_) rfl (by kernel_rfl) (by kernel_rfl) (by kernel_rfl) (fun _ _ _ h=>h) (Or.inl ⟨by rfl,?_⟩) (by assumption) ?_
   rotate_left
   ·intro w0 s9
    (try dsimp only at s9)
    go_simp
    (try with_reducible rfl)
   try simp only[Act.put,zz1,zz2,zz3]
   refine wpAnyH_take (i:=3) (oi:=⟨some 43,Op.load 3 (.tmp 42),3,"search.go:51",#[⟨2, .data⟩],none⟩) (v:=?_) rfl (by kernel_rfl) (by kernel_rfl) (by kernel_rfl) (fun _ _ _ h=>h) (Or.inl ⟨by rfl,?_⟩) (by assumption) ?_
   rotate_left
   ·intro w0 s9
    (try dsimp only at s9)
    go_simp
    (try with_reducible rfl)
   try simp only[Act.put,zz1,zz2,zz3]
   refine wpAnyH_take (i:=4) (oi:=⟨some 44,Op.move (.tmp 0),81,"search.go:51",#[],none⟩) (v:=?_) rfl (by kernel_rfl) (by kernel_rfl) (by kernel_rfl) (fun _ _ _ h=>h) (Or.inl ⟨by rfl,?_⟩) (by assumption) ?_
   rotate_left
   ·intro w0 s9
    (try dsimp only at s9)
    go_simp
    (try with_reducible rfl)
   try simp only[Act.put,zz1,zz2,zz3]
   refine wpAnyH_take (i:=5) (oi:=⟨some 45,Op.nilCheck (.tmp 44),0,"search.go:51",#[⟨4, .data⟩],none⟩) (v:=?_) rfl (by kernel_rfl) (by kernel_rfl) (by kernel_rfl) (fun _ _ _ h=>h) (Or.inl ⟨by rfl,?_⟩) (by assumption) ?_
   rotate_left
   ·intro w0 s9
    (try dsimp only at s9)
    go_simp
    (try with_reducible rfl)
   try simp only[Act.put,zz1,zz2,zz3]
   refine wpAnyH_take (i:=6) (oi:=⟨some 46,Op.fieldAddr 111 (.tmp 45) 0,0,"search.go:51",#[⟨5, .data⟩],none⟩) (v:=?_) rfl (by kernel_rfl) (by kernel_rfl) (by kernel_rfl) (fun _ _ _ h=>h) (Or.inl ⟨by rfl,?_⟩) (by assumption) ?_
   rotate_left
   ·intro w0 s9
    (try dsimp only at s9)
    go_simp
    (try with_reducible rfl)
   try simp only[Act.put,zz1,zz2,zz3]
   refine wpAnyH_take (i:=7) (oi:=⟨some 47,Op.load 89 (.tmp 46),89,"search.go:51",#[⟨6, .data⟩],none⟩) (v:=?_) rfl (by kernel_rfl) (by kernel_rfl) (by kernel_rfl) (fun _ _ _ h=>h) (Or.inl ⟨by rfl,?_⟩) (by assumption) ?_
   rotate_left
   ·intro w0 s9
    (try dsimp only at s9)
    go_simp
    (try with_reducible rfl)
   try simp only[Act.put,zz1,zz2,zz3]
   refine wpAnyH_take (i:=8) (oi:=⟨some 48,Op.nilCheck (.tmp 47),0,"search.go:51",#[⟨7, .data⟩],none⟩) (v:=?_) rfl (by kernel_rfl) (by kernel_rfl) (by kernel_rfl) (fun _ _ _ h=>h) (Or.inl ⟨by rfl,?_⟩) (by assumption) ?_
   rotate_left
   ·intro w0 s9
    (try dsimp only at s9)
    go_simp
    (try with_reducible rfl)
   try simp only[Act.put,zz1,zz2,zz3]
   refine wpAnyH_take (i:=9) (oi:=⟨some 49,Op.fieldAddr 113 (.tmp 48) 1,0,"search.go:51",#[⟨8, .data⟩],none⟩) (v:=?_) rfl (by kernel_rfl) (by kernel_rfl) (by kernel_rfl) (fun _ _ _ h=>h) (Or.inl ⟨by rfl,?_⟩) (by assumption) ?_
   rotate_left
   ·intro w0 s9
    (try dsimp only at s9)
    go_simp
    (try with_reducible rfl)
   try simp only[Act.put,zz1,zz2,zz3]
   refine wpAnyH_take (i:=10) (oi:=⟨some 50,Op.load 25 (.tmp 49),25,"search.go:51",#[⟨9, .data⟩],none⟩) (v:=?_) rfl (by kernel_rfl) (by kernel_rfl) (by kernel_rfl) (fun _ _ _ h=>h) (Or.inl ⟨by rfl,?_⟩) (by assumption) ?_
   rotate_left
   ·intro w0 s9
    (try dsimp only at s9)
    go_simp
    (try with_reducible rfl)
   try simp only[Act.put,zz1,zz2,zz3]
   refine wpAnyH_take (i:=11) (oi:=⟨some 51,Op.call { callee:= .builtin Builtin.len,args:=#[.tmp 50],argTypes:=#[25] },3,"search.go:51",#[⟨10, .data⟩],none⟩) (v:=?_) rfl (by kernel_rfl) (by kernel_rfl) (by kernel_rfl) (fun _ _ _ h=>h) (Or.inl ⟨by rfl,?_⟩) (by assumption) ?_
   rotate_left
   ·intro w0 s9
    (try dsimp only at s9)
    go_simp
    (try with_reducible rfl)
   try simp only[Act.put,zz1,zz2,zz3]
   refine wpAnyH_take (i:=12) (oi:=⟨some 52,Op.binOp BinOp.lss 3 (.tmp 43) (.tmp 51) 3,4,"search.go:51",#[⟨3, .data⟩,⟨11, .data⟩],none⟩) (v:=?_) rfl (by kernel_rfl) (by kernel_rfl) (by kernel_rfl) (fun _ _ _ h=>h) (Or.inl ⟨by rfl,?_⟩) (by assumption) ?_
   rotate_left
   ·intro w0 s9
    (try dsimp only at s9)
    go_simp
    (try with_reducible rfl)
   try simp only[Act.put,zz1,zz2,zz3]
   refine wpAnyH_done (by kernel_rfl) ?_ _
   clear hHeld b0 b1 b2 b3 b4
   go_upto_if 52 with fail
   go_cut [] (fun wc=> ∃D',Hid (StE c true [] E ys.length ys pv lv vs D' wc/\KT wr wc))
   case first=>
    by_cases hlt:E<EL
    ·have hli:(E:Int)<(EL:Int):=by omega
     obtain ⟨V6,hV6⟩: ∃V6,V6=V5.drew:=⟨_,rfl⟩
     have k6:Kp [] V5 V6:=by rw[hV6];exact Kp.drew _
     have hS6:=(uQ HS5).al (uQ HI) k6
     obtain ⟨b0,b1,b2,b4,b3, -⟩:=uQ HCE _ _ _ _ _ _ _ _ hS6
     rw[uQ HEL]at b3
     obtain ⟨hS7,kt7⟩:=hS6.drop (uQ HI) E
     obtain ⟨d0,d1,d2,d4,d3,dx⟩:=uQ HCE _ _ _ _ _ _ _ _ hS7
     rw[uQ HEL]at d3
     obtain ⟨o,ho⟩: ∃o,D[E]?=some o:=⟨_,zE (by rw[hS6.dd.len,uQ HEL];exact hlt)⟩
     have fc:=hS6.dd.at ho
     have fz:=hS6.dd.row.froz E
     have HS5:=And.intro d3 d4
     have HF:Hid (StE c true [] E ys.length ys pv lv vs (D.set E none) (V6.setCell ⟨c.gd,E,none⟩ (.map none))/\KT wr (V6.setCell ⟨c.gd,E,none⟩ (.map none))):=hZq ⟨hS7,((uQ HK5).trans (KT.own k6 (by simp))).trans kt7⟩
     go_upto_region 5 with fail
     refine wp_region_held_drew (S:=fun W=>W.cell? ⟨c.gs,3,none⟩=some (.slice (some ⟨c.gd,0,none⟩) EL EL)/\W.cell? ⟨c.gs,4,none⟩=some (.int .i64 (E:Int))) (by kernel_rfl) (by rw[<-hV6];exact ⟨b3,b4⟩) (fun hHeld=>?_)
     rw[<-hV6]at hHeld ⊢
     clear hV6
     show wpAnyH _ _ _ _ _ 10 (Array.replicate 10 false) _ _
     refine wpAnyH_take (i:=0) (oi:=⟨some 53,Op.move (.tmp 0),81,"search.go:52",#[],none⟩) (v:=?_) rfl (by kernel_rfl) (by kernel_rfl) (by kernel_rfl) (fun _ _ _ h=>h) (Or.inl ⟨by rfl,?_⟩) (by assumption) ?_
     rotate_left
     ·intro w0 s9
      (try dsimp only at s9)
      go_simp
      (try with_reducible rfl)
     try simp only[Act.put,zz1,zz2,zz3]
     refine wpAnyH_take (i:=1) (oi:=⟨some 54,Op.nilCheck (.tmp 53),0,"search.go:52",#[⟨0, .data⟩],none⟩) (v:=?_) rfl (by kernel_rfl) (by kernel_rfl) (by kernel_rfl) (fun _ _ _ h=>h) (Or.inl ⟨by rfl,?_⟩) (by assumption) ?_
     rotate_left
     ·intro w0 s9
      (try dsimp only at s9)
      go_simp
      (try with_reducible rfl)
     try simp only[Act.put,zz1,zz2,zz3]
     refine wpAnyH_take (i:=2) (oi:=⟨some 55,Op.fieldAddr 111 (.tmp 54) 3,0,"search.go:52",#[⟨1, .data⟩],none⟩) (v:=?_) rfl (by kernel_rfl) (by kernel_rfl) (by kernel_rfl) (fun _ _ _ h=>h) (Or.inl ⟨by rfl,?_⟩) (by assumption) ?_
     rotate_left
     ·intro w0 s9
      (try dsimp only at s9)
      go_simp
      (try with_reducible rfl)
     try simp only[Act.put,zz1,zz2,zz3]
     refine wpAnyH_take (i:=3) (oi:=⟨some 56,Op.load 109 (.tmp 55),109,"search.go:52",#[⟨2, .data⟩],none⟩) (v:=?_) rfl (by kernel_rfl) (by kernel_rfl) (by kernel_rfl) (fun _ _ _ h=>h) (Or.inl ⟨by rfl,?_⟩) (by assumption) ?_
     rotate_left
     ·intro w0 s9
      (try dsimp only at s9)
      go_simp
      (try with_reducible rfl)
     try simp only[Act.put,zz1,zz2,zz3]
     refine wpAnyH_take (i:=4) (oi:=⟨some 57,Op.move (.tmp 0),81,"search.go:52",#[],none⟩) (v:=?_) rfl (by kernel_rfl) (by kernel_rfl) (by kernel_rfl) (fun _ _ _ h=>h) (Or.inl ⟨by rfl,?_⟩) (by assumption) ?_
     rotate_left
     ·intro w0 s9
      (try dsimp only at s9)
      go_simp
      (try with_reducible rfl)
     try simp only[Act.put,zz1,zz2,zz3]
     refine wpAnyH_take (i:=5) (oi:=⟨some 58,Op.nilCheck (.tmp 57),0,"search.go:52",#[⟨4, .data⟩],none⟩) (v:=?_) rfl (by kernel_rfl) (by kernel_rfl) (by kernel_rfl) (fun _ _ _ h=>h) (Or.inl ⟨by rfl,?_⟩) (by assumption) ?_
     rotate_left
     ·intro w0 s9
      (try dsimp only at s9)
      go_simp
      (try with_reducible rfl)
     try simp only[Act.put,zz1,zz2,zz3]
     refine wpAnyH_take (i:=6) (oi:=⟨some 59,Op.fieldAddr 111 (.tmp 58) 4,0,"search.go:52",#[⟨5, .data⟩],none⟩) (v:=?_) rfl (by kernel_rfl) (by kernel_rfl) (by kernel_rfl) (fun _ _ _ h=>h) (Or.inl ⟨by rfl,?_⟩) (by assumption) ?_
     rotate_left
     ·intro w0 s9
      (try dsimp only at s9)
      go_simp
      (try with_reducible rfl)
     try simp only[Act.put,zz1,zz2,zz3]
     refine wpAnyH_take (i:=7) (oi:=⟨some 60,Op.load 3 (.tmp 59),3,"search.go:52",#[⟨6, .data⟩],none⟩) (v:=?_) rfl (by kernel_rfl) (by kernel_rfl) (by kernel_rfl) (fun _ _ _ h=>h) (Or.inl ⟨by rfl,?_⟩) (by assumption) ?_
     rotate_left
     ·intro w0 s9
      (try dsimp only at s9)
      go_simp
      (try with_reducible rfl)
     try simp only[Act.put,zz1,zz2,zz3]
     refine wpAnyH_take (i:=8) (oi:=⟨some 61,Op.indexAddr 109 (.tmp 56) (.tmp 60),0,"search.go:52",#[⟨3, .data⟩,⟨7, .data⟩,⟨0, .phase⟩,⟨1, .phase⟩,⟨2, .phase⟩,⟨3, .phase⟩,⟨4, .phase⟩,⟨5, .phase⟩,⟨6, .phase⟩,⟨7, .phase⟩],none⟩) (v:=?_) rfl (by kernel_rfl) (by kernel_rfl) (by kernel_rfl) (fun _ _ _ h=>h) (Or.inl ⟨by rfl,?_⟩) (by assumption) ?_
     rotate_left
     ·intro w0 s9
      (try dsimp only at s9)
      go_simp
      (try with_reducible rfl)
     try simp only[Act.put,zz1,zz2,zz3]
     refine wpAnyH_ready (rs:=[9]) (by kernel_rfl) (by simp) ?_
     refine AllReadyH.cons (o:=⟨none,Op.store 114 (.tmp 61) (.const (Value.map none)),0,"search.go:52",#[⟨8, .data⟩,⟨0, .phase⟩,⟨1, .phase⟩,⟨2, .phase⟩,⟨3, .phase⟩,⟨4, .phase⟩,⟨5, .phase⟩,⟨6, .phase⟩,⟨7, .phase⟩],none⟩) rfl (fun K hK=>?_) AllReadyH.nil
     go_simp
     skip
     refine hK.out _ _ ?_ (fun hHeld=>?_)
     ·exact HS5
     clear hK K
     try simp only[Act.put,zz1,zz2,zz3]
     refine wpAnyH_done (by kernel_rfl) ?_ _
     clear hHeld b0 b1 b2 b3 b4 hS6 hS7 k6 kt7 d0 d1 d2 d3 d4 dx fc fz ho HS5
     go_wp2
     go_meet
     exact ⟨_,HF⟩
    ·have hli: ¬ (E:Int)<(EL:Int):=by omega
     have HF:Hid (StE c true [] E ys.length ys pv lv vs D V5/\KT wr V5):=hZq ⟨uQ HS5,uQ HK5⟩
     clear HS5 HK5
     go_wp2
     go_meet
     exact ⟨_,HF⟩
   case rest=>
   obtain ⟨D',HC⟩:=hcut
   clear HS5 HK5
   obtain ⟨hSc,hkc⟩:=uQ HC
   have g1:=hSc.bx.cell (i:=1) (v:= .pointer (some ⟨c.x.gx,0,none⟩)) rfl
   have hkl:k<c.x.k.es.length:=by rw[uQ HEL];omega
   have XH:=hZq (uQ HAK true E ys wc ⟨pv,lv,vs,D',hSc⟩ k hkl)
   have HKC:Hid (KT w wc):=hZq ((uQ HA).kt.trans hkc)
   have HPR:Hid (Mt.fnd c.x.k.P c.x.W=ys.map (·.T)++(fnF c.x.k.P c.x.W k++fnK c.x.k.P c.x.W k)):=hZq (by rw[<-qb8];exact (uQ HA).pr)
   have HEM:Hid (E=min (k+c.x.W) c.x.k.es.length):=hZq (by rw[uQ HWI,uQ HEL];exact uQ HE)
   have HIC:Hid (∀W,St c true [] E ys W->Calls Tryz.prog 59 #[.pointer (some ⟨c.gs,0,none⟩), .int .i64 0, .int .i64 (k:Int), .func (.yield l) #[] #[]] W (EndS c [] E ys W (Mt.all c.x.k.P E [[k]]))):=hZq (fun W hs=>by
    have:=uQ HIN k hkl
    rw[<-uQ HEM]at this
    exact this ys W hs)
   clear HC hSc hkc HA HIN HAK
   have hkm:IntKind.i64.wrap ((k:Int)-1)=(k:Int)-1:=by simp only[IntKind.wrap_i64];omega
   go_wp2_with fail
   refine (uQ XH).mono ?_
   rintro e w6 ⟨rfl,hs6,hk6⟩
   have HIW:=hZq (uQ HIC w6 hs6)
   have HS6:=hZq hs6
   have HK6:=hZq ((uQ HKC).trans hk6)
   clear XH hs6 hk6 HKC HIC g1
   cases hH:c.x.k.P.H 0 [] k with
   |false=>
    have HN:Hid (∃ys en pv lv vs D,AlS c w k ys en pv lv vs D w6):=hZq (by
     obtain ⟨pv,lv,vs,D,hS⟩:=uQ HS6
     refine ⟨ys,E,pv,lv,vs,D,hS,Or.inr (uQ HEM),uQ HK6,?_⟩
     rw[uQ HPR]
     unfold fnF
     rw[if_neg (by rw[hH];simp)]
     rfl)
    clear HIW HS6 HK6 HPR HEM
    go_wp2
    go_roundw
    case rel=>exact ⟨k,by omega,by go_num,HN⟩
    case measure=>simp[intOf]
   |true=>
    have HFN:Hid (Mt.fnd c.x.k.P c.x.W=ys.map (·.T)++(Mt.all c.x.k.P E [[k]]++fnK c.x.k.P c.x.W k)):=hZq (by
     rw[uQ HPR]
     unfold fnF
     rw[if_pos hH,uQ HEM]
     rfl)
    clear HPR
    go_wp2_with fail
    refine (uQ HIW).mono ?_
    rintro e w7 ⟨go,zs,rfl,hs7,hk7,hp7⟩
    have HS7:=hZq hs7
    have HK7:=hZq ((uQ HK6).trans hk7)
    have HP7:=hZq hp7
    clear HIW hs7 hk7 hp7 HS6 HK6
    cases go with
    |false=>
     have HF:Hid (∃go ys en,St c go [] en ys w7/\KT w w7/\PrT go ys (Mt.fnd c.x.k.P c.x.W)):=hZq ⟨false,ys++zs,E,uQ HS7,uQ HK7,by
      rw[uQ HFN, <-List.append_assoc]
      exact PrT.stop (PrT.app (Or.inl ⟨rfl,rfl⟩) (uQ HP7)) _⟩
     clear HS7 HK7 HP7 HFN HEM
     go_wp2
     go_end0
     exact ⟨⟨_,rfl⟩,uQ HF⟩
    |true=>
     have HN:Hid (∃ys en pv lv vs D,AlS c w k ys en pv lv vs D w7):=hZq (by
      obtain ⟨pv,lv,vs,D,hS⟩:=uQ HS7
      refine ⟨ys++zs,E,pv,lv,vs,D,hS,Or.inr (uQ HEM),uQ HK7,?_⟩
      rw[uQ HFN,List.map_append]
      rcases uQ HP7 with ⟨_,e⟩|⟨e,_⟩
      ·rw[e,List.append_assoc]
      ·cases e)
     clear HS7 HK7 HP7 HFN HEM
     go_wp2
     go_roundw
     case rel=>exact ⟨k,by omega,by go_num,HN⟩
     case measure=>simp[intOf]
def nso2:Oper:=⟨some 11,Op.call { callee:=Callee.value (Operand.func 56),args:=#[Operand.tmp 10],argTypes:=#[89] },105,"search.go:40",#[⟨1, .data⟩],none⟩
def nso4:Oper:=⟨some 13,Op.call { callee:=Callee.value (Operand.func 57),args:=#[Operand.tmp 12],argTypes:=#[24] },107,"search.go:41",#[⟨3, .data⟩,⟨2, .chain⟩],none⟩
def nso7:Oper:=⟨some 16,Op.makeSlice 109 (Operand.tmp 15) (Operand.tmp 15),109,"search.go:38",#[⟨6, .data⟩,⟨6, .data⟩],none⟩
def nso9:Oper:=⟨some 18,Op.box 111 (Operand.tmp 17),81,"search.go:38",#[⟨8, .data⟩],none⟩
theorem q8u:(Tryz.prog.info? 114).map (fun i=>(i.zero,i.size,i.bytes))=some (some (.map none),1,8):=by kernel_rfl
theorem qdq (n:Nat)(hn:n<=100000)(W:World):(Instr.makeSlice 109 (.int .i64 (n:Int)) (.int .i64 (n:Int))).run Tryz.prog W= .ok (.slice (some ⟨W.heap.size,0,none⟩) n n) (W.alloc (.cells (Array.replicate n (Value.map none)) 114)):=by
 obtain ⟨i0,hi,hz0,hz1,hz2⟩:=info_parts q8u
 have h:=run_make (P:=Tryz.prog) W 109 114 i0 (.map none) Tryz.underlying109 hi hz0 .i64 .i64 (n:Int) (n:Int) (by omega) (by omega) (by rw[hz2];omega) (by omega)
 rw[hz1]at h
 simp only[Int.toNat_natCast,Nat.mul_one]at h
 rw[h]
 have e:madeCells (Value.map none).cells n=Array.replicate n (Value.map none):=by
  apply Array.ext'
  rw[Array.toList_replicate]
  exact toList_madeCells_one (Value.map none) n
 rw[e]
structure NsS (w:World)(sa:Option Addr)(sc:Nat)(l:List SR)(WI:Nat)(ea:Option Addr)(m ec gs gt gx B gd:Nat)(nv0 av nv:Value)(avs nvs rs:List Value)(R:List (List RdC))(w':World):Prop where
 kp:Kp [] w w'
 tb:CBox gt (ntC sa l.length sc (WI:Int) ea m ec nv0) 113 w'
 ow: ∃lo,w.heap.size<=lo/\OwnsW lo w' nv0 (q00 (stgs l))
 tr: ∃wx,Kp [] w wx/\XtS wx gt gx (m * WI) (asks l) (asks l) av nv avs nvs w'
 ro: ∃wy,Kp [] w wy/\RoS wy B rs R w'
 rl:R.length=l.length
 ry: ∀(j:Nat) (r:List RdC),R[j]?=some r->RdY (stgs l) j (rdT (stgs l) j) r
 dd:CBox gd (Array.replicate m (Value.map none)) 114 w'
 bx:CBox gs #[.pointer (some ⟨gt,0,none⟩), .pointer (some ⟨gx,0,none⟩), .slice (some ⟨B,0,none⟩) l.length l.length, .slice (some ⟨gd,0,none⟩) m m, .int .i64 0, .int .i64 0] 111 w'
 nw:w.heap.size<=gs/\w.heap.size<=gt/\w.heap.size<=gx/\w.heap.size<=B/\w.heap.size<=gd
theorem q5m (sa:Option Addr)(sc:Nat)(l:List SR)(WI:Nat)(ea:Option Addr)(m ec:Nat)(w:World)(h:StsAt w sa l)(hp:(pcR ⟨stgs l,(WI:Int)⟩).2=0)(hT:TbE w)(hok: ∀r∈l,r.s.ok)(hfit: ∀r∈l, ∀q∈r.s.cd,q.fit)(hsc:l.length<=sc)(hW:WI<=256)(hm:m<=4096):
  Calls Tryz.prog 37 #[.agg #[.slice sa l.length sc, .int .i64 (WI:Int)], .slice ea m ec] w fun e w'=> ∃gs gt gx B gd nv0 av nv avs nvs rs R,e= .returned (.pointer (some ⟨gs,0,none⟩))/\NsS w sa sc l WI ea m ec gs gt gx B gd nv0 av nv avs nvs rs R w':=by
 have h8:l.length<=8:=by have:=(q16 hp).2.1;rw[show (⟨stgs l,(WI:Int)⟩:Ptn).ss.length=l.length from q02 l]at this;exact this
 have k1:=Kp.alloc w (.cells #[.slice sa l.length sc, .int .i64 (WI:Int)] 24)
 have p1:=CBox.new w #[.slice sa l.length sc, .int .i64 (WI:Int)] 24
 obtain ⟨W1,hW1⟩: ∃W1,W1=w.alloc (.cells #[.slice sa l.length sc, .int .i64 (WI:Int)] 24):=⟨_,rfl⟩
 rw[<-hW1]at k1 p1
 have NT:=hZq (q3f sa sc l (WI:Int) ea m ec W1 (h.kp k1) h8)
 have hmk:=fun W=>qdq m (by omega) W
 have HTR0:=hZq (fun (nv0:Value) (W:World) (hk:Kp [] w W) (hb:CBox (W1.heap.size+1) (ntC sa l.length sc (WI:Int) ea m ec nv0) 113 W)=>q5n (W1.heap.size+1) sa sc l WI ea m ec nv0 W hb (h.kp hk) h8 (hT.kp hk (by simp)) hfit hW hm)
 have HRD0:=hZq (fun (W:World) (hk:Kp [] w W)=>q7g sa sc l (WI:Int) W (h.kp hk) hp (hT.kp hk (by simp)) hok hsc)
 have c0:=p1.cell (i:=0) (v:= .slice sa l.length sc) rfl
 have c1:=p1.cell (i:=1) (v:= .int .i64 (WI:Int)) rfl
 have HK1:=hZq k1
 have HP1:=hZq p1
 have hsz1:w.heap.size<=W1.heap.size:=k1.size
 clear h hT hok hfit hp k1 p1
 obtain ⟨n,hn⟩: ∃n,l.length=n:=⟨_,rfl⟩
 have HN:=hZq hn
 rw[hn]at c0 NT HTR0 HRD0 HP1 hW1 ⊢
 clear hn
 go_enter Tryz.func37,Tryz.ntmps37
 go_upto_region 1 with fail
 rw[<-hW1]
 clear hW1
 go_wp2_with fail
 refine (uQ NT).mono ?_
 rintro e w2 ⟨rfl,nv0,hns⟩
 obtain ⟨V,hV⟩: ∃V,V=w2.drew:=⟨_,rfl⟩
 have kV:Kp [] w2 V:=by rw[hV];exact Kp.drew _
 have HKP:Hid (Kp [] w2 V):=hZq kV
 have HSS:Hid (∀W,Kp [] w2 W->W.cell? ⟨w.heap.size,0,none⟩=some (.slice sa n sc)/\W.cell? ⟨w.heap.size,1,none⟩=some (.int .i64 (WI:Int))):=hZq (fun W hk=>by
  have:=(uQ HP1).kp (hns.kp.trans hk (by simp)) (by simp)
  exact ⟨this.cell rfl,this.cell rfl⟩)
 have HTR:=hZq (fun (W:World) (hk:Kp [] w2 W)=>uQ HTR0 nv0 W (((uQ HK1).trans hns.kp (by simp)).trans hk (by simp)) (hns.tb.kp hk (by simp)))
 have HRD:=hZq (fun (W:World) (hk:Kp [] w2 W)=>uQ HRD0 W (((uQ HK1).trans hns.kp (by simp)).trans hk (by simp)))
 have HFIN:Hid (∀(gx B gd gs:Nat) (wx wy w':World) (av nv:Value) (avs nvs rs:List Value) (R:List (List RdC)),Kp [] w2 w'->XtS wx (W1.heap.size+1) gx (m * WI) (asks l) (asks l) av nv avs nvs w'->Kp [] w2 wx->RoS wy B rs R w'->Kp [] w2 wy->R.length=n->(∀(j:Nat) (r:List RdC),R[j]?=some r->RdY (stgs l) j (rdT (stgs l) j) r)->CBox gd (Array.replicate m (Value.map none)) 114 w'->w2.heap.size<=gd->w2.heap.size<=gs->CBox gs #[.pointer (some ⟨W1.heap.size+1,0,none⟩), .pointer (some ⟨gx,0,none⟩), .slice (some ⟨B,0,none⟩) n n, .slice (some ⟨gd,0,none⟩) m m, .int .i64 0, .int .i64 0] 111 w'-> ∃gs' gt gx B gd nv0 av nv avs nvs rs R,Ending.returned (.pointer (some ⟨gs,0,none⟩))= .returned (.pointer (some ⟨gs',0,none⟩))/\NsS w sa sc l WI ea m ec gs' gt gx B gd nv0 av nv avs nvs rs R w'):=hZq (fun gx B gd gs wx wy w' av nv avs nvs rs R a1 a2 a3 a4 a5 a6 a7 a8 a9 a10 a11=>by
  have g1:=hns.go a1
  have k2:=(uQ HK1).trans hns.kp (by simp)
  have z2:=k2.size
  have z3:=a3.size
  have z4:=a5.size
  have z5:=a2.lo
  have z6:=a4.lo
  refine ⟨gs,_,gx,B,gd,nv0,av,nv,avs,nvs,rs,R,rfl,k2.trans a1 (by simp),by rw[uQ HN];exact g1.tb,⟨_,?_,g1.ow⟩,⟨wx,k2.trans a3 (by simp),a2⟩,⟨wy,k2.trans a5 (by simp),a4⟩,by rw[uQ HN];exact a6,a7,a8,by rw[uQ HN];exact a11,by omega,by omega,by omega,by omega,by omega⟩
  omega)
 clear NT HTR0 HRD0 HP1 HK1 kV hns c0 c1
 go_upto_region 2 with fail
 refine wp_region_held_drew (S:=fun W=>W.cell? ⟨w.heap.size,0,none⟩=some (.slice sa n sc)/\W.cell? ⟨w.heap.size,1,none⟩=some (.int .i64 (WI:Int))) (by kernel_rfl) (by rw[<-hV];exact uQ HSS V (uQ HKP)) (fun hHeld=>?_)
 rw[<-hV]at hHeld ⊢
 clear hV
 show wpAnyH _ _ _ _ _ 11 (Array.replicate 11 false) _ _
 refine wpAnyH_take (i:=0) (oi:=⟨some 9,Op.move (.tmp 5),89,"search.go:38",#[],none⟩) (v:=?_) rfl (by kernel_rfl) (by kernel_rfl) (by kernel_rfl) (fun _ _ _ h=>h) (Or.inl ⟨by rfl,?_⟩) (by assumption) ?_
 rotate_left
 ·intro w0 s9
  (try dsimp only at s9)
  go_simp
  (try with_reducible rfl)
 try simp only[Act.put,zz1,zz2,zz3]
 refine wpAnyH_take (i:=1) (oi:=⟨some 10,Op.move (.tmp 5),89,"search.go:38",#[],none⟩) (v:=?_) rfl (by kernel_rfl) (by kernel_rfl) (by kernel_rfl) (fun _ _ _ h=>h) (Or.inl ⟨by rfl,?_⟩) (by assumption) ?_
 rotate_left
 ·intro w0 s9
  (try dsimp only at s9)
  go_simp
  (try with_reducible rfl)
 try simp only[Act.put,zz1,zz2,zz3]
 refine wpAnyH_take (i:=3) (oi:=⟨some 12,Op.load 24 (.tmp 2),24,"search.go:38",#[],none⟩) (v:=?_) rfl (by kernel_rfl) (by kernel_rfl) (by kernel_rfl) (fun _ _ _ h=>h) (Or.inl ⟨by rfl,?_⟩) (by assumption) ?_
 rotate_left
 ·intro w0 s9
  (try dsimp only at s9)
  go_simp
  (try with_reducible rfl)
 try simp only[Act.put,zz1,zz2,zz3]
 refine wpAnyH_take (i:=5) (oi:=⟨some 14,Op.move (.tmp 1),25,"search.go:38",#[],none⟩) (v:=?_) rfl (by kernel_rfl) (by kernel_rfl) (by kernel_rfl) (fun _ _ _ h=>h) (Or.inl ⟨by rfl,?_⟩) (by assumption) ?_
 rotate_left
 ·intro w0 s9
  (try dsimp only at s9)
  go_simp
  (try with_reducible rfl)
 try simp only[Act.put,zz1,zz2,zz3]
 refine wpAnyH_take (i:=6) (oi:=⟨some 15,Op.call { callee:= .builtin Builtin.len,args:=#[.tmp 14],argTypes:=#[25] },3,"search.go:38",#[⟨5, .data⟩],none⟩) (v:=?_) rfl (by kernel_rfl) (by kernel_rfl) (by kernel_rfl) (fun _ _ _ h=>h) (Or.inl ⟨by rfl,?_⟩) (by assumption) ?_
 rotate_left
 ·intro w0 s9
  (try dsimp only at s9)
  go_simp
  (try with_reducible rfl)
 try simp only[Act.put,zz1,zz2,zz3]
 refine wpAnyH_ready (rs:=[2,7]) (by kernel_rfl) (by simp) ?_
 refine AllReadyH.cons (o:=nso2) rfl (fun K hK=>?_) (AllReadyH.cons (o:=nso7) rfl (fun K hK=>?_) AllReadyH.nil)
 ·unfold nso2
  go_simp
  refine (uQ HTR V (uQ HKP)).mono ?_
  rintro e Vt ⟨rfl,av,nv,avs,nvs,hx⟩
  have HX:=hZq (And.intro hx (uQ HKP))
  have HKV:=hZq (show Kp [] V Vt from hx.kp)
  clear hx
  have HKP:=hZq ((uQ HKP).trans (uQ HKV) (by simp))
  refine hK.out _ _ ?_ (fun hHeld=>?_)
  ·exact uQ HSS _ (uQ HKP)
  clear hK K HKV
  try simp only[Act.put,zz1,zz2,zz3]
  refine wpAnyH_ready (rs:=[4,7]) (by kernel_rfl) (by simp) ?_
  refine AllReadyH.cons (o:=nso4) rfl (fun K hK=>?_) (AllReadyH.cons (o:=nso7) rfl (fun K hK=>?_) AllReadyH.nil)
  ·unfold nso4
   go_simp
   refine (uQ HRD Vt (uQ HKP)).mono ?_
   rintro e Vtr ⟨rfl,rs,R,hr1,hr2,hr3⟩
   have HRS:=hZq (And.intro hr1 (And.intro hr2 (And.intro hr3 (uQ HKP))))
   have HKV:=hZq (show Kp [] Vt Vtr from hr1.kp)
   clear hr1 hr2 hr3
   have HX:=hZq (And.intro ((uQ HX).1.go (uQ HKV)) (uQ HX).2)
   have HKP:=hZq ((uQ HKP).trans (uQ HKV) (by simp))
   refine hK.out _ _ ?_ (fun hHeld=>?_)
   ·exact uQ HSS _ (uQ HKP)
   clear hK K HKV
   try simp only[Act.put,zz1,zz2,zz3]
   refine wpAnyH_ready (rs:=[7]) (by kernel_rfl) (by simp) ?_
   refine AllReadyH.cons (o:=nso7) rfl (fun K hK=>?_) AllReadyH.nil
   unfold nso7
   go_simp
   obtain ⟨Vtrd,hnw⟩: ∃x,x=Vtr.alloc (.cells (Array.replicate m (Value.map none)) 114):=⟨_,rfl⟩
   have HDD:Hid (CBox Vtr.heap.size (Array.replicate m (Value.map none)) 114 Vtrd/\w2.heap.size<=Vtr.heap.size):=hZq ⟨by rw[hnw];exact CBox.new _ _ _,(uQ HKP).size⟩
   have HKV:Hid (Kp [] Vtr Vtrd):=hZq (by rw[hnw];exact Kp.alloc _ _)
   rw[<-hnw]
   clear hnw
   have HX:=hZq (And.intro ((uQ HX).1.go (uQ HKV)) (uQ HX).2)
   have HRS:=hZq (And.intro ((uQ HRS).1.go (uQ HKV)) (uQ HRS).2)
   have HKP:=hZq ((uQ HKP).trans (uQ HKV) (by simp))
   refine hK.out _ _ ?_ (fun hHeld=>?_)
   ·exact uQ HSS _ (uQ HKP)
   clear hK K HKV
   try simp only[Act.put,zz1,zz2,zz3]
   refine wpAnyH_take (i:=8) (oi:=⟨some 17,Op.build 111 #[(0, .tmp 9),(1, .tmp 11),(2, .tmp 13),(3, .tmp 16)],111,"search.go:38",#[⟨0, .data⟩,⟨2, .data⟩,⟨4, .data⟩,⟨7, .data⟩],none⟩) (v:=?_) rfl (by kernel_rfl) (by kernel_rfl) (by kernel_rfl) (fun _ _ _ h=>h) (Or.inl ⟨by rfl,?_⟩) (by assumption) ?_
   rotate_left
   ·intro w0 s9
    (try dsimp only at s9)
    go_simp
    (try with_reducible rfl)
   try simp only[Act.put,zz1,zz2,zz3]
   refine wpAnyH_ready (rs:=[9]) (by kernel_rfl) (by simp) ?_
   refine AllReadyH.cons (o:=nso9) rfl (fun K hK=>?_) AllReadyH.nil
   unfold nso9
   go_simp
   have HKV:=hZq (Kp.alloc Vtrd (.cells #[.pointer (some ⟨W1.heap.size+1,0,none⟩), .pointer (some ⟨V.heap.size,0,none⟩), .slice (some ⟨Vt.heap.size+1,0,none⟩) n n, .slice (some ⟨Vtr.heap.size,0,none⟩) m m, .int .i64 0, .int .i64 0] 111))
   have HBX:=hZq (CBox.new Vtrd #[.pointer (some ⟨W1.heap.size+1,0,none⟩), .pointer (some ⟨V.heap.size,0,none⟩), .slice (some ⟨Vt.heap.size+1,0,none⟩) n n, .slice (some ⟨Vtr.heap.size,0,none⟩) m m, .int .i64 0, .int .i64 0] 111)
   refine hK.out _ _ ?_ (fun hHeld=>?_)
   ·exact uQ HSS _ ((uQ HKP).trans (uQ HKV) (by simp))
   clear hK K
   try simp only[Act.put,zz1,zz2,zz3]
   refine wpAnyH_take (i:=10) (oi:=⟨some 4,Op.assign (.tmp 18),81,"search.go:38",#[⟨9, .data⟩,⟨4, .chain⟩,⟨0, .phase⟩,⟨1, .phase⟩,⟨2, .phase⟩,⟨3, .phase⟩,⟨4, .phase⟩,⟨5, .phase⟩,⟨6, .phase⟩,⟨7, .phase⟩,⟨8, .phase⟩,⟨9, .phase⟩],none⟩) (v:=?_) rfl (by kernel_rfl) (by kernel_rfl) (by kernel_rfl) (fun _ _ _ h=>h) (Or.inl ⟨by rfl,?_⟩) (by assumption) ?_
   rotate_left
   ·intro w0 s9
    (try dsimp only at s9)
    go_simp
    (try with_reducible rfl)
   try simp only[Act.put,zz1,zz2,zz3]
   refine wpAnyH_done (by kernel_rfl) ?_ _
   have HFI:=hZq (uQ HFIN _ _ _ _ _ _ _ _ _ _ _ _ _ ((uQ HKP).trans (uQ HKV) (by simp)) ((uQ HX).1.go (uQ HKV)) (uQ HX).2 ((uQ HRS).1.go (uQ HKV)) (uQ HRS).2.2.2 (uQ HRS).2.1 (uQ HRS).2.2.1 ((uQ HDD).1.kp (uQ HKV) (by simp)) (uQ HDD).2 (uQ HKP).size (uQ HBX))
   clear HX HRS HDD HKP HKV HBX HTR HRD HSS HFIN
   go_wp2
   go_ret
   exact uQ HFI
  ·unfold nso7
   go_simp
   obtain ⟨Vtd,hnw⟩: ∃x,x=Vt.alloc (.cells (Array.replicate m (Value.map none)) 114):=⟨_,rfl⟩
   have HDD:Hid (CBox Vt.heap.size (Array.replicate m (Value.map none)) 114 Vtd/\w2.heap.size<=Vt.heap.size):=hZq ⟨by rw[hnw];exact CBox.new _ _ _,(uQ HKP).size⟩
   have HKV:Hid (Kp [] Vt Vtd):=hZq (by rw[hnw];exact Kp.alloc _ _)
   rw[<-hnw]
   clear hnw
   have HX:=hZq (And.intro ((uQ HX).1.go (uQ HKV)) (uQ HX).2)
   have HKP:=hZq ((uQ HKP).trans (uQ HKV) (by simp))
   refine hK.out _ _ ?_ (fun hHeld=>?_)
   ·exact uQ HSS _ (uQ HKP)
   clear hK K HKV
   try simp only[Act.put,zz1,zz2,zz3]
   refine wpAnyH_ready (rs:=[4]) (by kernel_rfl) (by simp) ?_
   refine AllReadyH.cons (o:=nso4) rfl (fun K hK=>?_) AllReadyH.nil
   unfold nso4
   go_simp
   refine (uQ HRD Vtd (uQ HKP)).mono ?_
   rintro e Vtdr ⟨rfl,rs,R,hr1,hr2,hr3⟩
   have HRS:=hZq (And.intro hr1 (And.intro hr2 (And.intro hr3 (uQ HKP))))
   have HKV:=hZq (show Kp [] Vtd Vtdr from hr1.kp)
   clear hr1 hr2 hr3
   have HX:=hZq (And.intro ((uQ HX).1.go (uQ HKV)) (uQ HX).2)
   have HDD:=hZq (And.intro ((uQ HDD).1.kp (uQ HKV) (by simp)) (uQ HDD).2)
   have HKP:=hZq ((uQ HKP).trans (uQ HKV) (by simp))
   refine hK.out _ _ ?_ (fun hHeld=>?_)
   ·exact uQ HSS _ (uQ HKP)
   clear hK K HKV
   try simp only[Act.put,zz1,zz2,zz3]
   refine wpAnyH_take (i:=8) (oi:=⟨some 17,Op.build 111 #[(0, .tmp 9),(1, .tmp 11),(2, .tmp 13),(3, .tmp 16)],111,"search.go:38",#[⟨0, .data⟩,⟨2, .data⟩,⟨4, .data⟩,⟨7, .data⟩],none⟩) (v:=?_) rfl (by kernel_rfl) (by kernel_rfl) (by kernel_rfl) (fun _ _ _ h=>h) (Or.inl ⟨by rfl,?_⟩) (by assumption) ?_
   rotate_left
   ·intro w0 s9
    (try dsimp only at s9)
    go_simp
    (try with_reducible rfl)
   try simp only[Act.put,zz1,zz2,zz3]
   refine wpAnyH_ready (rs:=[9]) (by kernel_rfl) (by simp) ?_
   refine AllReadyH.cons (o:=nso9) rfl (fun K hK=>?_) AllReadyH.nil
   unfold nso9
   go_simp
   have HKV:=hZq (Kp.alloc Vtdr (.cells #[.pointer (some ⟨W1.heap.size+1,0,none⟩), .pointer (some ⟨V.heap.size,0,none⟩), .slice (some ⟨Vtd.heap.size+1,0,none⟩) n n, .slice (some ⟨Vt.heap.size,0,none⟩) m m, .int .i64 0, .int .i64 0] 111))
   have HBX:=hZq (CBox.new Vtdr #[.pointer (some ⟨W1.heap.size+1,0,none⟩), .pointer (some ⟨V.heap.size,0,none⟩), .slice (some ⟨Vtd.heap.size+1,0,none⟩) n n, .slice (some ⟨Vt.heap.size,0,none⟩) m m, .int .i64 0, .int .i64 0] 111)
   refine hK.out _ _ ?_ (fun hHeld=>?_)
   ·exact uQ HSS _ ((uQ HKP).trans (uQ HKV) (by simp))
   clear hK K
   try simp only[Act.put,zz1,zz2,zz3]
   refine wpAnyH_take (i:=10) (oi:=⟨some 4,Op.assign (.tmp 18),81,"search.go:38",#[⟨9, .data⟩,⟨4, .chain⟩,⟨0, .phase⟩,⟨1, .phase⟩,⟨2, .phase⟩,⟨3, .phase⟩,⟨4, .phase⟩,⟨5, .phase⟩,⟨6, .phase⟩,⟨7, .phase⟩,⟨8, .phase⟩,⟨9, .phase⟩],none⟩) (v:=?_) rfl (by kernel_rfl) (by kernel_rfl) (by kernel_rfl) (fun _ _ _ h=>h) (Or.inl ⟨by rfl,?_⟩) (by assumption) ?_
   rotate_left
   ·intro w0 s9
    (try dsimp only at s9)
    go_simp
    (try with_reducible rfl)
   try simp only[Act.put,zz1,zz2,zz3]
   refine wpAnyH_done (by kernel_rfl) ?_ _
   have HFI:=hZq (uQ HFIN _ _ _ _ _ _ _ _ _ _ _ _ _ ((uQ HKP).trans (uQ HKV) (by simp)) ((uQ HX).1.go (uQ HKV)) (uQ HX).2 ((uQ HRS).1.go (uQ HKV)) (uQ HRS).2.2.2 (uQ HRS).2.1 (uQ HRS).2.2.1 ((uQ HDD).1.kp (uQ HKV) (by simp)) (uQ HDD).2 (uQ HKP).size (uQ HBX))
   clear HX HRS HDD HKP HKV HBX HTR HRD HSS HFIN
   go_wp2
   go_ret
   exact uQ HFI
 ·unfold nso7
  go_simp
  obtain ⟨Vd,hnw⟩: ∃x,x=V.alloc (.cells (Array.replicate m (Value.map none)) 114):=⟨_,rfl⟩
  have HDD:Hid (CBox V.heap.size (Array.replicate m (Value.map none)) 114 Vd/\w2.heap.size<=V.heap.size):=hZq ⟨by rw[hnw];exact CBox.new _ _ _,(uQ HKP).size⟩
  have HKV:Hid (Kp [] V Vd):=hZq (by rw[hnw];exact Kp.alloc _ _)
  rw[<-hnw]
  clear hnw
  have HKP:=hZq ((uQ HKP).trans (uQ HKV) (by simp))
  refine hK.out _ _ ?_ (fun hHeld=>?_)
  ·exact uQ HSS _ (uQ HKP)
  clear hK K HKV
  try simp only[Act.put,zz1,zz2,zz3]
  refine wpAnyH_ready (rs:=[2]) (by kernel_rfl) (by simp) ?_
  refine AllReadyH.cons (o:=nso2) rfl (fun K hK=>?_) AllReadyH.nil
  unfold nso2
  go_simp
  refine (uQ HTR Vd (uQ HKP)).mono ?_
  rintro e Vdt ⟨rfl,av,nv,avs,nvs,hx⟩
  have HX:=hZq (And.intro hx (uQ HKP))
  have HKV:=hZq (show Kp [] Vd Vdt from hx.kp)
  clear hx
  have HDD:=hZq (And.intro ((uQ HDD).1.kp (uQ HKV) (by simp)) (uQ HDD).2)
  have HKP:=hZq ((uQ HKP).trans (uQ HKV) (by simp))
  refine hK.out _ _ ?_ (fun hHeld=>?_)
  ·exact uQ HSS _ (uQ HKP)
  clear hK K HKV
  try simp only[Act.put,zz1,zz2,zz3]
  refine wpAnyH_ready (rs:=[4]) (by kernel_rfl) (by simp) ?_
  refine AllReadyH.cons (o:=nso4) rfl (fun K hK=>?_) AllReadyH.nil
  unfold nso4
  go_simp
  refine (uQ HRD Vdt (uQ HKP)).mono ?_
  rintro e Vdtr ⟨rfl,rs,R,hr1,hr2,hr3⟩
  have HRS:=hZq (And.intro hr1 (And.intro hr2 (And.intro hr3 (uQ HKP))))
  have HKV:=hZq (show Kp [] Vdt Vdtr from hr1.kp)
  clear hr1 hr2 hr3
  have HDD:=hZq (And.intro ((uQ HDD).1.kp (uQ HKV) (by simp)) (uQ HDD).2)
  have HX:=hZq (And.intro ((uQ HX).1.go (uQ HKV)) (uQ HX).2)
  have HKP:=hZq ((uQ HKP).trans (uQ HKV) (by simp))
  refine hK.out _ _ ?_ (fun hHeld=>?_)
  ·exact uQ HSS _ (uQ HKP)
  clear hK K HKV
  try simp only[Act.put,zz1,zz2,zz3]
  refine wpAnyH_take (i:=8) (oi:=⟨some 17,Op.build 111 #[(0, .tmp 9),(1, .tmp 11),(2, .tmp 13),(3, .tmp 16)],111,"search.go:38",#[⟨0, .data⟩,⟨2, .data⟩,⟨4, .data⟩,⟨7, .data⟩],none⟩) (v:=?_) rfl (by kernel_rfl) (by kernel_rfl) (by kernel_rfl) (fun _ _ _ h=>h) (Or.inl ⟨by rfl,?_⟩) (by assumption) ?_
  rotate_left
  ·intro w0 s9
   (try dsimp only at s9)
   go_simp
   (try with_reducible rfl)
  try simp only[Act.put,zz1,zz2,zz3]
  refine wpAnyH_ready (rs:=[9]) (by kernel_rfl) (by simp) ?_
  refine AllReadyH.cons (o:=nso9) rfl (fun K hK=>?_) AllReadyH.nil
  unfold nso9
  go_simp
  have HKV:=hZq (Kp.alloc Vdtr (.cells #[.pointer (some ⟨W1.heap.size+1,0,none⟩), .pointer (some ⟨Vd.heap.size,0,none⟩), .slice (some ⟨Vdt.heap.size+1,0,none⟩) n n, .slice (some ⟨V.heap.size,0,none⟩) m m, .int .i64 0, .int .i64 0] 111))
  have HBX:=hZq (CBox.new Vdtr #[.pointer (some ⟨W1.heap.size+1,0,none⟩), .pointer (some ⟨Vd.heap.size,0,none⟩), .slice (some ⟨Vdt.heap.size+1,0,none⟩) n n, .slice (some ⟨V.heap.size,0,none⟩) m m, .int .i64 0, .int .i64 0] 111)
  refine hK.out _ _ ?_ (fun hHeld=>?_)
  ·exact uQ HSS _ ((uQ HKP).trans (uQ HKV) (by simp))
  clear hK K
  try simp only[Act.put,zz1,zz2,zz3]
  refine wpAnyH_take (i:=10) (oi:=⟨some 4,Op.assign (.tmp 18),81,"search.go:38",#[⟨9, .data⟩,⟨4, .chain⟩,⟨0, .phase⟩,⟨1, .phase⟩,⟨2, .phase⟩,⟨3, .phase⟩,⟨4, .phase⟩,⟨5, .phase⟩,⟨6, .phase⟩,⟨7, .phase⟩,⟨8, .phase⟩,⟨9, .phase⟩],none⟩) (v:=?_) rfl (by kernel_rfl) (by kernel_rfl) (by kernel_rfl) (fun _ _ _ h=>h) (Or.inl ⟨by rfl,?_⟩) (by assumption) ?_
  rotate_left
  ·intro w0 s9
   (try dsimp only at s9)
   go_simp
   (try with_reducible rfl)
  try simp only[Act.put,zz1,zz2,zz3]
  refine wpAnyH_done (by kernel_rfl) ?_ _
  have HFI:=hZq (uQ HFIN _ _ _ _ _ _ _ _ _ _ _ _ _ ((uQ HKP).trans (uQ HKV) (by simp)) ((uQ HX).1.go (uQ HKV)) (uQ HX).2 ((uQ HRS).1.go (uQ HKV)) (uQ HRS).2.2.2 (uQ HRS).2.1 (uQ HRS).2.2.1 ((uQ HDD).1.kp (uQ HKV) (by simp)) (uQ HDD).2 (uQ HKP).size (uQ HBX))
  clear HX HRS HDD HKP HKV HBX HTR HRD HSS HFIN
  go_wp2
  go_ret
  exact uQ HFI
def nsF (gs gt gd:Nat)(nvs:List Value)(Fc:List Nat):List Nat:=gt::gs::gd::((nvs.flatMap fun u=>u.ownBlock.toList)++Fc)
section
variable {W:World} {sa:Option Addr} {sc:Nat} {l:List SR} {WI:Nat} {ea:Option Addr} {m ec gs gt gx B gd:Nat} {nv0 av nv:Value} {avs nvs rs:List Value} {R:List (List RdC)} {w0:World} {Fc:List Nat}
theorem NsS.nvs_cl (h:NsS W sa sc l WI ea m ec gs gt gx B gd nv0 av nv avs nvs rs R w0){b:Nat}(hb:b∈nvs.flatMap fun u=>u.ownBlock.toList):Cl w0 b [151]/\W.heap.size<=b:=by
 obtain ⟨wx,_,hx⟩:=h.tr
 rw[List.mem_flatMap]at hb
 obtain ⟨u,hu,hb⟩:=hb
 obtain ⟨t,ht⟩:=List.getElem?_of_mem hu
 have hlt:t<(asks l).length:=by rw[<-hx.nl];exact (zC.1 ht).1
 obtain ⟨h1,h2⟩:=hx.ni t u _ ht (zE hlt)
 rcases Nat.lt_or_ge 1 ((asks l)[t]).length with h3|h3
 ·rw[h2 h3]at hb
  simp[Value.ownBlock]at hb
 ·obtain ⟨b2,e,h4,h5⟩:=h1 h3
  rw[e]at hb
  simp[Value.ownBlock]at hb
  subst hb
  have:=h.nw.2.2.1
  exact ⟨h4.cl,by omega⟩
theorem NsS.out (h:NsS W sa sc l WI ea m ec gs gt gx B gd nv0 av nv avs nvs rs R w0)(hFc: ∀x∈Fc,x<W.heap.size){b:Nat}{s:List TypeId}(hb:W.heap.size<=b)(hc:Cl w0 b s)(hs: ∀t∈s,t∉[113,111,114,151]):b∉nsF gs gt gd nvs Fc:=fun hm=>by
 unfold nsF at hm
 rw[zH,zH,zH,zG]at hm
 rcases hm with rfl|rfl|rfl|hm|hm
 ·exact hc.ne (h.tb.cl.wide (s':=[113,111,114,151]) (by simp)) hs rfl
 ·exact hc.ne (h.bx.cl.wide (s':=[113,111,114,151]) (by simp)) hs rfl
 ·exact hc.ne (h.dd.cl.wide (s':=[113,111,114,151]) (by simp)) hs rfl
 ·exact hc.ne ((h.nvs_cl hm).1.wide (s':=[113,111,114,151]) (by simp)) hs rfl
 ·have:=hFc b hm
  omega
theorem qab {w:World}{B e sz n:Nat}{v:Value}{xs:List Value}(h:w.ownsRow B e sz v n xs){b:Nat}(hb:v.ownBlock=some b):B<=b:=(World.ownsRow.lt h b hb).1
theorem NsS.hki (h:NsS W sa sc l WI ea m ec gs gt gx B gd nv0 av nv avs nvs rs R w0)(hFc: ∀x∈Fc,x<W.heap.size){wB:World}{es:List Ev}{an:Option Addr}{cn:Nat}(hn0:nv0= .slice an l.length cn)(hkB:Kp [] wB W)(hFB: ∀x∈Fc,wB.heap.size<=x)(hst:StsAt wB sa l)(hev:EvsAt wB ea es)(htb:TbE wB)(hft: ∀r∈l, ∀q∈r.s.cd,q.fit)(hl8:l.length<=8)(hel:es.length<=4096):HkI ⟨wB,w0,nsF gs gt gd nvs Fc,gt,sa,sc,l,(WI:Int),ea,ec,es,an,cn⟩:=by
 obtain ⟨lo,hlo,how⟩:=h.ow
 have hnl:(q00 (stgs l)).length=l.length:=by unfold q00;rw[zI,q02]
 have hWB:=hkB.size
 obtain ⟨ad,cp,e,hnm,hcp⟩:=how.at
 rw[hn0]at e
 injection e with e1 e2 e3
 subst e1 e3
 have hcx:cn<=9223372036854775807:=by
  obtain ⟨_,⟨e,e0⟩|⟨g,cap,cur,e,_,_,_,hcm,_⟩⟩:=id how
  ·rw[hn0]at e
   injection e with _ _ e3
   omega
  ·rw[hn0]at e
   injection e with _ _ e3
   unfold maxLen at hcm
   omega
 refine ⟨hst,hev,htb,hnm,fun b off e hb=>?_,hkB.trans h.kp (by simp),fun x hx=>?_,by unfold nsF;simp,hft,hl8,hel,by rw[<-hnl];exact hcp,hcx⟩
 ·have hob:nv0.ownBlock=some b:=by
   have e':an=some ⟨b,off,none⟩:=e
   rw[hn0,e']
   rfl
  obtain ⟨cs,hc⟩:=q08 how hob
  exact h.out hFc (by have:=qab how hob;omega) hc.cl (by decide) hb
 ·unfold nsF at hx
  rw[zH,zH,zH,zG]at hx
  obtain ⟨n1,n2,n3,n4,n5⟩:=h.nw
  rcases hx with rfl|rfl|rfl|hx|hx
  ·show wB.heap.size<=x;omega
  ·show wB.heap.size<=x;omega
  ·show wB.heap.size<=x;omega
  ·have:=(h.nvs_cl hx).2
   show wB.heap.size<=x;omega
  ·exact hFB x hx
theorem NsS.xki (h:NsS W sa sc l WI ea m ec gs gt gx B gd nv0 av nv avs nvs rs R w0)(hFc: ∀x∈Fc,x<W.heap.size){wB:World}{es:List Ev}(hm:m=es.length){an:Option Addr}{cn:Nat}(hp:(pcR ⟨stgs l,(WI:Int)⟩).2=0)(hI:HkI ⟨wB,w0,nsF gs gt gd nvs Fc,gt,sa,sc,l,(WI:Int),ea,ec,es,an,cn⟩):XkI ⟨⟨wB,w0,nsF gs gt gd nvs Fc,gt,sa,sc,l,(WI:Int),ea,ec,es,an,cn⟩,gx,WI,m * WI,av,nv,nvs⟩:=by
 obtain ⟨wx,hkx,hx⟩:=h.tr
 have hgx:=h.nw.2.2.1
 have hal:avs.length=l.length:=by rw[hx.ai.1,q0V]
 have hnl:nvs.length=l.length:=by rw[hx.nl,q0V]
 have hask: ∀t (ht:t<l.length),(asks l)[t]?=some ((asT (stgs l) t).map Int.ofNat):=fun t ht=>by
  unfold asks
  rw[List.getElem?_map,zE ht]
  show some (asZ l l[t].s.cd)=_
  rw[q92 hp ht]
 refine ⟨hI,hp,rfl,by rw[hm],fun w hk=>hx.bx.kp hk (h.out hFc hgx hx.bx.cl (by decide)),fun w hk t ht=>?_,fun w hk t ht=>?_,hx.nd⟩
 ·have ht:t<l.length:=ht
  obtain ⟨v,hv⟩: ∃v,avs[t]?=some v:=⟨_,zE (by omega)⟩
  have har:=hx.ar.kp hk (fun b hb=>by
   obtain ⟨cs,hc⟩:=q08 hx.ar hb
   exact h.out hFc (by have:=hx.nw av (by simp) b hb;omega) hc.cl (by decide))
  have hir:=(hx.ai.2 t v _ hv (hask t ht)).kp hk (fun b hb=>by
   obtain ⟨cs,hc⟩:=q08 (hx.ai.2 t v _ hv (hask t ht)) hb
   exact h.out hFc (by have:=hx.nw v (by simp[List.mem_of_getElem? hv]) b hb;omega) hc.cl (by decide))
  obtain ⟨_,⟨e,e0⟩|⟨g,c,cur,e,_⟩⟩:=id har
  ·omega
  ·obtain ⟨a,c2,e2,hat⟩:=hir.at
   refine ⟨g,c,a,c2,by rw[<-hal];exact e,?_,hat⟩
   have hcell:=World.ownsRow.cellAt (by rw[e]at har;exact har) t (by omega)
   rw[hcell,hv,e2,zI]
   rfl
 ·have ht:t<l.length:=ht
  obtain ⟨v,hv⟩: ∃v,nvs[t]?=some v:=⟨_,zE (by omega)⟩
  have hnr:=q03 hx.nr hk (fun b hb=>by
   obtain ⟨cs,hc⟩:=q08 hx.nr hb
   exact h.out hFc (by have:=hx.nw nv (by simp) b hb;omega) hc.cl (by decide))
  obtain ⟨h1,h2⟩:=hx.ni t v _ hv (hask t ht)
  rw[zI]at h1 h2
  obtain ⟨_,⟨e,e0⟩|⟨g,c,cur,e,_⟩⟩:=id hnr
  ·omega
  ·refine ⟨g,c,v,by rw[<-hnl];exact e,hv,?_,h2,fun hl=>?_⟩
   ·have hcell:=World.ownsRow.cellAt (by rw[e]at hnr;exact hnr) t (by omega)
    rw[hcell,hv]
   ·obtain ⟨b,e3,_⟩:=h1 hl
    refine ⟨b,e3,?_⟩
    show b∈nsF gs gt gd nvs Fc
    unfold nsF
    simp only[zH,zG,List.mem_flatMap]
    exact Or.inr (Or.inr (Or.inr (Or.inl ⟨v,List.mem_of_getElem? hv,by rw[e3];simp[Value.ownBlock]⟩)))
theorem NsS.sci (h:NsS W sa sc l WI ea m ec gs gt gx B gd nv0 av nv avs nvs rs R w0)(hFc: ∀x∈Fc,x<W.heap.size){wB:World}{es:List Ev}{an:Option Addr}{cn:Nat}(hX:XkI ⟨⟨wB,w0,nsF gs gt gd nvs Fc,gt,sa,sc,l,(WI:Int),ea,ec,es,an,cn⟩,gx,WI,m * WI,av,nv,nvs⟩)(hw1:1<=WI)(J:Bool->List Cp->World->Prop)(hjk: ∀go xs w w' F,J go xs w->Kp F w w'->(∀b∈F,Ow w b)->J go xs w')(hjl: ∀go xs w,J go xs w->xs.length<=100000):ScI ⟨⟨⟨wB,w0,nsF gs gt gd nvs Fc,gt,sa,sc,l,(WI:Int),ea,ec,es,an,cn⟩,gx,WI,m * WI,av,nv,nvs⟩,gs,gd,B,rs,R,J⟩:=by
 obtain ⟨wy,hky,hr⟩:=h.ro
 obtain ⟨wx,hkx,hx⟩:=h.tr
 have hB:=h.nw.2.2.2.1
 refine ⟨hX,fun w hk=>⟨hr.row.kp hk (h.out hFc hB hr.row.cl (by decide)),fun i v r hv hrr=>q03 (hr.ins i v r hv hrr) hk (fun b hb=>?_),fun r hrr y hy=>(hr.az r hrr y hy).kp hk (fun b hb=>?_)⟩,h.rl,hr.len,h.ry,?_,?_,fun b hb=>?_,by rw[hx.nl,q0V],hjk,hjl,hw1⟩
 ·obtain ⟨cs,hc⟩:=q08 (hr.ins i v r hv hrr) hb
  exact h.out hFc (by have:=hr.nw.1 v (List.mem_of_getElem? hv) b hb;omega) hc.cl (by decide)
 ·obtain ⟨cs,hc⟩:=q08 (hr.az r hrr y hy) hb
  exact h.out hFc (by have:=hr.nw.2 r hrr y hy b hb;omega) hc.cl (by decide)
 ·show gs∈nsF gs gt gd nvs Fc
  unfold nsF
  simp
 ·show gd∈nsF gs gt gd nvs Fc
  unfold nsF
  simp
 ·show b∈nsF gs gt gd nvs Fc
  unfold nsF
  simp only[zH,zG]
  exact Or.inr (Or.inr (Or.inr (Or.inl hb)))
theorem NsS.ste (h:NsS W sa sc l WI ea m ec gs gt gx B gd nv0 av nv avs nvs rs R w0){wB:World}{es:List Ev}(hm:m=es.length){an:Option Addr}{cn:Nat}(hn0:nv0= .slice an l.length cn)(J:Bool->List Cp->World->Prop)(hJ:J true [] w0):StE ⟨⟨⟨wB,w0,nsF gs gt gd nvs Fc,gt,sa,sc,l,(WI:Int),ea,ec,es,an,cn⟩,gx,WI,m * WI,av,nv,nvs⟩,gs,gd,B,rs,R,J⟩ true [] 0 0 [] (.slice none 0 0) (.slice none 0 0) [] (List.replicate m none) w0:=by
 obtain ⟨wx,hkx,hx⟩:=h.tr
 have hrep: ∀q b:Nat,(List.replicate m (none:Option Nat))[q]?≠some (some b):=fun q b e=>by
  have:=List.eq_of_mem_replicate (List.mem_of_getElem? e)
  cases this
 refine ⟨?_,⟨?_,PlS.nil _,World.ownsRow_nil _ _ _ _,Kp.refl _ _,by simp[plB,Value.ownBlock]⟩,fun t b hb=>?_,⟨?_,by rw[List.length_replicate,hm],fun q b e=>absurd e (hrep q b),fun i j b e=>absurd e (hrep i b)⟩,by simp,by simp,hJ⟩
 ·unfold srC
  rw[<-hm]
  exact h.bx
 ·have:=h.tb
  unfold ntC at this
  unfold hkC
  rw[hn0,hm]at this
  exact this
 ·have hb:nvs[t]?=some (.slice (some ⟨b,0,none⟩) (m * WI) (m * WI)):=hb
  have hlt:t<l.length:=by rw[<-q0V l, <-hx.nl];exact (zC.1 hb).1
  obtain ⟨h1,h2⟩:=hx.ni t _ _ hb (zE (by rw[q0V];exact hlt))
  rcases Nat.lt_or_ge 1 ((asks l)[t]'(by rw[q0V];exact hlt)).length with h3|h3
  ·have:=h2 h3
   cases this
  ·obtain ⟨b2,e,h4,_⟩:=h1 h3
   injection e with e1 _ _
   injection e1 with e1
   injection e1 with e1 _ _
   subst e1
   exact ⟨_,h4,List.length_replicate ..,Mt.NtOk.zero _ _ _ _ _⟩
 ·have e:((List.replicate m (none:Option Nat)).map Value.map).toArray=Array.replicate m (Value.map none):=by
   rw[List.map_replicate]
   simp
  rw[e]
  exact h.dd
end
theorem q66 (wB W:World)(sa:Option Addr)(sc:Nat)(l:List SR)(WI:Nat)(ea:Option Addr)(ec:Nat)(es:List Ev)(hkB:Kp [] wB W)(hst:StsAt wB sa l)(hev:EvsAt wB ea es)(htb:TbE wB)(hp:(pcR ⟨stgs l,(WI:Int)⟩).2=0)(hok: ∀r∈l,r.s.ok)(hfit: ∀r∈l, ∀q∈r.s.cd,q.fit)(hsc:l.length<=sc)(hW:WI<=256)(hw1:1<=WI)(hel:es.length<=4096)
  (pb eb:Nat) (hpb:CBox pb #[.slice sa l.length sc, .int .i64 (WI:Int)] 24 W) (heb:CBox eb #[.slice ea es.length ec] 25 W) (Fc:List Nat) (hFc: ∀x∈Fc,x<W.heap.size) (hFB: ∀x∈Fc,wB.heap.size<=x)
  (J:Nat->Bool->List Cp->World->Prop) (hjk: ∀n0 go xs w w' F,J n0 go xs w->Kp F w w'->(∀b∈F,Ow w b)->J n0 go xs w') (hjl: ∀n0 go xs w,J n0 go xs w->xs.length<=100000) (hJ0: ∀w0,Kp [] W w0->J w0.heap.size true [] w0)
  (ly:Nat) (hY: ∀n0,W.heap.size<=n0-> ∀(m:Nat) (xs:List Cp) (w:World) (x:Cp),J n0 true xs w->CpAt w x->x.T.length<=8->(∀l∈x.T,l≠[]/\l.length<=4096)->YieldAt Fence.wide m Tryz.prog ly #[x.v] w fun e w'=> ∃F go,e= .returned (.bool go)/\Kp F w w'/\(∀b∈F,Yw w b/\(b∈Fc\/n0<=b))/\J n0 go (xs++[x]) w'):
  Calls Tryz.prog 36 #[.func (.yield ly) #[] #[], .pointer (some ⟨pb,0,none⟩), .pointer (some ⟨eb,0,none⟩)] W fun e w'=>(∃v,e= .returned v)/\ ∃n0 go ys,J n0 go ys w'/\(∀x∈ys,CpAt w' x)/\PrT go ys (Mt.fnd (Mt.pm ⟨stgs l,(WI:Int)⟩ es) WI)/\Kp Fc W w':=by
 have hl1:1<=l.length/\l.length<=8:=by
  have:=q16 hp
  have e:(⟨stgs l,(WI:Int)⟩:Ptn).ss.length=l.length:=q02 l
  have h1:=this.1
  have h2:=this.2.1
  rw[e]at h1 h2
  exact ⟨h1,h2⟩
 have NS:=hZq (q5m sa sc l WI ea es.length ec W (hst.kp hkB) hp (htb.kp hkB (by simp)) hok hfit hsc hW hel)
 have c0:=hpb.cell (i:=0) (v:= .slice sa l.length sc) rfl
 have c1:=hpb.cell (i:=1) (v:= .int .i64 (WI:Int)) rfl
 have d0:=heb.cell (i:=0) (v:= .slice ea es.length ec) rfl
 have HAL:Hid (∀gs gt gx B gd nv0 av nv avs nvs rs R w0,NsS W sa sc l WI ea es.length ec gs gt gx B gd nv0 av nv avs nvs rs R w0->Calls Tryz.prog 38 #[.pointer (some ⟨gs,0,none⟩), .func (.yield ly) #[] #[]] w0 fun e w'=>(∃v,e= .returned v)/\ ∃n0 go ys,J n0 go ys w'/\(∀x∈ys,CpAt w' x)/\PrT go ys (Mt.fnd (Mt.pm ⟨stgs l,(WI:Int)⟩ es) WI)/\Kp Fc W w'):=hZq (fun gs gt gx B gd nv0 av nv avs nvs rs R w0 h=>by
  obtain ⟨lo,_,how⟩:=h.ow
  have hnl:(q00 (stgs l)).length=l.length:=by unfold q00;rw[zI,q02]
  obtain ⟨an,cn,hn0,_,_⟩:=how.at
  rw[hnl]at hn0
  have hI:=h.hki hFc hn0 hkB hFB hst hev htb hfit hl1.2 hel
  have hX:=h.xki hFc rfl hp hI
  have hz:=h.kp.size
  have hS:=h.sci hFc hX hw1 (J w0.heap.size) (hjk _) (hjl _)
  have h0:=h.ste (Fc:=Fc) (wB:=wB) rfl hn0 (J w0.heap.size) (hJ0 w0 h.kp)
  have hyl:Ylds ⟨⟨⟨wB,w0,nsF gs gt gd nvs Fc,gt,sa,sc,l,(WI:Int),ea,ec,es,an,cn⟩,gx,WI,es.length * WI,av,nv,nvs⟩,gs,gd,B,rs,R,J w0.heap.size⟩ ly:=fun m xs w x a1 a2 a3 a4=>by
   obtain ⟨fn,tmps,assign,body,hy,hR⟩:=hY w0.heap.size hz m xs w x a1 a2 a3 a4
   refine ⟨fn,tmps,assign,body,hy,hR.mono ?_⟩
   rintro e w' ⟨F,go,b1,b2,b3,b4⟩
   refine ⟨F,go,b1,b2,fun b hb=>⟨(b3 b hb).1,(b3 b hb).2.imp (fun h=>?_) id⟩,b4⟩
   show b∈nsF gs gt gd nvs Fc
   unfold nsF
   simp[h]
  refine (qcw _ hS ly hyl hl1.1 (by show WI<=_;omega) _ _ _ _ w0 h0 (fun q b e=>by
   have:=List.eq_of_mem_replicate (List.mem_of_getElem? e)
   cases this)).mono ?_
  rintro e w' ⟨hv,go,ys,en,⟨pv,lv,vs,D,hE⟩,_,hpre⟩
  refine ⟨hv,w0.heap.size,go,ys,hE.jj,hE.cp,hpre,?_⟩
  have hk:=hE.hk.kp
  refine (h.kp.mono (by simp)).trans hk (fun b hb=>?_)
  have hb:b∈nsF gs gt gd nvs Fc:=hb
  unfold nsF at hb
  rw[zH,zH,zH,zG]at hb
  obtain ⟨n1,n2,n3,n4,n5⟩:=h.nw
  rcases hb with rfl|rfl|rfl|hb|hb
  ·exact Or.inr n2
  ·exact Or.inr n1
  ·exact Or.inr n5
  ·exact Or.inr (h.nvs_cl hb).2
  ·exact Or.inl hb)
 clear hkB hst hev htb hp hok hfit hFc hFB hjk hjl hJ0 hY hpb heb
 generalize l.length=n at *
 generalize es.length=m at *
 go_enter Tryz.func36,Tryz.ntmps36
 go_wp2_with fail
 refine (uQ NS).mono ?_
 rintro e w0 ⟨gs,gt,gx,B,gd,nv0,av,nv,avs,nvs,rs,R,rfl,hns⟩
 have HC:=hZq (uQ HAL gs gt gx B gd nv0 av nv avs nvs rs R w0 hns)
 clear NS HAL hns
 go_wp2_with fail
 refine (uQ HC).mono ?_
 rintro e w' ⟨⟨v,rfl⟩,hpost⟩
 clear HC
 go_wp2
 go_end0
 exact ⟨⟨_,rfl⟩,hpost⟩
def nb (c:UInt8):Bool:=(decide ((97:Int)<=(c.toNat:Int)) && decide ((c.toNat:Int)<=122))||(decide ((48:Int)<=(c.toNat:Int)) && decide ((c.toNat:Int)<=57))
def q0q (s:ByteArray):Bool:=decide (1<=s.size) && decide (s.size<=32) && s.data.toList.all nb
def cL {α : Type} (c : α -> α -> Int) : List α -> List α -> Int
  | [], [] => 0
  | [], _ :: _ => -1
  | _ :: _, [] => 1
  | a :: r, b :: s => if c a b = 0 then cL c r s else c a b
def orI (a b : Int) : Int := if a = 0 then b else a
structure Pre {α : Type} (c : α -> α -> Int) : Prop where
  anti : ∀ x y, c y x = - c x y
  trans : ∀ x y z, c x y <= 0 -> c y z <= 0 -> c x z <= 0 /\ (c x z = 0 -> c x y = 0 /\ c y z = 0)
theorem pre_int : Pre Lib.compareInt where
  anti x y := by unfold Lib.compareInt; repeat' split
                 all_goals omega
  trans x y z h1 h2 := by
    unfold Lib.compareInt at *
    repeat' split at h1
    all_goals repeat' split at h2
    all_goals repeat' split
    all_goals omega
theorem q3Z (x y : Int) : Lib.compareInt x y = 0 ↔ x = y := by
  unfold Lib.compareInt; repeat' split
  all_goals omega
theorem Pre.or {α : Type} {c d : α -> α -> Int} (hc : Pre c) (hd : Pre d) : Pre fun x y => orI (c x y) (d x y) where
  anti x y := by
    show orI (c y x) (d y x) = - orI (c x y) (d x y)
    unfold orI
    rw [hc.anti x y, hd.anti x y]
    split <;> split <;> omega
  trans x y z h1 h2 := by
    unfold orI at *
    have k1 : c x y <= 0 := by split at h1 <;> omega
    have k2 : c y z <= 0 := by split at h2 <;> omega
    obtain ⟨t1, t2⟩ := hc.trans x y z k1 k2
    by_cases h0 : c x z = 0
    · obtain ⟨e1, e2⟩ := t2 h0
      rw [if_pos e1] at h1
      rw [if_pos e2] at h2
      rw [if_pos h0, if_pos e1, if_pos e2]
      exact hd.trans x y z h1 h2
    · rw [if_neg h0]
      exact ⟨t1, fun h => absurd h h0⟩
theorem Pre.on {α β : Type} {c : β -> β -> Int} (hc : Pre c) (f : α -> β) : Pre fun x y => c (f x) (f y) :=
  ⟨fun x y => hc.anti (f x) (f y), fun x y z => hc.trans (f x) (f y) (f z)⟩
theorem q7t {α : Type} {c : α -> α -> Int} (hc : ∀ x y, c y x = - c x y) : ∀ x y, cL c y x = - cL c x y
  | [], [] => rfl
  | [], _ :: _ => rfl
  | _ :: _, [] => rfl
  | a :: r, b :: s => by
    simp only [cL]
    rw [hc a b, q7t hc r s]
    by_cases h : c a b = 0
    · rw [if_pos h, if_pos (by omega)]
    · rw [if_neg h, if_neg (by omega)]
theorem q5v {α : Type} {c : α -> α -> Int} (hc : Pre c) : ∀ x y z, cL c x y <= 0 -> cL c y z <= 0 -> cL c x z <= 0 /\ (cL c x z = 0 -> cL c x y = 0 /\ cL c y z = 0)
  | [], [], [], _, _ => ⟨by simp [cL], fun _ => ⟨rfl, rfl⟩⟩
  | [], [], _ :: _, _, _ => ⟨by simp [cL], fun h => by simp [cL] at h⟩
  | [], _ :: _, [], _, h => by simp [cL] at h
  | [], _ :: _, _ :: _, _, _ => ⟨by simp [cL], fun h => by simp [cL] at h⟩
  | _ :: _, [], _, h, _ => by simp [cL] at h
  | _ :: _, _ :: _, [], _, h => by simp [cL] at h
  | a :: r, b :: s, d :: t, h1, h2 => by
    simp only [cL] at *
    have k1 : c a b <= 0 := by split at h1 <;> omega
    have k2 : c b d <= 0 := by split at h2 <;> omega
    obtain ⟨t1, t2⟩ := hc.trans a b d k1 k2
    by_cases h0 : c a d = 0
    · obtain ⟨e1, e2⟩ := t2 h0
      rw [if_pos e1] at h1
      rw [if_pos e2] at h2
      rw [if_pos h0, if_pos e1, if_pos e2]
      exact q5v hc r s t h1 h2
    · rw [if_neg h0]
      exact ⟨t1, fun h => absurd h h0⟩
theorem q3P {α : Type} {c : α -> α -> Int} (hc : Pre c) : Pre (cL c) := ⟨q7t hc.anti, q5v hc⟩
theorem q2k {α : Type} {c : α -> α -> Int} (hc : ∀ x y, c x y = 0 ↔ x = y) : ∀ x y, cL c x y = 0 ↔ x = y
  | [], [] => by simp [cL]
  | [], _ :: _ => by simp [cL]
  | _ :: _, [] => by simp [cL]
  | a :: r, b :: s => by
    simp only [cL, List.cons.injEq]
    by_cases h : c a b = 0
    · rw [if_pos h, q2k hc r s]; exact ⟨fun e => ⟨(hc a b).1 h, e⟩, fun e => e.2⟩
    · rw [if_neg h]; exact ⟨fun e => absurd e h, fun e => absurd ((hc a b).2 e.1) h⟩
theorem q0E : ∀ a b : List UInt8, Lib.compareBytes a b = cL (fun x y => Lib.compareInt (x.toNat : Int) (y.toNat : Int)) a b
  | [], [] => rfl
  | [], _ :: _ => rfl
  | _ :: _, [] => rfl
  | x :: r, y :: s => by
    simp only [Lib.compareBytes, cL, q0E r s, Lib.compareInt, UInt8.lt_iff_toNat_lt]
    repeat' split
    all_goals first | rfl | (exfalso; omega)
theorem pre_bytes : Pre Lib.compareBytes := by
  have := q3P (pre_int.on fun x : UInt8 => (x.toNat : Int))
  refine ⟨fun x y => ?_, fun x y z => ?_⟩
  · rw [q0E, q0E]; exact this.anti x y
  · rw [q0E, q0E, q0E]; exact this.trans x y z
theorem q2V (a b : List UInt8) : Lib.compareBytes a b = 0 ↔ a = b := by
  rw [q0E]
  refine q2k (fun x y => ?_) a b
  rw [q3Z]
  exact ⟨fun h => UInt8.toNat_inj.1 (by omega), fun h => by rw [h]⟩
theorem q4C (c:UInt8)(w:World):
  Calls Tryz.prog 46 #[.int .u8 (c.toNat:Int)] w fun e w'=>e= .returned (.bool (nb c))/\w'=w:=by
 unfold nb
 have hc:=c.toNat_lt
 generalize c.toNat=n at *
 by_cases h1:97<=n <;> by_cases h2:n<=122 <;> by_cases h3:48<=n <;> by_cases h4:n<=57 <;> first|(exfalso;omega)|skip
 all_goals
  go_enter Tryz.func46,Tryz.ntmps46
  go_wp2
  go_ret
  refine ⟨q0Z ?_,rfl⟩
  rw[Bool.eq_iff_iff]
  first|done|(simp;omega)|simp
theorem q2F (s:ByteArray)(w:World)(hs:s.size<=9223372036854775807):
  Calls Tryz.prog 20 #[.string s] w fun e w'=>e= .returned (.bool (q0q s))/\w'=w:=by
 by_cases h1:1<=s.size
 ·by_cases h2:s.size<=32
  ·have hn:q0q s=s.data.toList.all nb:=by unfold q0q;simp[h1,h2]
   rw[hn]
   clear hn
   generalize hR:s.data.toList.all nb=R
   have HR:=hZq hR
   clear hR
   have hlen:s.data.toList.length=s.size:=Array.length_toList
   go_enter Tryz.func20,Tryz.ntmps20
   go_wp2
   go_loop [14,3] (fun i _=> ∃k:Nat,k<=s.size/\i= .int .i64 (k:Int)/\Hid (∀c∈s.data.toList.take k,nb c=true)) (fun i _=>s.size-(intOf i).toNat)
   case atStart=>exact ⟨0,Nat.zero_le _,rfl,hZq (by simp)⟩
   case round=>
    obtain ⟨k,hk,rfl,HK⟩:=hrel
    by_cases hlt:k<s.size
    ·have hget:s[k]∈s.data.toList:=by
      have:s[k]=s.data.toList[k]'(by omega):=rfl
      rw[this];exact zJ _
     have hsn:s.data.toList.take (k+1)=s.data.toList.take k++[s[k]]:=by
      rw[List.take_succ_eq_append_getElem (by omega)];rfl
     have HG:=hZq hget
     have HS:=hZq hsn
     clear hget hsn hlen
     have hby:=fun w=>q4C s[k] w
     by_cases hb:nb s[k]=true
     ·simp only[hb]at hby
      have HB:=hZq hby
      clear hby
      go_wp2_with fail
      refine (uQ HB _).mono ?_
      rintro e w1 ⟨rfl,rfl⟩
      go_wp2
      go_round
      case rel=>exact ⟨k+1,by omega,by go_num,hZq (fun c hc=>by
       rw[uQ HS,zG]at hc
       rcases hc with hc|hc
       ·exact uQ HK c hc
       ·rw[zD]at hc;rw[hc];exact hb)⟩
      case measure=>simp[intOf];omega
     ·have hb':nb s[k]=false:=by simpa using hb
      have hall:s.data.toList.all nb=false:=List.all_eq_false.2 ⟨_,uQ HG,by rw[hb'];simp⟩
      have HALL:=hZq hall
      simp only[hb']at hby
      have HB:=hZq hby
      clear hby hb hb' hall
      go_wp2_with fail
      refine (uQ HB _).mono ?_
      rintro e w1 ⟨rfl,rfl⟩
      go_wp2
      go_ret
      exact ⟨by rw[<-uQ HR,uQ HALL];rfl,rfl⟩
    ·have hall:s.data.toList.all nb=true:=List.all_eq_true.2 (fun c hc=>uQ HK c (by rw[List.take_of_length_le (by omega)];exact hc))
     have HALL:=hZq hall
     clear hall
     go_wp2
     go_ret
     exact ⟨by rw[<-uQ HR,uQ HALL];rfl,rfl⟩
  ·have hn:q0q s=false:=by unfold q0q;simp[h2]
   rw[hn]
   go_enter Tryz.func20,Tryz.ntmps20
   go_wp2
   all_goals go_ret
   all_goals exact ⟨rfl,rfl⟩
 ·have hn:q0q s=false:=by unfold q0q;simp[h1]
  rw[hn]
  go_enter Tryz.func20,Tryz.ntmps20
  go_wp2
  all_goals go_ret
  all_goals exact ⟨rfl,rfl⟩
def q0H:Int->List Int->Bool
 |_,[]=>true
 |a,p::r=>if p<=a\/1073741824<p then false else q0H p r
theorem qbP (a:Int)(ad:Option Addr)(cap:Nat)(l:List Int)(w:World)(hl:l.length<=9223372036854775807)(hA:IntsAt w ad l):
  Calls Tryz.prog 21 #[.int .i64 a, .slice ad l.length cap] w fun e w'=>e= .returned (.bool (q0H a l))/\w'=w:=by
 generalize hR:q0H a l=R
 have HR:=hZq hR
 have HA:=hZq hA
 clear hR hA
 go_enter Tryz.func21,Tryz.ntmps21
 go_wp2
 go_loop [0,9,6] (fun x i _=> ∃(k:Nat) (y:Int),k<=l.length/\i= .int .i64 (k:Int)/\x= .int .i64 y/\Hid (q0H y (l.drop k)=R)) (fun _ i _=>l.length-(intOf i).toNat)
 case atStart=>exact ⟨0,a,Nat.zero_le _,rfl,rfl,HR⟩
 case round=>
  obtain ⟨k,y,hk,rfl,rfl,HK⟩:=hrel
  by_cases hlt:k<l.length
  ·obtain ⟨b,off,rfl,_,hc⟩:=uQ HA (fun e=>by rw[e]at hlt;simp at hlt)
   have c:=hc k hlt
   have hK:=uQ HK
   rw[List.drop_eq_getElem_cons hlt,q0H]at hK
   clear hc HA HR HK
   generalize l[k]=p at *
   by_cases h1:p<=y
   ·rw[if_pos (Or.inl h1)]at hK
    subst hK
    go_wp2
    go_ret
    exact ⟨rfl,rfl⟩
   ·by_cases h2:1073741824<p
    ·rw[if_pos (Or.inr h2)]at hK
     subst hK
     go_wp2
     go_ret
     exact ⟨rfl,rfl⟩
    ·rw[if_neg (by rintro (h|h) <;> omega)]at hK
     have HK:=hZq hK
     clear hK
     go_wp2
     go_round
     case rel=>exact ⟨k+1,p,by omega,by go_num,rfl,HK⟩
     case measure=>simp[intOf];omega
  ·have hK:=uQ HK
   rw[List.drop_of_length_le (by omega),q0H]at hK
   subst hK
   clear HK HR
   go_wp2
   go_ret
   exact ⟨rfl,rfl⟩
def mayE (k t x:ByteArray):Bool:=q0q k && q0q t && decide (x.size<=256)
def chkE (k t x:ByteArray):Int:=if mayE k t x=true then 0 else 20
theorem q3A (k t x:ByteArray)(n0 n1 n2 n3:Int)(w:World)(hk:k.size<=9223372036854775807)(ht:t.size<=9223372036854775807)(hx:x.size<=9223372036854775807):
  Calls Tryz.prog 33 #[.agg #[.string k, .string t, .int .i64 n0, .int .i64 n1, .int .i64 n2, .int .i64 n3, .string x]] w fun e w'=>e= .returned (.int .i64 (chkE k t x))/\w'=w.alloc (.cells #[.string k, .string t, .int .i64 n0, .int .i64 n1, .int .i64 n2, .int .i64 n3, .string x] 30):=by
 have nk:=fun w=>q2F k w hk
 have nt:=fun w=>q2F t w ht
 by_cases b1:q0q k=true
 ·by_cases b2:q0q t=true
  ·simp only[b1]at nk
   simp only[b2]at nt
   have NK:=hZq nk
   have NT:=hZq nt
   by_cases b3:x.size<=256
   ·have e:chkE k t x=0:=by unfold chkE mayE;simp[b1,b2,b3]
    rw[e]
    clear nk nt b1 b2 e
    go_enter Tryz.func33,Tryz.ntmps33
    go_wp2_with fail
    refine (uQ NK _).mono ?_
    rintro e w1 ⟨rfl,rfl⟩
    go_wp2_with fail
    refine (uQ NT _).mono ?_
    rintro e w1 ⟨rfl,rfl⟩
    go_wp2
    go_ret
    exact ⟨rfl,rfl⟩
   ·have e:chkE k t x=20:=by unfold chkE mayE;simp[b3]
    rw[e]
    clear nk nt b1 b2 e
    go_enter Tryz.func33,Tryz.ntmps33
    go_wp2_with fail
    refine (uQ NK _).mono ?_
    rintro e w1 ⟨rfl,rfl⟩
    go_wp2_with fail
    refine (uQ NT _).mono ?_
    rintro e w1 ⟨rfl,rfl⟩
    go_wp2
    go_ret
    exact ⟨rfl,rfl⟩
  ·have b2':q0q t=false:=by simpa using b2
   have e:chkE k t x=20:=by unfold chkE mayE;simp[b2']
   rw[e]
   simp only[b1]at nk
   simp only[b2']at nt
   have NK:=hZq nk
   have NT:=hZq nt
   clear nk nt b1 b2 b2' e
   go_enter Tryz.func33,Tryz.ntmps33
   go_wp2_with fail
   refine (uQ NK _).mono ?_
   rintro e w1 ⟨rfl,rfl⟩
   go_wp2_with fail
   refine (uQ NT _).mono ?_
   rintro e w1 ⟨rfl,rfl⟩
   go_wp2
   go_ret
   exact ⟨rfl,rfl⟩
 ·have b1':q0q k=false:=by simpa using b1
  have e:chkE k t x=20:=by unfold chkE mayE;simp[b1']
  rw[e]
  simp only[b1']at nk
  have NK:=hZq nk
  clear nk nt b1 b1' e
  go_enter Tryz.func33,Tryz.ntmps33
  go_wp2_with fail
  refine (uQ NK _).mono ?_
  rintro e w1 ⟨rfl,rfl⟩
  go_wp2
  go_ret
  exact ⟨rfl,rfl⟩
theorem q78 (sa:Option Addr)(n sc:Nat)(wi:Int)(ea:Option Addr)(m ec:Nat)(w:World):
  Calls Tryz.prog 14 #[.agg #[.slice sa n sc, .int .i64 wi], .slice ea m ec] w fun e w'=>e= .returned (.func (.func 36) #[] #[.pointer (some ⟨w.heap.size,0,none⟩), .pointer (some ⟨w.heap.size+1,0,none⟩)])/\w'=(w.alloc (.cells #[.slice sa n sc, .int .i64 wi] 24)).alloc (.cells #[.slice ea m ec] 25):=by
 go_enter Tryz.func14,Tryz.ntmps14
 go_wp2
 go_ret
 exact ⟨rfl,rfl⟩
def evE:List Ev->Int
 |[]=>0
 |e::r=>if chkE e.k e.t e.x=0 then evE r else chkE e.k e.t e.x
def mckE (p:Ptn)(es:List Ev):Int:=if (pcR p).2=0 then (if 4096<es.length then 2 else evE es) else (pcR p).2
def evSz (e:Ev):Prop:=e.k.size<=9223372036854775807/\e.t.size<=9223372036854775807/\e.x.size<=9223372036854775807
theorem q48 (sa:Option Addr)(sc:Nat)(l:List SR)(wi:Int)(ea:Option Addr)(ec:Nat)(es:List Ev)(w:World)(h:StsAt w sa l)(hev:EvsAt w ea es)(hT:TbE w)(hok: ∀r∈l,r.s.ok)(hl:l.length<=9223372036854775807)(hes:es.length<=9223372036854775807)(hsz: ∀e∈es,evSz e):
  Calls Tryz.prog 12 #[.agg #[.slice sa l.length sc, .int .i64 wi], .slice ea es.length ec] w fun e w'=>e= .returned (.int .i64 (mckE ⟨stgs l,wi⟩ es))/\Kp [] w w':=by
 have k1:=Kp.alloc w (.cells #[.slice sa l.length sc, .int .i64 wi] 24)
 have p1:=CBox.new w #[.slice sa l.length sc, .int .i64 wi] 24
 have c0:=p1.cell (i:=0) (v:= .slice sa l.length sc) rfl
 have c1:=p1.cell (i:=1) (v:= .int .i64 wi) rfl
 have PC:=hZq (q1O sa sc l wi (w.alloc (.cells #[.slice sa l.length sc, .int .i64 wi] 24)) (h.kp k1) (hT.kp k1 (by simp)) hok hl)
 have HK1:=hZq k1
 obtain ⟨E,hE⟩: ∃E,E=mckE ⟨stgs l,wi⟩ es:=⟨_,rfl⟩
 rw[<-hE]
 have HE:=hZq hE
 have HEV:=hZq hev
 have HSZ:=hZq hsz
 obtain ⟨P1,hP1⟩: ∃P1,P1=(pcR ⟨stgs l,wi⟩).1:=⟨_,rfl⟩
 obtain ⟨P2,hP2⟩: ∃P2,P2=(pcR ⟨stgs l,wi⟩).2:=⟨_,rfl⟩
 rw[<-hP1, <-hP2]at PC
 have HP2:=hZq hP2
 clear h hev hT hok hsz hE hP1 hP2 k1 p1
 generalize l.length=n at *
 obtain ⟨m,hm⟩: ∃m,es.length=m:=⟨_,rfl⟩
 have HM:=hZq hm
 rw[hm]at hes ⊢
 clear hm
 obtain ⟨W1,hW1⟩: ∃W1,W1=w.alloc (.cells #[.slice sa n sc, .int .i64 wi] 24):=⟨_,rfl⟩
 rw[<-hW1]at PC HK1 c0 c1
 go_enter Tryz.func12,Tryz.ntmps12
 go_upto_region 1 with fail
 rw[<-hW1]
 clear hW1
 go_wp2_with fail
 refine (uQ PC).mono ?_
 rintro e w2 ⟨rfl,hb2⟩
 have HK2:=hZq ((uQ HK1).trans (Kp.ofBelow hb2) (by simp))
 clear PC HK1 hb2 c0 c1
 by_cases h0:P2=0
 ·by_cases hmm:4096<m
  ·have hmi:(4096:Int)<(m:Int):=by omega
   have HEE:Hid (E=2):=hZq (by rw[uQ HE];unfold mckE;rw[<-uQ HP2,if_pos h0,if_pos (by rw[uQ HM];exact hmm)])
   go_wp2
   go_ret
   exact ⟨by rw[uQ HEE];rfl,uQ HK2⟩
  ·have hmi: ¬ (4096:Int)<(m:Int):=by omega
   have HEE:Hid (E=evE (es.drop 0)):=hZq (by rw[uQ HE];unfold mckE;rw[<-uQ HP2,if_pos h0,if_neg (by rw[uQ HM];exact hmm)];rfl)
   go_wp2_with fail
   go_loopw [23] (fun iv wr=> ∃j:Nat,j<=m/\iv= .int .i64 (j:Int)/\Hid (E=evE (es.drop j)/\Kp [] w wr)) (fun iv _=>m-(intOf iv).toNat)
   case atStart=>exact ⟨0,Nat.zero_le _,rfl,hZq ⟨uQ HEE,uQ HK2⟩⟩
   case round=>
    obtain ⟨j,hj,rfl,HR⟩:=hrel
    obtain ⟨hE,hk⟩:=uQ HR
    have HEJ:=hZq hE
    have HKJ:=hZq hk
    clear HR hE HEE HK2 HE
    by_cases hlt:j<m
    ·have hji:(j:Int)<(m:Int):=by omega
     have hjl:j<es.length:=by rw[uQ HM];exact hlt
     obtain ⟨b,off,rfl,_,hc⟩:=((uQ HEV).kp hk (by simp)) (fun e=>by rw[e]at hjl;simp at hjl)
     have hcj:=hc j es[j] (zE hjl)
     have hs:=uQ HSZ es[j] (zJ hjl)
     have HDR:Hid (es.drop j=es[j]::es.drop (j+1)):=hZq (List.drop_eq_getElem_cons hjl)
     generalize es[j]=x at *
     obtain ⟨xk,xt,x0,x1,x2,x3,xx⟩:=x
     unfold Ev.c at hcj
     unfold evSz at hs
     dsimp only at hcj hs
     have y0:=hcj 0 _ rfl
     have y1:=hcj 1 _ rfl
     have y2:=hcj 2 _ rfl
     have y3:=hcj 3 _ rfl
     have y4:=hcj 4 _ rfl
     have y5:=hcj 5 _ rfl
     have y6:=hcj 6 _ rfl
     rw[Nat.add_zero]at y0
     have ka:=Kp.alloc wr (.cells #[.string xk, .string xt, .int .i64 x0, .int .i64 x1, .int .i64 x2, .int .i64 x3, .string xx] 30)
     have pe:=CBox.new wr #[.string xk, .string xt, .int .i64 x0, .int .i64 x1, .int .i64 x2, .int .i64 x3, .string xx] 30
     have z0:=pe.cell (i:=0) (v:= .string xk) rfl
     have z1:=pe.cell (i:=1) (v:= .string xt) rfl
     have z2:=pe.cell (i:=2) (v:= .int .i64 x0) rfl
     have z3:=pe.cell (i:=3) (v:= .int .i64 x1) rfl
     have z4:=pe.cell (i:=4) (v:= .int .i64 x2) rfl
     have z5:=pe.cell (i:=5) (v:= .int .i64 x3) rfl
     have z6:=pe.cell (i:=6) (v:= .string xx) rfl
     have CK:=hZq (q3A xk xt xx x0 x1 x2 x3 (wr.alloc (.cells #[.string xk, .string xt, .int .i64 x0, .int .i64 x1, .int .i64 x2, .int .i64 x3, .string xx] 30)) hs.1 hs.2.1 hs.2.2)
     have HKA:=hZq (((uQ HKJ).trans ka (by simp)).trans (Kp.alloc _ (.cells #[.string xk, .string xt, .int .i64 x0, .int .i64 x1, .int .i64 x2, .int .i64 x3, .string xx] 30)) (by simp))
     obtain ⟨Q,hQ⟩: ∃Q,Q=chkE xk xt xx:=⟨_,rfl⟩
     rw[<-hQ]at CK
     have HEQ:Hid (E=if Q=0 then evE (es.drop (j+1)) else Q):=hZq (by
      rw[uQ HEJ,uQ HDR,hQ]
      rfl)
     clear hc hcj hs HDR ka pe hQ HEJ HKJ hk HEV HSZ HP2 HM
     go_wp2_with fail
     refine (uQ CK).mono ?_
     rintro e w5 ⟨rfl,rfl⟩
     clear CK y0 y1 y2 y3 y4 y5 y6 z0 z1 z2 z3 z4 z5 z6
     by_cases hq0:Q=0
     ·have HN:Hid (E=evE (es.drop (j+1))/\Kp [] w _):=hZq ⟨by rw[uQ HEQ,if_pos hq0],uQ HKA⟩
      clear HEQ HKA
      go_wp2
      go_roundw
      case rel=>exact ⟨j+1,by omega,by go_num,HN⟩
      case measure=>simp[intOf];omega
     ·have HN:Hid (E=Q/\Kp [] w _):=hZq ⟨by rw[uQ HEQ,if_neg hq0],uQ HKA⟩
      clear HEQ HKA
      go_wp2
      go_ret
      exact ⟨by rw[(uQ HN).1];rfl,(uQ HN).2⟩
    ·obtain rfl:j=m:=by omega
     have HEE:Hid (E=0):=hZq (by rw[uQ HEJ, <-uQ HM,List.drop_length];rfl)
     clear HEJ hk
     go_wp2
     go_ret
     exact ⟨by rw[uQ HEE];rfl,uQ HKJ⟩
 ·have HEE:Hid (E=P2):=hZq (by rw[uQ HE];unfold mckE;rw[<-uQ HP2,if_neg h0])
  go_wp2
  go_ret
  exact ⟨by rw[uQ HEE];rfl,uQ HK2⟩
theorem q8f (xk xt xx key:ByteArray)(x0 x1 x2 x3:Int)(kb:Nat)(w:World)(hc:w.cell? ⟨kb,0,none⟩=some (.string key)):
  Calls Tryz.prog 35 #[.agg #[.string xk, .string xt, .int .i64 x0, .int .i64 x1, .int .i64 x2, .int .i64 x3, .string xx], .pointer (some ⟨kb,0,none⟩)] w fun e w'=>e= .returned (.bool (!(xk.toList==key.toList)))/\Kp [] w w':=by
 have hlt:kb<w.heap.size:=World.block_lt_of_cell? _ _ hc
 have ka:=Kp.alloc w (.cells #[.string xk, .string xt, .int .i64 x0, .int .i64 x1, .int .i64 x2, .int .i64 x3, .string xx] 30)
 have c1:=ka.cell hc (by simp)
 have pe:=CBox.new w #[.string xk, .string xt, .int .i64 x0, .int .i64 x1, .int .i64 x2, .int .i64 x3, .string xx] 30
 have z0:=pe.cell (i:=0) (v:= .string xk) rfl
 have HK:=hZq ka
 clear ka pe
 go_enter Tryz.func35,Tryz.ntmps35
 go_wp2
 go_ret
 exact ⟨rfl,uQ HK⟩
def othK (key:ByteArray)(es:List Ev):Bool:=es.any fun x=> !(x.k.toList==key.toList)
theorem q72 (ea:Option Addr)(ec:Nat)(es:List Ev)(key:ByteArray)(kb:Nat)(w:World)(hev:EvsAt w ea es)(hes:es.length<=9223372036854775807)(hc:w.cell? ⟨kb,0,none⟩=some (.string key)):
  Calls Tryz.prog 55 #[.slice ea es.length ec, .func (.func 35) #[] #[.pointer (some ⟨kb,0,none⟩)]] w fun e w'=>(∃i:Int,e= .returned (.int .i64 i)/\decide (0<=i)=othK key es)/\Kp [] w w':=by
 have HEV:=hZq hev
 have HC:=hZq hc
 obtain ⟨B,hB⟩: ∃B,B=othK key es:=⟨_,rfl⟩
 rw[<-hB]
 have HB:Hid (B=othK key (es.drop 0)):=hZq hB
 obtain ⟨m,hm⟩: ∃m,es.length=m:=⟨_,rfl⟩
 have HM:=hZq hm
 rw[hm]at hes ⊢
 clear hm hB hev hc
 go_enter Tryz.func55,Tryz.ntmps55
 go_wp2_with fail
 go_loopw [8] (fun iv wr=> ∃j:Nat,j<=m/\iv= .int .i64 (j:Int)/\Hid (B=othK key (es.drop j)/\Kp [] w wr)) (fun iv _=>m-(intOf iv).toNat)
 case atStart=>exact ⟨0,Nat.zero_le _,rfl,hZq ⟨uQ HB,Kp.refl _ _⟩⟩
 case round=>
  obtain ⟨j,hj,rfl,HR⟩:=hrel
  obtain ⟨hE,hk⟩:=uQ HR
  have HEJ:=hZq hE
  have HKJ:=hZq hk
  clear HR hE HB
  by_cases hlt:j<m
  ·have hji:(j:Int)<(m:Int):=by omega
   have hjl:j<es.length:=by rw[uQ HM];exact hlt
   obtain ⟨b,off,rfl,_,hc⟩:=((uQ HEV).kp hk (by simp)) (fun e=>by rw[e]at hjl;simp at hjl)
   have hcj:=hc j es[j] (zE hjl)
   have HDR:Hid (es.drop j=es[j]::es.drop (j+1)):=hZq (List.drop_eq_getElem_cons hjl)
   have hkc:=hk.cell (uQ HC) (by simp)
   generalize es[j]=x at *
   obtain ⟨xk,xt,x0,x1,x2,x3,xx⟩:=x
   unfold Ev.c at hcj
   dsimp only at hcj
   have y0:=hcj 0 _ rfl
   have y1:=hcj 1 _ rfl
   have y2:=hcj 2 _ rfl
   have y3:=hcj 3 _ rfl
   have y4:=hcj 4 _ rfl
   have y5:=hcj 5 _ rfl
   have y6:=hcj 6 _ rfl
   rw[Nat.add_zero]at y0
   have CK:=hZq (q8f xk xt xx key x0 x1 x2 x3 kb wr hkc)
   obtain ⟨Q,hQ⟩: ∃Q,Q= !(xk.toList==key.toList):=⟨_,rfl⟩
   rw[<-hQ]at CK
   have HEQ:Hid (B=(Q||othK key (es.drop (j+1)))):=hZq (by
    rw[uQ HEJ,uQ HDR,hQ]
    rfl)
   clear hc hcj HDR hQ HEJ hk HEV HM HC hkc
   go_wp2_with fail
   refine (uQ CK).mono ?_
   rintro e w5 ⟨rfl,hk5⟩
   have HKA:=hZq ((uQ HKJ).trans hk5 (by simp))
   clear CK y0 y1 y2 y3 y4 y5 y6 hk5 HKJ
   cases Q with
   |true=>
    have HBB:Hid (B=true):=hZq (by rw[uQ HEQ];rfl)
    clear HEQ
    go_wp2
    go_ret
    exact ⟨⟨(j:Int),rfl,by rw[uQ HBB];exact decide_eq_true (by omega)⟩,uQ HKA⟩
   |false=>
    have HN:Hid (B=othK key (es.drop (j+1))/\Kp [] w w5):=hZq ⟨by rw[uQ HEQ];rfl,uQ HKA⟩
    clear HEQ HKA
    go_wp2
    go_roundw
    case rel=>exact ⟨j+1,by omega,by go_num,HN⟩
    case measure=>simp[intOf];omega
  ·obtain rfl:j=m:=by omega
   have HBB:Hid (B=false):=hZq (by rw[uQ HEJ, <-uQ HM,List.drop_length];rfl)
   clear HEJ hk
   go_wp2
   go_ret
   exact ⟨⟨-1,rfl,by rw[uQ HBB];rfl⟩,uQ HKJ⟩
def arE (key:ByteArray)(es:List Ev):Bool:=if chkE key ⟨#[116]⟩ ⟨#[]⟩=0 then !othK key es else false
theorem q91 (ea:Option Addr)(ec:Nat)(es:List Ev)(key:ByteArray)(w:World)(hev:EvsAt w ea es)(hes:es.length<=9223372036854775807)(hks:key.size<=9223372036854775807):
  Calls Tryz.prog 13 #[.string key, .slice ea es.length ec] w fun e w'=>e= .returned (.bool (arE key es))/\Kp [] w w':=by
 have k1:=Kp.alloc w (.cells #[.string key] 9)
 have p1:=CBox.new w #[.string key] 9
 have c0:=p1.cell (i:=0) (v:= .string key) rfl
 have CK:=hZq (q3A key ⟨#[116]⟩ ⟨#[]⟩ 0 0 0 0 (w.alloc (.cells #[.string key] 9)) hks (by decide) (by decide))
 have k2:=Kp.alloc (w.alloc (.cells #[.string key] 9)) (.cells #[.string key, .string ⟨#[116]⟩, .int .i64 0, .int .i64 0, .int .i64 0, .int .i64 0, .string ⟨#[]⟩] 30)
 have k12:=k1.trans k2 (by simp)
 have IX:=hZq (q72 ea ec es key w.heap.size ((w.alloc (.cells #[.string key] 9)).alloc (.cells #[.string key, .string ⟨#[116]⟩, .int .i64 0, .int .i64 0, .int .i64 0, .int .i64 0, .string ⟨#[]⟩] 30)) (hev.kp k12 (by simp)) hes ((p1.kp k2 (by simp)).cell rfl))
 obtain ⟨A,hA⟩: ∃A,A=arE key es:=⟨_,rfl⟩
 rw[<-hA]
 obtain ⟨Q,hQ⟩: ∃Q,Q=chkE key ⟨#[116]⟩ ⟨#[]⟩:=⟨_,rfl⟩
 rw[<-hQ]at CK
 obtain ⟨O,hO⟩: ∃O,O=othK key es:=⟨_,rfl⟩
 rw[<-hO]at IX
 have HA:Hid (A=if Q=0 then !O else false):=hZq (by rw[hA,hQ,hO];rfl)
 have HK:=hZq k12
 generalize es.length=m at *
 clear hev k1 k2 k12 p1 hA hQ hO
 go_enter Tryz.func13,Tryz.ntmps13
 go_wp2_with fail
 refine (uQ CK).mono ?_
 rintro e w2 ⟨rfl,rfl⟩
 clear CK
 by_cases h0:Q=0
 ·have CF:Hid (Calls Tryz.prog 34 #[.slice ea m ec, .func (.func 35) #[] #[.pointer (some ⟨w.heap.size,0,none⟩)]] ((w.alloc (.cells #[.string key] 9)).alloc (.cells #[.string key, .string ⟨#[116]⟩, .int .i64 0, .int .i64 0, .int .i64 0, .int .i64 0, .string ⟨#[]⟩] 30)) fun e w'=>e= .returned (.bool O)/\Kp [] w w'):=hZq (by
   clear HA c0
   go_enter Tryz.func34,Tryz.ntmps34
   go_wp2_with fail
   refine (uQ IX).mono ?_
   rintro e w3 ⟨⟨i,rfl,hi⟩,hk3⟩
   have HKF:=hZq ((uQ HK).trans hk3 (by simp))
   clear IX hk3
   go_wp2
   go_ret
   exact ⟨by rw[<-hi];rfl,uQ HKF⟩)
  have HAA:Hid (A= !O):=hZq (by rw[uQ HA,if_pos h0])
  clear IX HA HK
  go_wp2_with fail
  refine (uQ CF).mono ?_
  rintro e w3 ⟨rfl,hk3⟩
  clear CF
  have HKF:=hZq hk3
  clear hk3
  go_wp2
  go_ret
  exact ⟨by rw[uQ HAA];rfl,uQ HKF⟩
 ·have HAA:Hid (A=false):=hZq (by rw[uQ HA,if_neg h0])
  clear IX HA
  go_wp2
  go_ret
  exact ⟨by rw[uQ HAA];rfl,uQ HK⟩
end Go.Proofs.YtfgkikeeadlcfaaGreatDoor
