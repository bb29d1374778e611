/-
  Walks and plain facts, made small.
-/
import Derived.Test.YtcmjnlpofebbmaaGreatDoorMa29
import Derived.Laws.Cover3
import Derived.Maps.OwnSet
import Derived.WideKeyRuns
set_option maxRecDepth 100000
set_option maxHeartbeats 8000000
set_option linter.unusedSimpArgs false
namespace Go.Proofs.YtcmjnlpofebbmaaGreatDoor
open Go.RowKit Go.Shelf
structure XK where
 k:HK
 gx:Nat
 W:Nat
 Z:Nat
 av:Value
 nv:Value
 nvs:List Value
def XK.ss (x:XK):List Stg:=stgs x.k.l
structure XkI (x:XK):Prop where
 hI:HkI x.k
 hp:(pcR x.k.p).2=0
 wi:x.k.wi=(x.W:Int)
 zz:x.Z=x.k.es.length * x.W
 xb: ∀w,Kp x.k.F0 x.k.w0 w->CBox x.gx #[.pointer (some ⟨x.k.gt,0,none⟩),x.av,x.nv] 132 w
 az: ∀w,Kp x.k.F0 x.k.w0 w-> ∀t,t<x.k.l.length-> ∃ga ca b c,x.av= .slice (some ⟨ga,0,none⟩) x.k.l.length ca/\w.cell? ⟨ga,t,none⟩=some (.slice b (asT x.ss t).length c)/\IntsAt w b ((asT x.ss t).map Int.ofNat)
 nz: ∀w,Kp x.k.F0 x.k.w0 w-> ∀t,t<x.k.l.length-> ∃gn cn v,x.nv= .slice (some ⟨gn,0,none⟩) x.k.l.length cn/\x.nvs[t]?=some v/\w.cell? ⟨gn,t,none⟩=some v/\(1<(asT x.ss t).length->v= .slice none 0 0)/\((asT x.ss t).length<=1-> ∃b,v= .slice (some ⟨b,0,none⟩) x.Z x.Z/\b∈x.k.F0)
 nd: ∀(i j:Nat) (a b:Value) (k:Nat),x.nvs[i]?=some a->x.nvs[j]?=some b->a.ownBlock=some k->b.ownBlock=some k->i=j
def NtS (x:XK)(w:World):Prop:= ∀(t b:Nat),x.nvs[t]?=some (.slice (some ⟨b,0,none⟩) x.Z x.Z)-> ∃row,CBox b (ntR row) 144 w/\row.length=x.Z/\Mt.NtOk x.k.P t x.W (asT x.ss t) row
def ntF (x:XK):List Nat:=x.nvs.flatMap fun u=>u.ownBlock.toList
theorem NtS.kp {x:XK}{w w':World}{F:List Nat}(h:NtS x w)(hk:Kp F w w')(hF: ∀b∈ntF x,b∉F):NtS x w':=fun t b hb=>by
 obtain ⟨row,h1,h2⟩:=h t b hb
 exact ⟨row,h1.kp hk (hF b (by unfold ntF;rw[List.mem_flatMap];exact ⟨_,List.mem_of_getElem? hb,by simp[Value.ownBlock]⟩)),h2⟩
theorem q5Y {T:List (List Nat)}{t i:Nat}(hi:i<t):(Mt.las T t).getD i 0=Mt.lst (T.getD i []):=by
 rw[List.getD_eq_getElem?_getD,Mt.las_at hi,List.getD_eq_getElem?_getD]
 cases T[i]? with
 |none=>rfl
 |some a=>rfl
theorem q8G (x:XK)(hX:XkI x)(w:World)(T:List (List Nat))(L:List Ev)(pv lv:Value)(vs:List Value)(h:HkS x.k w T L pv lv vs)(t q:Nat)(ht:t<x.k.l.length)(htT:t<=T.length)(hne: ∀l∈T,l≠[]/\l.length<=4096)(hq:q<=4096)(hle: ∀i∈(asT x.ss t).head?,(Mt.las T t).getD i 0<=q):
  Calls Tryz.prog 78 #[.pointer (some ⟨x.gx,0,none⟩), .int .i64 (t:Int), .int .i64 (q:Int)] w fun e w'=>e= .returned (.int .i64 ((Mt.apN (asT x.ss t) (Mt.las T t) q:Nat):Int))/\Kp [] w w':=by
 have hl8:=hX.hI.l8
 have hti:(t:Int)<(x.k.l.length:Int):=by omega
 have b0:=hX.xb w h.kp
 obtain ⟨ga,ca,ab,ac,hav,a0,ai⟩:=hX.az w h.kp t ht
 have c1:w.cell? ⟨x.gx,1,none⟩=some (.slice (some ⟨ga,0,none⟩) x.k.l.length ca):=by rw[<-hav];exact b0.cell rfl
 cases has:asT x.ss t with
 |nil=>
  rw[has]at a0
  have e:Mt.apN [] (Mt.las T t) q=0:=rfl
  rw[e]
  clear h hX b0 ai hne hle has
  generalize x.k.l.length=n at *
  go_enter Tryz.func78,Tryz.ntmps78
  go_wp2
  go_ret
  exact ⟨rfl,Kp.refl _ _⟩
 |cons i r=>
  have hit:i<t:=q5n hX.hp t i (by show i∈asT x.ss t;rw[has];simp)
  have hiT:i<T.length:=by omega
  have hTi:T[i]?=some T[i]:=List.getElem?_eq_getElem hiT
  obtain ⟨hn1,hn2⟩:=hne _ (List.getElem_mem hiT)
  have hgd:T.getD i []=T[i]:=by rw[List.getD_eq_getElem?_getD,hTi];rfl
  have hla:(Mt.las T t).getD i 0=Mt.lst T[i]:=by rw[q5Y hit,hgd]
  have hlq:Mt.lst T[i]<=q:=by rw[<-hla];exact hle i (by rw[has];simp)
  have e:((Mt.apN (i::r) (Mt.las T t) q:Nat):Int)=(q:Int)-(Mt.lst T[i]:Int):=by
   unfold Mt.apN
   dsimp only
   rw[hla]
   omega
  rw[e]
  rw[has]at a0 ai
  obtain ⟨gb,go,hab,hgb,hcs⟩:=ai (by simp)
  have i0:=hcs 0 (by simp)
  rw[Nat.add_zero]at i0
  have i0':w.cell? ⟨gb,go,none⟩=some (.int .i64 (i:Int)):=i0
  have LA:=hZq (fun W (hk:Kp [] w W)=>q57 x.k W T L pv lv vs (h.al hk) i T[i] hTi hn1 (by omega))
  have cS:w.drew.cell? ⟨x.gx,0,none⟩=some (.pointer (some ⟨x.k.gt,0,none⟩))/\w.drew.cell? ⟨x.gx,1,none⟩=some (.slice (some ⟨ga,0,none⟩) x.k.l.length ca)/\w.drew.cell? ⟨ga,t,none⟩=some (.slice (some ⟨gb,go,none⟩) (i::r).length ac)/\w.drew.cell? ⟨gb,go,none⟩=some (.int .i64 (i:Int)):=⟨b0.cell rfl,c1,by rw[<-hab];exact a0,i0'⟩
  rw[hab]at a0
  have hlb:(Mt.lst T[i]:Int)<=(q:Int):=by omega
  have hw1:IntKind.i64.wrap ((q:Int)-(Mt.lst T[i]:Int))=(q:Int)-(Mt.lst T[i]:Int):=by simp only[IntKind.wrap_i64];omega
  have HK:=hZq (Kp.drew w)
  clear h hX b0 ai hne hle has hcs i0 i0' hgd hla hlq e hTi hn1 hn2 hab hgb
  generalize Mt.lst T[i]=la at *
  generalize x.k.l.length=n at *
  rw[List.length_cons]at a0 cS
  generalize r.length=rl at *
  have grl:(((rl:Int)+1)==0)=false:=beq_eq_false_iff_ne.2 (by omega)
  have gr0:(0:Int)<(rl:Int)+1:=by omega
  go_enter Tryz.func78,Tryz.ntmps78
  go_wp2_with fail
  go_region_held3 (fun W=>W.cell? ⟨x.gx,0,none⟩=some (.pointer (some ⟨x.k.gt,0,none⟩))/\W.cell? ⟨x.gx,1,none⟩=some (.slice (some ⟨ga,0,none⟩) n ca)/\W.cell? ⟨ga,t,none⟩=some (.slice (some ⟨gb,go,none⟩) (rl+1) ac)/\W.cell? ⟨gb,go,none⟩=some (.int .i64 (i:Int)))
   (first|with_reducible exact cS)
   (first
    |(go_at_call 105;refine (uQ LA _ (uQ HK)).mono ?_;rintro e w2 ⟨rfl,rfl⟩))
  clear LA cS
  go_wp2
  go_ret
  exact ⟨rfl,Kp.drew w⟩
open Go.RowKit Go.Shelf
theorem q64 {row:List Int}{j:Nat}{v:Int}(h:row[j]?=some v):(ntR row)[j]?=some (.int .i8 v):=by
 unfold ntR
 simp[h]
theorem q7F (row:List Int)(j:Nat)(v:Int):(ntR row).setIfInBounds j (.int .i8 v)=ntR (row.set j v):=by
 unfold ntR
 rw[List.setIfInBounds_toArray,List.map_set]
theorem NtS.put {x:XK}(hX:XkI x){w:World}(h:NtS x w){t b:Nat}(hv:x.nvs[t]?=some (.slice (some ⟨b,0,none⟩) x.Z x.Z)){row row':List Int}(hr:CBox b (ntR row) 144 w)(hl:row'.length=x.Z)(hok:Mt.NtOk x.k.P t x.W (asT x.ss t) row'){w':World}(hk:Kp [b] w w')(hr':CBox b (ntR row') 144 w'):NtS x w':=fun t2 b2 hb2=>by
 by_cases e:t2=t
 ·subst e
  rw[hv]at hb2
  injection hb2 with e1
  injection e1 with e2
  injection e2 with e3
  injection e3 with e4
  subst e4
  exact ⟨row',hr',hl,hok⟩
 ·obtain ⟨row2,h1,h2⟩:=h t2 b2 hb2
  refine ⟨row2,h1.kp hk (fun hm=>?_),h2⟩
  rw[List.mem_singleton]at hm
  subst hm
  exact e (hX.nd t2 t _ _ b2 hb2 hv rfl rfl)
theorem q4o (x:XK)(hX:XkI x)(w:World)(T:List (List Nat))(pv lv:Value)(vs:List Value)(h:HkS x.k w T (hkL x.k T) pv lv vs)(hN:NtS x w)(hFd: ∀b∈ntF x,b∉hkF x.k pv lv vs)(t q:Nat)(ht:t<x.k.l.length)(htT:t<=T.length)(hne: ∀l∈T,l≠[]/\l.length<=4096)(hq:q<x.k.es.length)(hle: ∀i∈(asT x.ss t).head?,(Mt.las T t).getD i 0<=q)(hap:Mt.apN (asT x.ss t) (Mt.las T t) q<x.W):
  Calls Tryz.prog 42 #[.pointer (some ⟨x.gx,0,none⟩), .int .i64 (t:Int), .int .i64 (q:Int)] w fun e w'=>e= .returned (.bool (x.k.P.H t (Mt.las T t) q))/\NtS x w'/\Kp (ntF x) w w':=by
 have hl8:=hX.hI.l8
 have hel:=hX.hI.el
 have hti:(t:Int)<(x.k.l.length:Int):=by omega
 have b0:=hX.xb w h.kp
 obtain ⟨gn,cn,v,hnv,hv,n0,hv1,hv2⟩:=hX.nz w h.kp t ht
 have c2:w.cell? ⟨x.gx,2,none⟩=some (.slice (some ⟨gn,0,none⟩) x.k.l.length cn):=by rw[<-hnv];exact b0.cell rfl
 have c0:w.cell? ⟨x.gx,0,none⟩=some (.pointer (some ⟨x.k.gt,0,none⟩)):=b0.cell rfl
 rcases Nat.lt_or_ge 1 (asT x.ss t).length with h1|h1
 ·have hvn:=hv1 h1
  subst hvn
  have TH:=hZq (q4e x.k hX.hI w T pv lv vs h t q ht htT hq)
  have HN:=hZq hN
  have qn: ∀W,(binOp .eql 134 (.slice none 0 0) (.slice none 0 0)).run Tryz.prog W= .ok (.bool true) W:=fun W=>by simp[binOp,run_equal_slice_nil W 134 144 none 0 0 Tryz.underlying134]
  clear h hX b0 hne hle hap hN hFd hv hv1 hv2 hnv
  generalize x.k.P.H t (Mt.las T t) q=B at *
  generalize x.k.l.length=n at *
  go_enter Tryz.func42,Tryz.ntmps42
  go_wp2_with fail
  refine (uQ TH).mono ?_
  rintro e w2 ⟨rfl,hk2⟩
  clear TH
  go_wp2
  go_ret
  exact ⟨rfl,(uQ HN).kp hk2 (by simp),hk2.mono (by simp)⟩
 ·obtain ⟨b,rfl,hbF⟩:=hv2 h1
  obtain ⟨row,hr,hrl,hok⟩:=hN t b hv
  have hbn:b∈ntF x:=by
   unfold ntF
   rw[List.mem_flatMap]
   exact ⟨_,List.mem_of_getElem? hv,by simp[Value.ownBlock]⟩
  obtain ⟨J,hJ⟩: ∃J,J=q * x.W+Mt.apN (asT x.ss t) (Mt.las T t) q:=⟨_,rfl⟩
  have hpc:=(q1s hX.hp).2.2.1
  have hW:x.W<=256:=by have h2:x.k.wi<=256:=hpc.2;have:=hX.wi;omega
  have hJZ:J<x.Z:=by
   rw[hX.zz,hJ]
   have h2:q * x.W+x.W<=x.k.es.length * x.W:=by
    rw[<-Nat.succ_mul]
    exact Nat.mul_le_mul_right _ hq
   omega
  have hZ:x.Z<=4096 * 256:=by rw[hX.zz];exact Nat.mul_le_mul hel hW
  have hrow:row[J]?=some row[J]:=List.getElem?_eq_getElem (by rw[hrl];exact hJZ)
  have hvr:=hok J _ hrow
  have h4:q<=4096:=by omega
  have AP:=hZq (fun W (hk:Kp [] w W)=>q8G x hX W T (hkL x.k T) pv lv vs (h.al hk) t q ht htT hne h4 hle)
  have TH:=hZq (fun W (hs:HkS x.k W T (hkL x.k T) pv lv vs)=>q4e x.k hX.hI W T pv lv vs hs t q ht htT hq)
  have HST:Hid (∀(W:World) (i:Nat) (u:Value),HkS x.k W T (hkL x.k T) pv lv vs->HkS x.k (W.setCell ⟨b,i,none⟩ u) T (hkL x.k T) pv lv vs):=hZq (fun W i u hs=>hs.go (Kp.set W b i u) (fun y hy hm=>by
   rw[List.mem_singleton]at hm
   subst hm
   exact hFd y hbn hy) (fun y hy=>by
   rw[List.mem_singleton]at hy
   rw[hy]
   exact Or.inl hbF))
  have HXB:=hZq (fun W (hs:HkS x.k W T (hkL x.k T) pv lv vs)=>(hX.xb W hs.kp).cell (i:=0) (v:= .pointer (some ⟨x.k.gt,0,none⟩)) rfl)
  have HH:=hZq h
  have HFR:Hid (∀(W:World) (u:Int),Kp [] w W->(u=1\/u=2)->x.k.P.H t (Mt.las T t) q=decide (u=2)-> ∀W',Kp [b] W W'->CBox b (ntR (row.set J u)) 144 W'->NtS x W'/\Kp (ntF x) w W'):=hZq (fun W u hk hu hHu W' hk' hc'=>by
   refine ⟨(hN.kp hk (by simp)).put hX hv (hr.kp hk (by simp)) (by rw[List.length_set];exact hrl) ?_ hk' hc',(hk.mono (by simp)).trans hk' (fun y hy=>Or.inl (by rw[List.mem_singleton]at hy;rw[hy];exact hbn))⟩
   rw[hJ]
   exact hok.put (Mt.asks_pm x.k.p x.k.es) (fun i hi=>q8M hX.hp hi) h1 (q5n hX.hp t) (Mt.las_len htT) hle hap hu hHu)
  have HOLD:Hid (∀W,Kp [] w W->NtS x W/\Kp (ntF x) w W):=hZq (fun W hk=>⟨hN.kp hk (by simp),hk.mono (by simp)⟩)
  have HVR:Hid (row[J]=0\/((row[J]=1\/row[J]=2)/\x.k.P.H t (Mt.las T t) q=decide (row[J]=2))):=hZq (hvr.imp_right (fun hh=>⟨hh.1,hh.2 _ q (Mt.las_len htT) hle hJ hap⟩))
  have w1:w.drew.cell? ⟨x.k.gt,1,none⟩=some (.int .i64 (x.W:Int)):=by rw[<-hX.wi];exact (h.al (Kp.drew w)).box.cell rfl
  have HRC:Hid (∀W,Kp [] w W->CBox b (ntR row) 144 W):=hZq (fun W hk=>hr.kp hk (by simp))
  have cS:w.drew.cell? ⟨x.gx,0,none⟩=some (.pointer (some ⟨x.k.gt,0,none⟩))/\w.drew.cell? ⟨x.gx,2,none⟩=some (.slice (some ⟨gn,0,none⟩) x.k.l.length cn)/\w.drew.cell? ⟨gn,t,none⟩=some (.slice (some ⟨b,0,none⟩) x.Z x.Z)/\w.drew.cell? ⟨x.k.gt,1,none⟩=some (.int .i64 (x.W:Int)):=⟨c0,c2,n0,w1⟩
  have HS:Hid (∀W,Kp [] w.drew W->W.cell? ⟨x.gx,0,none⟩=some (.pointer (some ⟨x.k.gt,0,none⟩))/\W.cell? ⟨x.gx,2,none⟩=some (.slice (some ⟨gn,0,none⟩) x.k.l.length cn)/\W.cell? ⟨gn,t,none⟩=some (.slice (some ⟨b,0,none⟩) x.Z x.Z)/\W.cell? ⟨x.k.gt,1,none⟩=some (.int .i64 (x.W:Int))):=hZq (fun W hk=>⟨hk.cell cS.1 (by simp),hk.cell cS.2.1 (by simp),hk.cell cS.2.2.1 (by simp),hk.cell cS.2.2.2 (by simp)⟩)
  have qn: ∀W,(binOp .eql 134 (.slice (some ⟨b,0,none⟩) x.Z x.Z) (.slice none 0 0)).run Tryz.prog W= .ok (.bool false) W:=fun W=>by simp[binOp,run_equal_slice_nil W 134 144 (some ⟨b,0,none⟩) x.Z x.Z Tryz.underlying134]
  have hat:Hid ((ntR row)[J]?=some (.int .i8 row[J])):=hZq (q64 hrow)
  have HRS:Hid (∀u,(ntR row).setIfInBounds J (.int .i8 u)=ntR (row.set J u)):=hZq (fun u=>q7F row J u)
  obtain ⟨M1,hM1⟩: ∃M1,M1=q * x.W:=⟨_,rfl⟩
  have hm1:M1<=4096 * 256:=by rw[hM1];exact Nat.mul_le_mul h4 hW
  have hmul:IntKind.i64.wrap ((q:Int) * (x.W:Int))=(M1:Int):=by
   have h2:(q:Int) * (x.W:Int)=((q * x.W:Nat):Int):=by push_cast;rfl
   rw[h2, <-hM1]
   simp only[IntKind.wrap_i64]
   omega
  rw[<-hM1]at hJ
  have hadd:IntKind.i64.wrap ((M1:Int)+((Mt.apN (asT x.ss t) (Mt.las T t) q:Nat):Int))=(J:Int):=by
   simp only[IntKind.wrap_i64]
   omega
  have hJi:(J:Int)<(x.Z:Int):=by omega
  clear h hX b0 hne hle hN hFd hv hv1 hv2 hnv hr hok hvr hpc hM1 w1 c0 h1 hap hbF hbn hJ
  generalize x.k.P.H t (Mt.las T t) q=B at *
  generalize Mt.apN (asT x.ss t) (Mt.las T t) q=ap at *
  generalize x.k.l.length=n at *
  generalize row[J]=r0 at *
  clear hrow
  generalize x.Z=Z at *
  go_enter Tryz.func42,Tryz.ntmps42
  go_wp2_with fail
  go_region_held3 (fun W=>W.cell? ⟨x.gx,0,none⟩=some (.pointer (some ⟨x.k.gt,0,none⟩))/\W.cell? ⟨x.gx,2,none⟩=some (.slice (some ⟨gn,0,none⟩) n cn)/\W.cell? ⟨gn,t,none⟩=some (.slice (some ⟨b,0,none⟩) Z Z)/\W.cell? ⟨x.k.gt,1,none⟩=some (.int .i64 (x.W:Int)))
   (first|with_reducible exact cS|exact uQ HS _ (by assumption))
   (first
    |(go_at_call 78;refine (uQ AP _ (Kp.drew w)).mono ?_;rintro e w2 ⟨rfl,hk2⟩))
  have hkw2:Kp [] w w2:=(Kp.drew w).trans hk2 (by simp)
  have hs2:=(uQ HH).al hkw2
  have hr2:=uQ HRC w2 hkw2
  have d0:w2.cell? ⟨b,J,none⟩=some (.int .i8 r0):=hr2.cell (uQ hat)
  have f0:=hr2.froz J
  clear AP HS cS hk2 HRC hmul hadd
  rcases uQ HVR with rfl|⟨hr01,hB⟩
  ·clear HVR HOLD
   obtain ⟨w3,hw3⟩: ∃w3,w3=w2.setCell ⟨b,J,none⟩ (.int .i8 1):=⟨_,rfl⟩
   have hs3:HkS x.k w3 T (hkL x.k T) pv lv vs:=by rw[hw3];exact uQ HST w2 J _ hs2
   have hr3:CBox b (ntR (row.set J 1)) 144 w3:=by rw[hw3, <-uQ HRS];exact hr2.set J _
   have hk3:Kp [b] w2 w3:=by rw[hw3];exact Kp.set _ _ _ _
   have x3:=uQ HXB w3 hs3
   have T3:=hZq (uQ TH w3 hs3)
   have HFIN:=hZq (fun (u:Int) (hu:u=1\/u=2) (hHu:B=decide (u=2)) W' hk' hc'=>uQ HFR w2 u hkw2 hu hHu W' hk' hc')
   have HR3:=hZq hr3
   have HK3:=hZq hk3
   clear TH HST HXB HH HFR hs2 hkw2 hs3 hr3 hk3 hr2
   go_upto_region 6 with fail
   rw[<-hw3]
   clear hw3
   go_wp2_with fail
   refine (uQ T3).mono ?_
   rintro e w4 ⟨rfl,hk4⟩
   have hr4:=(uQ HR3).kp hk4 (by simp)
   have hl1:(row.set J 1)[J]?=some 1:=by rw[List.getElem?_set_self (by rw[hrl];exact hJZ)]
   have d4:w4.cell? ⟨b,J,none⟩=some (.int .i8 1):=hr4.cell (q64 hl1)
   have f4:=hr4.froz J
   have hk24:Kp [b] w2 w4:=(uQ HK3).trans hk4 (by simp)
   clear T3
   cases B with
   |true=>
    have hr5:=hr4.set J (.int .i8 2)
    rw[q7F,List.set_set]at hr5
    have hfin:=uQ HFIN 2 (Or.inr rfl) rfl _ (hk24.trans (Kp.set w4 b J (.int .i8 2)) (by simp)) hr5
    have d5:(w4.setCell ⟨b,J,none⟩ (.int .i8 2)).cell? ⟨b,J,none⟩=some (.int .i8 2):=hr5.cell (q64 (by rw[List.getElem?_set_self (by rw[hrl];exact hJZ)]))
    have HF:=hZq hfin
    clear HFIN HR3 HK3 hr4 hk4 hk24 hr5 hfin
    go_wp2
    go_ret
    exact ⟨rfl,uQ HF⟩
   |false=>
    have hfin:=uQ HFIN 1 (Or.inl rfl) rfl _ hk24 hr4
    have HF:=hZq hfin
    clear HFIN HR3 HK3 hr4 hk4 hk24 hfin
    go_wp2
    go_ret
    exact ⟨rfl,uQ HF⟩
  ·have hfin:=uQ HOLD w2 hkw2
   subst hB
   clear HVR HOLD TH HST HXB HH HFR hs2 hkw2 hr2
   rcases hr01 with rfl|rfl
   ·go_wp2
    go_ret
    exact ⟨rfl,hfin⟩
   ·go_wp2
    go_ret
    exact ⟨rfl,hfin⟩
open Go.RowKit Go.Shelf
open Go.ChangeMaps (setBlock)
structure Spt where
 fr:Nat
 td:Nat
 f:Nat->Nat
def Spt.a8 (x:Spt):Array Value:=#[.int .i16 (x.f 0:Int), .int .i16 (x.f 1:Int), .int .i16 (x.f 2:Int), .int .i16 (x.f 3:Int), .int .i16 (x.f 4:Int), .int .i16 (x.f 5:Int), .int .i16 (x.f 6:Int), .int .i16 (x.f 7:Int)]
def Spt.c (x:Spt):Array Value:=#[.int .i16 (x.fr:Int), .int .i16 (x.td:Int), .int .i16 (x.f 0:Int), .int .i16 (x.f 1:Int), .int .i16 (x.f 2:Int), .int .i16 (x.f 3:Int), .int .i16 (x.f 4:Int), .int .i16 (x.f 5:Int), .int .i16 (x.f 6:Int), .int .i16 (x.f 7:Int)]
def Spt.q (x y:Spt):Bool:=decide (x.fr=y.fr) && (decide (x.td=y.td) && (decide (x.f 0=y.f 0) && (decide (x.f 1=y.f 1) && (decide (x.f 2=y.f 2) && (decide (x.f 3=y.f 3) && (decide (x.f 4=y.f 4) && (decide (x.f 5=y.f 5) && (decide (x.f 6=y.f 6) && decide (x.f 7=y.f 7)))))))))
theorem Spt.q_iff (x y:Spt):x.q y=true↔x.fr=y.fr/\x.td=y.td/\ ∀i,i<8->x.f i=y.f i:=by
 unfold Spt.q
 simp only[Bool.and_eq_true,decide_eq_true_eq]
 constructor
 ·rintro ⟨h,h',h0,h1,h2,h3,h4,h5,h6,h7⟩
  refine ⟨h,h',fun i hi=>?_⟩
  match i,hi with
  |0,_=>exact h0
  |1,_=>exact h1
  |2,_=>exact h2
  |3,_=>exact h3
  |4,_=>exact h4
  |5,_=>exact h5
  |6,_=>exact h6
  |7,_=>exact h7
 ·rintro ⟨h,h',hf⟩
  exact ⟨h,h',hf 0 (by decide),hf 1 (by decide),hf 2 (by decide),hf 3 (by decide),hf 4 (by decide),hf 5 (by decide),hf 6 (by decide),hf 7 (by decide)⟩
theorem eqA8 (d:Nat)(x y:Spt)(w:World):(Op.equalIn (d+2) 184 (.agg x.a8) (.agg y.a8)).run Tryz.prog w= .ok (decide (x.f 0=y.f 0) && (decide (x.f 1=y.f 1) && (decide (x.f 2=y.f 2) && (decide (x.f 3=y.f 3) && (decide (x.f 4=y.f 4) && (decide (x.f 5=y.f 5) && (decide (x.f 6=y.f 6) && decide (x.f 7=y.f 7)))))))) w:=by
 have hi:=fun (a b:Int) (w:World)=>run_equalIn_int (P:=Tryz.prog) w d 183 .i16 .i16 a b Tryz.underlying183
 have hc: ∀a b:Nat,((a:Int)=(b:Int))=(a=b):=fun a b=>propext ⟨fun e=>by omega,fun e=>by omega⟩
 unfold Op.equalIn Spt.a8
 simp only[Sem.run_bind,run_underlying Tryz.underlying184,Result.andThen_ok]
 generalize x.f 0=a0,x.f 1=a1,x.f 2=a2,x.f 3=a3,x.f 4=a4,x.f 5=a5,x.f 6=a6,x.f 7=a7,y.f 0=b0,y.f 1=b1,y.f 2=b2,y.f 3=b3,y.f 4=b4,y.f 5=b5,y.f 6=b6,y.f 7=b7
 simp[part,Tryz.sizeOf183,go_sem,hi,hc,Std.Legacy.Range.forIn_eq_forIn_range',List.range'_succ]
 by_cases h0:a0=b0
 ·by_cases h1:a1=b1
  ·by_cases h2:a2=b2
   ·by_cases h3:a3=b3
    ·by_cases h4:a4=b4
     ·by_cases h5:a5=b5
      ·by_cases h6:a6=b6
       ·by_cases h7:a7=b7 <;> simp[h0,h1,h2,h3,h4,h5,h6,h7]
       ·simp[h0,h1,h2,h3,h4,h5,h6]
      ·simp[h0,h1,h2,h3,h4,h5]
     ·simp[h0,h1,h2,h3,h4]
    ·simp[h0,h1,h2,h3]
   ·simp[h0,h1,h2]
  ·simp[h0,h1]
 ·simp[h0]
theorem eqSp (d:Nat)(x y:Spt)(w:World):(Op.equalIn (d+3) 186 (.agg x.c) (.agg y.c)).run Tryz.prog w= .ok (x.q y) w:=by
 have hi:=fun (a b:Int) (w:World)=>run_equalIn_int (P:=Tryz.prog) w (d+1) 183 .i16 .i16 a b Tryz.underlying183
 have h8:=eqA8 d x y
 unfold Spt.a8 at h8
 have hc: ∀a b:Nat,((a:Int)=(b:Int))=(a=b):=fun a b=>propext ⟨fun e=>by omega,fun e=>by omega⟩
 unfold Spt.c Spt.q
 generalize (decide (x.f 0=y.f 0) && (decide (x.f 1=y.f 1) && (decide (x.f 2=y.f 2) && (decide (x.f 3=y.f 3) && (decide (x.f 4=y.f 4) && (decide (x.f 5=y.f 5) && (decide (x.f 6=y.f 6) && decide (x.f 7=y.f 7))))))))=Q at *
 unfold Op.equalIn
 simp only[Sem.run_bind,run_underlying Tryz.underlying186,Result.andThen_ok]
 simp[part,Tryz.sizeOf183,Tryz.sizeOf184,go_sem,hi,hc,h8]
 by_cases h0:x.fr=y.fr <;> by_cases h1:x.td=y.td <;> cases Q <;> simp[h0,h1]
theorem q3W (x:Spt)(c:Bool)(w:World):(Instr.checkKey c 10000 186 (.agg x.c)).run Tryz.prog w= .ok () w:=by
 unfold Instr.checkKey
 simp only[Sem.run_bind,run_underlying Tryz.underlying186,Result.andThen_ok]
 have hi: ∀(n:Nat) (a:Int),(Instr.checkKey c (n+1) 183 (.int .i16 a)).run Tryz.prog w= .ok () w:=fun n a=>MapKept.run_checkKey Tryz.underlying183 (by simp[MapKept.IsKey]) c n
 have h8:(Instr.checkKey c 9999 184 (.agg x.a8)).run Tryz.prog w= .ok () w:=by
  unfold Instr.checkKey
  simp only[Sem.run_bind,run_underlying Tryz.underlying184,Result.andThen_ok]
  simp[Spt.a8,part,Tryz.sizeOf183,go_sem,hi 9997,Std.Legacy.Range.forIn_eq_forIn_range',List.range'_succ]
 unfold Spt.a8 at h8
 simp[Spt.c,part,Tryz.sizeOf183,Tryz.sizeOf184,go_sem,hi 9998,h8]
def SetP (w:World)(b:Nat)(S:List Spt):Prop:= ∃es clock,w.heap[b]?=some (.map es clock)/\es.toList.map (fun e=>(e.key,e.val))=S.map (fun n=>(Value.agg n.c,Value.agg #[]))
theorem SetP.new (w:World):SetP (w.alloc (.map #[] 0)) w.heap.size []:=⟨#[],0,heap_alloc_new w _,rfl⟩
theorem SetP.kp {F:List Nat}{w w':World}{b:Nat}{S:List Spt}(h:SetP w b S)(hk:Kp F w w')(hF:b∉F):SetP w' b S:=by
 obtain ⟨es,c,h1,h2⟩:=h
 exact ⟨es,c,(hk.block b (Array.getElem?_eq_some_iff.1 h1).1 hF).trans h1,h2⟩
theorem SetP.lt {w:World}{b:Nat}{S:List Spt}(h:SetP w b S):b<w.heap.size:=let ⟨_,_,h1,_⟩:=h;(Array.getElem?_eq_some_iff.1 h1).1
def hasP (S:List Spt)(n:Spt):Bool:=S.any n.q
theorem Spt.q_c {x y:Spt}(h:x.q y=true):x.c=y.c:=by
 obtain ⟨h1,h2,hf⟩:=(Spt.q_iff x y).1 h
 unfold Spt.c
 rw[h1,h2,hf 0 (by decide),hf 1 (by decide),hf 2 (by decide),hf 3 (by decide),hf 4 (by decide),hf 5 (by decide),hf 6 (by decide),hf 7 (by decide)]
theorem qd9 (n:Spt):Instr.sameBits 10000 (.agg n.c) (.agg n.c)=true:=by
 simp[Instr.sameBits,Spt.c]
theorem q5q (n:Spt)(w:World): ∀(es:List MapEntry) (S:List Spt) (i:Nat),es.map (fun e=>(e.key,e.val))=S.map (fun n=>(Value.agg n.c,Value.agg #[]))->(hasP S n=false/\(Instr.findAsking 186 (.agg n.c) es i).run Tryz.prog w= .ok none w)\/(hasP S n=true/\ ∃j bn,es[j]?=some ⟨.agg n.c, .agg #[],bn⟩/\(Instr.findAsking 186 (.agg n.c) es i).run Tryz.prog w= .ok (some (i+j, .agg #[])) w)
 |[],S,_,h=>by
  cases S with
  |nil=>exact Or.inl ⟨rfl,by simp[Instr.findAsking]⟩
  |cons a b=>simp at h
 |e::es,[],_,h=>by simp at h
 |e::es,x::S,i,h=>by
  rw[List.map_cons,List.map_cons,List.cons.injEq]at h
  obtain ⟨h1,h2⟩:=h
  obtain ⟨k,v,bn⟩:=e
  simp only[Prod.mk.injEq]at h1
  obtain ⟨rfl,rfl⟩:=h1
  have:=eqSp 9997 n x w
  cases hq:n.q x with
  |true=>
   rw[hq]at this
   refine Or.inr ⟨by unfold hasP;rw[List.any_cons,hq];rfl,0,bn,by rw[Spt.q_c hq];rfl,?_⟩
   simp[Instr.findAsking,Op.equal,Op.maxDepth,this,Result.andThen]
  |false=>
   rw[hq]at this
   have hh:hasP (x::S) n=hasP S n:=by unfold hasP;rw[List.any_cons,hq];rfl
   rw[hh]
   refine (q5q n w es S (i+1) h2).imp (fun ⟨a,ih⟩=>⟨a,?_⟩) (fun ⟨a,j,b2,hj,ih⟩=>⟨a,j+1,b2,by simpa using hj,?_⟩)
   ·simp[Instr.findAsking,Op.equal,Op.maxDepth,this,ih,Result.andThen]
   ·rw[show i+(j+1)=i+1+j by omega]
    simp[Instr.findAsking,Op.equal,Op.maxDepth,this,ih,Result.andThen]
theorem SetP.look {w:World}{b:Nat}{S:List Spt}(h:SetP w b S)(n:Spt):(Instr.lookup 100 (.map (some b)) (.agg n.c) true).run Tryz.prog w= .ok (.tuple #[.agg #[], .bool (hasP S n)]) w:=by
 obtain ⟨es,c,h1,h2⟩:=h
 have hz:(zeroValue 188).run Tryz.prog w= .ok (.agg #[]) w:=by kernel_rfl
 have hf:=run_findKey_eq (P:=Tryz.prog) w (k:=186) (by rw[Tryz.underlying186]) (.agg n.c) es.toList
 rcases q5q n w es.toList S 0 h2 with ⟨e,hj⟩|⟨e,j,bn,_,hj⟩
 ·rw[e]
  simp[Instr.lookup,run_underlying Tryz.underlying100,MapKept.run_getObj_map h1,q3W,hf,hj,hz,Result.andThen]
 ·rw[e]
  simp[Instr.lookup,run_underlying Tryz.underlying100,MapKept.run_getObj_map h1,q3W,hf,hj,Result.andThen]
theorem qb5 (w:World)(n:Spt):(Instr.lookup 100 (.map none) (.agg n.c) true).run Tryz.prog w= .ok (.tuple #[.agg #[], .bool false]) w:=by
 have hz:(zeroValue 188).run Tryz.prog w= .ok (.agg #[]) w:=by kernel_rfl
 have hf:=run_findKey_eq (P:=Tryz.prog) w (k:=186) (by rw[Tryz.underlying186]) (.agg n.c) []
 simp[Instr.lookup,run_underlying Tryz.underlying100,q3W,hf,Instr.findAsking,hz,Result.andThen]
theorem SetP.store {w:World}{b:Nat}{S:List Spt}(h:SetP w b S)(n:Spt): ∃w' S',(Instr.mapUpdate 100 (.map (some b)) (.agg n.c) (.agg #[])).run Tryz.prog w= .ok () w'/\SetP w' b S'/\(∀x∈S',x∈S\/x=n)/\Kp [b] w w':=by
 obtain ⟨es,c,h1,h2⟩:=h
 have hf:=run_findKey_eq (P:=Tryz.prog) w (k:=186) (by rw[Tryz.underlying186]) (.agg n.c) es.toList
 have hk: ∀o,Kp [b] w (setBlock w b o):=fun o=>by
  refine ⟨rfl,rfl,rfl,by simp[setBlock],fun k _ hk=>?_⟩
  have:b≠k:=fun e=>hk (by simp[e])
  unfold setBlock
  simp[this]
 rcases q5q n w es.toList S 0 h2 with ⟨e,hj⟩|⟨e,j,bn,hje,hj⟩
 ·refine ⟨setBlock w b (.map (es.push ⟨.agg n.c, .agg #[],c⟩) (c+1)),S++[n],?_,⟨_,_,(MapKept.heap_set h1).1,?_⟩,fun x hx=>?_,hk _⟩
  ·simp[Instr.mapUpdate,run_underlying Tryz.underlying100,MapKept.run_getObj_map h1,q3W,hf,hj,MapKept.run_setObj_map _ h1,Result.andThen,setBlock]
  ·rw[Array.toList_push,List.map_append,h2,List.map_append]
   rfl
  ·rw[List.mem_append,List.mem_singleton]at hx
   exact hx
 ·have hja:es[j]?=some ⟨.agg n.c, .agg #[],bn⟩:=by rw[<-Array.getElem?_toList];exact hje
  rw[Nat.zero_add]at hj
  refine ⟨setBlock w b (.map (es.modify j fun e=>{ e with key:= .agg n.c,val:= .agg #[] }) c),S,?_,⟨_,_,(MapKept.heap_set h1).1,?_⟩,fun x hx=>Or.inl hx,hk _⟩
  ·simp[Instr.mapUpdate,run_underlying Tryz.underlying100,MapKept.run_getObj_map h1,q3W,hf,hj,hja,Instr.keyThatStays,qd9,MapKept.run_setObj_map _ h1,Result.andThen,setBlock]
  ·rw[<-h2]
   apply List.ext_getElem?
   intro i
   rw[List.getElem?_map,List.getElem?_map,Array.toList_modify,List.getElem?_modify]
   by_cases hi:j=i
   ·subst hi
    rw[hje]
    simp
   ·simp[hi]
open Go.RowKit Go.Shelf
def srC (k:HK)(gx B gd en td:Nat):Array Value:=#[.pointer (some ⟨k.gt,0,none⟩), .pointer (some ⟨gx,0,none⟩), .slice (some ⟨B,0,none⟩) k.l.length k.l.length, .slice (some ⟨gd,0,none⟩) k.es.length k.es.length, .int .i64 (en:Int), .int .i64 (td:Int)]
theorem Spt.c_at (x:Spt)(i:Nat)(h:i<8):x.c[2+i]?=some (.int .i16 (x.f i:Int)):=by
 match i,h with
 |0,_=>rfl
 |1,_=>rfl
 |2,_=>rfl
 |3,_=>rfl
 |4,_=>rfl
 |5,_=>rfl
 |6,_=>rfl
 |7,_=>rfl
theorem Spt.c_set (fr td:Nat)(f:Nat->Nat)(i v:Nat)(h:i<8):(Spt.c ⟨fr,td,f⟩).setIfInBounds (2+i) (.int .i16 (v:Int))=Spt.c ⟨fr,td,fun j=>if j=i then v else f j⟩:=by
 match i,h with
 |0,_=>rfl
 |1,_=>rfl
 |2,_=>rfl
 |3,_=>rfl
 |4,_=>rfl
 |5,_=>rfl
 |6,_=>rfl
 |7,_=>rfl
theorem qbo (bs:List Nat)(T:List (List Nat))(j:Nat)(h:j<bs.length):(fun i=>if i=bs[j] then Mt.lst (T.getD bs[j] []) else Mt.spE (bs.take j) T i)=Mt.spE (bs.take (j+1)) T:=by
 funext i
 have e:bs.take (j+1)=bs.take j++[bs[j]]:=by rw[List.take_add_one,List.getElem?_eq_getElem h];rfl
 unfold Mt.spE
 have hm:i∈bs.take (j+1)↔i∈bs.take j\/i=bs[j]:=by rw[e,List.mem_append,List.mem_singleton]
 by_cases h1:i=bs[j]
 ·rw[if_pos h1,if_pos (hm.2 (Or.inr h1)),h1]
 ·rw[if_neg h1]
  by_cases h2:i∈bs.take j
  ·rw[if_pos h2,if_pos (hm.2 (Or.inl h2))]
  ·rw[if_neg h2,if_neg (fun h=>(hm.1 h).elim h2 h1)]
def set10 (g:Nat)(x:Spt)(w:World):World:=(((((((((w.setCell ⟨g,0,none⟩ (.int .i16 (x.fr:Int))).setCell ⟨g,1,none⟩ (.int .i16 (x.td:Int))).setCell ⟨g,2,none⟩ (.int .i16 (x.f 0:Int))).setCell ⟨g,3,none⟩ (.int .i16 (x.f 1:Int))).setCell ⟨g,4,none⟩ (.int .i16 (x.f 2:Int))).setCell ⟨g,5,none⟩ (.int .i16 (x.f 3:Int))).setCell ⟨g,6,none⟩ (.int .i16 (x.f 4:Int))).setCell ⟨g,7,none⟩ (.int .i16 (x.f 5:Int))).setCell ⟨g,8,none⟩ (.int .i16 (x.f 6:Int))).setCell ⟨g,9,none⟩ (.int .i16 (x.f 7:Int))
theorem CBox.set10 {g t:Nat}{y:Spt}{w:World}(h:CBox g y.c t w)(x:Spt):CBox g x.c t (set10 g x w):=by
 have h2:=(((((((((CBox.set h 0 (.int .i16 (x.fr:Int))).set 1 (.int .i16 (x.td:Int))).set 2 (.int .i16 (x.f 0:Int))).set 3 (.int .i16 (x.f 1:Int))).set 4 (.int .i16 (x.f 2:Int))).set 5 (.int .i16 (x.f 3:Int))).set 6 (.int .i16 (x.f 4:Int))).set 7 (.int .i16 (x.f 5:Int))).set 8 (.int .i16 (x.f 6:Int))).set 9 (.int .i16 (x.f 7:Int))
 unfold Spt.c at h2
 simp only[List.setIfInBounds_toArray,List.set_cons_zero,List.set_cons_succ]at h2
 exact h2
theorem Kp.set1 {a w:World}{g:Nat}(h:Kp [g] a w)(i:Nat)(v:Value):Kp [g] a (w.setCell ⟨g,i,none⟩ v):=h.trans (Kp.set w g i v) (fun _ hx=>Or.inl hx)
theorem Kp.set10 (w:World)(g:Nat)(x:Spt):Kp [g] w (set10 g x w):=by
 unfold Go.Proofs.YtcmjnlpofebbmaaGreatDoor.set10
 exact (((((((((((Kp.refl [g] w).set1 0 _).set1 1 _).set1 2 _).set1 3 _).set1 4 _).set1 5 _).set1 6 _).set1 7 _).set1 8 _).set1 9 _)
theorem q6G (a:Nat)(h:a<=4096):IntKind.i16.wrap (a:Int)=(a:Int):=by
 simp only[IntKind.wrap,IntKind.bits,IntKind.signed]
 simp
 omega
theorem q9S:(Tryz.prog.info? 186).map (·.size)=some 10:=by kernel_rfl
def spt0:Spt:=⟨0,0,fun _=>0⟩
theorem qbp (k:HK)(w:World)(T:List (List Nat))(L:List Ev)(pv lv:Value)(vs:List Value)(h:HkS k w T L pv lv vs)(gs gx B gd en tl:Nat)(hs:CBox gs (srC k gx B gd en tl) 97 w)(x:RdC)(hx:IRo w x.v (x.bs.map Int.ofNat))(hbl:x.bs.length<=100000)(hb: ∀i∈x.bs,i<T.length/\i<8)(hfr:x.fr<=8)(htd:x.td<=8)(hne: ∀l∈T,l≠[]/\l.length<=4096/\Mt.lst l<=4096):
  Calls Tryz.prog 107 #[.pointer (some ⟨gs,0,none⟩), .agg x.l.toArray] w fun e w'=>e= .returned (.agg (Spt.c ⟨x.fr,x.td,Mt.spE x.bs T⟩))/\Kp [] w w':=by
 obtain ⟨fr,td,oh,oe,xa,xc,bs⟩:=x
 unfold RdC.v at hx
 unfold RdC.l RdC.v
 dsimp only at *
 have HLA:=hZq (fun (W:World) (hk:Kp [] w W) (i:Nat) (l:List Nat) (hl:T[i]?=some l)=>q57 k W T L pv lv vs (h.al hk) i l hl (hne l (List.mem_of_getElem? hl)).1 (by have:=(hne l (List.mem_of_getElem? hl)).2.1;omega))
 have HLE:Hid (∀(i:Nat) (l:List Nat),T[i]?=some l->Mt.lst l<=4096):=hZq (fun i l hl=>(hne l (List.mem_of_getElem? hl)).2.2)
 have HS:=hZq (fun (W:World) (hk:Kp [] w W)=>(hs.kp hk (by simp)).cell (i:=0) (v:= .pointer (some ⟨k.gt,0,none⟩)) rfl)
 have HX:=hZq (fun (W:World) (hk:Kp [] w W)=>hx.kp hk (by simp))
 have HBB:=hZq hb
 clear h hs hx hne hb
 have wf:=q6G fr (by omega)
 have wt:=q6G td (by omega)
 obtain ⟨n,hn⟩: ∃n,bs.length=n:=⟨_,rfl⟩
 have HN:=hZq hn
 rw[hn]at hbl HX ⊢
 clear hn
 have HST:Hid (CBox (w.heap.size+1+1) (Spt.c ⟨fr,td,Mt.spE (bs.take 0) T⟩) 186 (((w.alloc (.cells #[.int .i64 (fr:Int), .int .i64 (td:Int), .bool oh, .bool oe, .slice xa n xc] 141)).alloc (.cells spt0.c 186)).alloc (.cells (Spt.c ⟨fr,td,fun _=>0⟩) 186))/\CBox (w.heap.size+1) spt0.c 186 (((w.alloc (.cells #[.int .i64 (fr:Int), .int .i64 (td:Int), .bool oh, .bool oe, .slice xa n xc] 141)).alloc (.cells spt0.c 186)).alloc (.cells (Spt.c ⟨fr,td,fun _=>0⟩) 186))/\Kp [] w (((w.alloc (.cells #[.int .i64 (fr:Int), .int .i64 (td:Int), .bool oh, .bool oe, .slice xa n xc] 141)).alloc (.cells spt0.c 186)).alloc (.cells (Spt.c ⟨fr,td,fun _=>0⟩) 186))):=by
  have k1:=Kp.alloc w (.cells #[.int .i64 (fr:Int), .int .i64 (td:Int), .bool oh, .bool oe, .slice xa n xc] 141)
  have hz1:(w.alloc (.cells #[.int .i64 (fr:Int), .int .i64 (td:Int), .bool oh, .bool oe, .slice xa n xc] 141)).heap.size=w.heap.size+1:=by simp
  generalize w.alloc (.cells #[.int .i64 (fr:Int), .int .i64 (td:Int), .bool oh, .bool oe, .slice xa n xc] 141)=w1 at *
  have k2:=Kp.alloc w1 (.cells spt0.c 186)
  have b2:=CBox.new w1 spt0.c 186
  have hz2:(w1.alloc (.cells spt0.c 186)).heap.size=w1.heap.size+1:=by simp
  generalize w1.alloc (.cells spt0.c 186)=w2 at *
  have k3:=Kp.alloc w2 (.cells (Spt.c ⟨fr,td,fun _=>0⟩) 186)
  have b3:=CBox.new w2 (Spt.c ⟨fr,td,fun _=>0⟩) 186
  rw[hz2,hz1]at b3
  rw[hz1]at b2
  refine hZq ⟨?_,b2.kp k3 (by simp),(k1.trans k2 (by simp)).trans k3 (by simp)⟩
  have e:Mt.spE (bs.take 0) T=fun _=>0:=by funext i;unfold Mt.spE;simp
  rw[e]
  exact b3
 go_enter Tryz.func107,Tryz.ntmps107
 go_wp2_with fail
 go_loopw [18] (fun iv wr=> ∃j:Nat,j<=n/\iv= .int .i64 (j:Int)/\Hid (CBox (w.heap.size+1+1) (Spt.c ⟨fr,td,Mt.spE (bs.take j) T⟩) 186 wr/\CBox (w.heap.size+1) spt0.c 186 wr/\Kp [] w wr)) (fun iv _=>n-(intOf iv).toNat)
 case atStart=>exact ⟨0,Nat.zero_le _,rfl,HST⟩
 case round=>
  obtain ⟨j,hj,rfl,HC⟩:=hrel
  clear HST
  by_cases hlt:j<n
  ·have hjl:j<bs.length:=by rw[uQ HN];exact hlt
   have hli:(j:Int)<(n:Int):=by omega
   obtain ⟨hA,hZ,hK⟩:=uQ HC
   have hxr:=uQ HX wr hK
   obtain ⟨gb,go,rfl,x0⟩: ∃gb go,xa=some ⟨gb,go,none⟩/\wr.cell? ⟨gb,go+j,none⟩=some (.int .i64 (bs[j]:Int)):=by
    obtain ⟨a,c,e,hat⟩:=hxr.at
    injection e with e1 _ _
    subst e1
    obtain ⟨gb,go,e,_,hc⟩:=hat (fun e=>by have:=congrArg List.length e;rw[List.length_map]at this;have h0:([]:List Int).length=0:=rfl;omega)
    refine ⟨gb,go,e,?_⟩
    have:=hc j (by rw[List.length_map];exact hjl)
    rw[List.getElem_map]at this
    exact this
   obtain ⟨hbT,hb8⟩:=uQ HBB bs[j] (List.getElem_mem hjl)
   have hTl:T[bs[j]]?=some T[bs[j]]:=List.getElem?_eq_getElem hbT
   have HL1:=hZq (uQ HLA wr hK bs[j] _ hTl)
   have hle:=uQ HLE bs[j] _ hTl
   have wl:=q6G _ hle
   have s0:=uQ HS wr hK
   have hb8i:(bs[j]:Int)<8:=by omega
   have hgd:T.getD bs[j] []=T[bs[j]]:=by rw[List.getD_eq_getElem?_getD,hTl];rfl
   have HNX:Hid (CBox (w.heap.size+1+1) (Spt.c ⟨fr,td,Mt.spE (bs.take (j+1)) T⟩) 186 (wr.setCell ⟨w.heap.size+1+1,2+bs[j],none⟩ (.int .i16 (Mt.lst T[bs[j]]:Int)))/\CBox (w.heap.size+1) spt0.c 186 (wr.setCell ⟨w.heap.size+1+1,2+bs[j],none⟩ (.int .i16 (Mt.lst T[bs[j]]:Int)))/\Kp [] w (wr.setCell ⟨w.heap.size+1+1,2+bs[j],none⟩ (.int .i16 (Mt.lst T[bs[j]]:Int)))):=hZq (by
    refine ⟨?_,hZ.kp (Kp.set _ _ _ _) (by simp),hK.trans (Kp.set _ _ _ _) (fun y hy=>Or.inr (by rw[List.mem_singleton]at hy;omega))⟩
    have:=hA.set (2+bs[j]) (.int .i16 (Mt.lst T[bs[j]]:Int))
    rw[Spt.c_set fr td _ _ _ hb8]at this
    rw[<-qbo bs T j hjl,hgd]
    exact this)
   have fc:=hA.cell (Spt.c_at _ _ hb8)
   have fz:=hA.froz (2+bs[j])
   generalize Mt.spE (bs.take j) T bs[j]=oldv at *
   generalize Mt.lst T[bs[j]]=lv0 at *
   generalize bs[j]=ii at *
   clear hA hZ hK HC hxr HLA HLE HS HX HBB HN hTl hgd
   go_wp2_with fail
   refine (uQ HL1).mono ?_
   rintro e w5 ⟨rfl,rfl⟩
   clear HL1
   go_wp2
   go_roundw
   case rel=>exact ⟨j+1,by omega,by go_num,HNX⟩
   case measure=>simp[intOf];omega
  ·obtain rfl:j=n:=by omega
   obtain ⟨hA,hZ,hK⟩:=uQ HC
   rw[<-uQ HN,List.take_length]at hA
   obtain ⟨f,hf⟩: ∃f,f=Mt.spE bs T:=⟨_,rfl⟩
   rw[<-hf]at hA
   have HF:=hZq hf
   clear hf
   have d0:=hA.cell (i:=0) (v:= .int .i16 (fr:Int)) rfl
   have d1:=hA.cell (i:=1) (v:= .int .i16 (td:Int)) rfl
   have d2:=hA.cell (Spt.c_at _ 0 (by decide))
   have d3:=hA.cell (Spt.c_at _ 1 (by decide))
   have d4:=hA.cell (Spt.c_at _ 2 (by decide))
   have d5:=hA.cell (Spt.c_at _ 3 (by decide))
   have d6:=hA.cell (Spt.c_at _ 4 (by decide))
   have d7:=hA.cell (Spt.c_at _ 5 (by decide))
   have d8:=hA.cell (Spt.c_at _ 6 (by decide))
   have d9:=hA.cell (Spt.c_at _ 7 (by decide))
   have z0:=hZ.cell (i:=0) (v:= .int .i16 0) rfl
   have z1:=hZ.cell (i:=1) (v:= .int .i16 0) rfl
   have z2:=hZ.cell (i:=2) (v:= .int .i16 0) rfl
   have z3:=hZ.cell (i:=3) (v:= .int .i16 0) rfl
   have z4:=hZ.cell (i:=4) (v:= .int .i16 0) rfl
   have z5:=hZ.cell (i:=5) (v:= .int .i16 0) rfl
   have z6:=hZ.cell (i:=6) (v:= .int .i16 0) rfl
   have z7:=hZ.cell (i:=7) (v:= .int .i16 0) rfl
   have z8:=hZ.cell (i:=8) (v:= .int .i16 0) rfl
   have z9:=hZ.cell (i:=9) (v:= .int .i16 0) rfl
   have f0:=hZ.froz 0
   have f1:=hZ.froz 1
   have f2:=hZ.froz 2
   have f3:=hZ.froz 3
   have f4:=hZ.froz 4
   have f5:=hZ.froz 5
   have f6:=hZ.froz 6
   have f7:=hZ.froz 7
   have f8:=hZ.froz 8
   have f9:=hZ.froz 9
   dsimp only at d2 d3 d4 d5 d6 d7 d8 d9
   simp only[Nat.reduceAdd]at d2 d3 d4 d5 d6 d7 d8 d9
   have HZ:=hZq hZ
   have HK:=hZq hK
   clear HC hA hZ hK HLA HLE HS HX HBB HN
   go_wp2
   have hw:(set10 (w.heap.size+1) ⟨fr,td,f⟩ wr).heap[w.heap.size+1]?=some (.cells (Spt.c ⟨fr,td,f⟩) 186 (0,0)):=CBox.set10 (uQ HZ) ⟨fr,td,f⟩
   have hq:Kp [] w (set10 (w.heap.size+1) ⟨fr,td,f⟩ wr):=(uQ HK).trans (Kp.set10 _ _ _) (by simp)
   refine bodyPost_ret (v:= .agg (Spt.c ⟨fr,td,f⟩)) ?_ rfl ⟨by rw[uQ HF],hq⟩
   exact results_cell_row Tryz.results107 _ _ (w.heap.size+1) 186 (Spt.c ⟨fr,td,f⟩) (0,0) _ rfl hw Tryz.underlying186 rfl q9S
end Go.Proofs.YtcmjnlpofebbmaaGreatDoor
