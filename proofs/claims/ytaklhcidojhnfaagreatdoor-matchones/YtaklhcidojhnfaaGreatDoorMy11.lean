/-
  Walks.
-/
import Derived.Test.YtaklhcidojhnfaaGreatDoorMy10
import Derived.SizedLaws
import Derived.ChangeArms
set_option maxRecDepth 100000
set_option maxHeartbeats 8000000
set_option linter.unusedSimpArgs false
namespace Go.Proofs.YtaklhcidojhnfaaGreatDoor
open Go.RowKit Go.Shelf
theorem q64 {p:Ptn}{es:List Ev}(h:mckE p es=0):(pcR p).2=0/\es.length<=4096:=by
 unfold mckE at h
 split at h
 ·rename_i h0
  split at h
  ·cases h
  ·exact ⟨h0,by omega⟩
 ·rename_i h0
  exact absurd h h0
theorem q9E {w:World}{za:Option Addr}{x:Int}(h:StagesAt w za [[x]]): ∃zb zo ib io c,za=some ⟨zb,zo,none⟩/\w.cell? ⟨zb,zo,none⟩=some (.slice (some ⟨ib,io,none⟩) 1 c)/\w.cell? ⟨ib,io,none⟩=some (.int .i64 x):=by
 obtain ⟨zb,zo,rfl,_,hc⟩:=h (by simp)
 obtain ⟨a,c,h1,h2⟩:=hc 0 (by simp)
 obtain ⟨ib,io,rfl,_,h3⟩:=h2 (by simp)
 exact ⟨zb,zo,ib,io,c,rfl,h1,h3 0 (by simp)⟩
theorem q7Z (s:Value)(ln:Nat)(wi:Int)(n:Nat)(zb zo ib io c zc i:Nat)(sc:Nat)(sa:Option Addr)(hs:s= .slice sa ln sc)(w:World)(h1:1<=ln)(hi:i<n)(_hn:n<=4096)(z0:w.cell? ⟨zb,zo,none⟩=some (.slice (some ⟨ib,io,none⟩) 1 c))(z1:w.cell? ⟨ib,io,none⟩=some (.int .i64 (i:Int))):
  Calls Tryz.prog 17 #[.agg #[s, .int .i64 wi], .int .i64 (n:Int), .slice (some ⟨zb,zo,none⟩) 1 zc] w fun e w'=>e= .returned (.bool true)/\Kp [] w w':=by
 subst hs
 obtain ⟨W1,hW1⟩: ∃W1,W1=w.alloc (.cells #[.slice sa ln sc, .int .i64 wi] 24):=⟨_,rfl⟩
 have k1:Kp [] w W1:=by rw[hW1];exact Kp.alloc _ _
 have b1:CBox w.heap.size #[.slice sa ln sc, .int .i64 wi] 24 W1:=by rw[hW1];exact CBox.new _ _ _
 have p0:=b1.cell (i:=0) (v:= .slice sa ln sc) rfl
 have y0:=k1.cell z0 (by simp)
 have y1:=k1.cell z1 (by simp)
 have HK1:=hZq k1
 have g0: ¬ (ln:Int)<1:=by omega
 have g1: ¬ (i:Int)<= -1:=by omega
 have g2: ¬ (n:Int)<=(i:Int):=by omega
 clear z0 z1 k1 b1
 go_enter Tryz.func17,Tryz.ntmps17
 go_upto_region 1 with fail
 rw[<-hW1]
 clear hW1
 go_wp2_with fail
 go_loopw [7,25] (fun bv iv wr=>wr=W1/\((iv= .int .i64 0/\bv= .int .i64 (-1))\/iv= .int .i64 1)) (fun _ iv _=>1-(intOf iv).toNat)
 case atStart=>exact ⟨rfl,Or.inl ⟨rfl,rfl⟩⟩
 case round=>
  obtain ⟨hwr,⟨rfl,rfl⟩|rfl⟩:=hrel
  ·obtain rfl:=hwr.symm
   go_wp2_with fail
   go_loopw [7,49] (fun bv kv wq=>wq=W1/\((kv= .int .i64 0/\bv= .int .i64 (-1))\/kv= .int .i64 1)) (fun _ kv _=>1-(intOf kv).toNat)
   case atStart=>exact ⟨rfl,Or.inl ⟨rfl,rfl⟩⟩
   case round=>
    obtain ⟨hwq,⟨rfl,rfl⟩|rfl⟩:=hrel
    ·obtain rfl:=hwq.symm
     go_wp2
     go_roundw
     case rel=>exact ⟨by first|trivial|rfl,Or.inr rfl⟩
     case measure=>simp[intOf]
    ·obtain rfl:=hwq.symm
     go_wp2
     go_roundw
     case rel=>exact ⟨by first|trivial|rfl,Or.inr rfl⟩
     case measure=>simp[intOf]
  ·obtain rfl:=hwr.symm
   go_wp2
   go_ret
   exact ⟨rfl,uQ HK1⟩
theorem q8o (k:HK)(hI:HkI k)(w:World)(pv lv:Value)(vs:List Value)(h:HkS k w [] (hkL k []) pv lv vs)(q:Nat)(ht:0<k.l.length)(hq:q<k.es.length):
  Calls Tryz.prog 35 #[.pointer (some ⟨k.gt,0,none⟩), .int .i64 0, .int .i64 ((q:Int)-1), .int .i64 (q:Int)] w fun e w'=>e= .returned (.bool true)/\Kp [] w w':=by
 obtain ⟨sb,so,hsa, -, -,s1, -⟩:=(hI.st.kp (h.kb hI)).at 0 ht
 have b0:w.cell? ⟨k.gt,0,none⟩=some (.slice (some ⟨sb,so,none⟩) k.l.length k.sc):=by rw[<-hsa];exact h.box.cell rfl
 have hti:(0:Int)<(k.l.length:Int):=by omega
 have hl8:=hI.l8
 have hel:=hI.el
 have hbs:(-9223372036854775808:Int)<=(q:Int)-1/\(q:Int)-1<=4096:=by omega
 rw[Nat.zero_mul,Nat.add_zero]at s1
 clear hI h hsa hel hq
 generalize k.l[0].s.hw=hw at *
 generalize k.l.length=n at *
 by_cases h3:hw=3
 ·subst h3
  go_enter Tryz.func35,Tryz.ntmps35
  go_wp2
  go_ret
  exact ⟨rfl,Kp.refl _ _⟩
 ·by_cases h2:hw=2
  ·subst h2
   go_enter Tryz.func35,Tryz.ntmps35
   go_wp2_with fail
   go_loopw [9] (fun iv wr=>iv= .int .i64 (q:Int)/\wr=w) (fun _ _=>0)
   case atStart=>exact ⟨rfl,rfl⟩
   case round=>
    obtain ⟨rfl,hwr⟩:=hrel
    obtain rfl:=hwr.symm
    have hlti: ¬ (q:Int)<(q:Int):=by omega
    go_wp2
    go_ret
    exact ⟨rfl,Kp.refl _ _⟩
  ·have e3:(hw==3)=false:=by simpa using h3
   have e2:(hw==2)=false:=by simpa using h2
   go_enter Tryz.func35,Tryz.ntmps35
   go_wp2
   go_ret
   exact ⟨by simp,Kp.refl _ _⟩
theorem NwS.hk {w w2:World}{sa:Option Addr}{sc:Nat}{l:List SR}{wi:Int}{ea:Option Addr}{ec:Nat}{es:List Ev}{nv:Value}(h:NwS w sa l.length sc wi ea es.length ec nv (q00 (stgs l)) w2)(hst:StsAt w sa l)(hev:EvsAt w ea es)(htb:TbE w)(hft: ∀r∈l, ∀q∈r.s.cd,q.fit)(hl8:l.length<=8)(hel:es.length<=4096): ∃an cn,HkI ⟨w,w2,[w.heap.size+1],w.heap.size+1,sa,sc,l,wi,ea,ec,es,an,cn⟩/\HkS ⟨w,w2,[w.heap.size+1],w.heap.size+1,sa,sc,l,wi,ea,ec,es,an,cn⟩ w2 [] (hkL ⟨w,w2,[w.heap.size+1],w.heap.size+1,sa,sc,l,wi,ea,ec,es,an,cn⟩ []) (.slice none 0 0) (.slice none 0 0) []:=by
 have hnl:(q00 (stgs l)).length=l.length:=by unfold q00;rw[List.length_map,q02]
 have how:=h.ow
 obtain ⟨ad,cp,e,hnm,hcp⟩:=how.at
 rw[hnl]at e hcp
 have hcx:cp<=9223372036854775807:=by
  obtain ⟨_,⟨e2,e0⟩|⟨g,cap,cur,e2,_,_,_,hcm,_⟩⟩:=id how
  ·rw[e]at e2
   injection e2 with _ _ e3
   omega
  ·rw[e]at e2
   injection e2 with _ _ e3
   unfold maxLen at hcm
   omega
 refine ⟨ad,cp,⟨hst,hev,htb,hnm,fun b off e2 hb=>?_,h.kp,fun x hx=>?_,by simp,hft,hl8,hel,hcp,hcx⟩,⟨?_,PlS.nil _,World.ownsRow_nil _ _ _ _,Kp.refl _ _,by simp[plB,Value.ownBlock]⟩⟩
 ·have e2:ad=some ⟨b,off,none⟩:=e2
  have hob:nv.ownBlock=some b:=by rw[e,e2];rfl
  have:=q9V how hob
  rw[List.mem_singleton]at hb
  omega
 ·rw[List.mem_singleton]at hx
  show w.heap.size<=x
  omega
 ·have:=h.tb
  unfold ntC at this
  unfold hkC
  rw[e]at this
  exact this
theorem q6Z (sa:Option Addr)(sc:Nat)(r:SR)(wi:Int)(ea:Option Addr)(ec:Nat)(es:List Ev)(zb zo ib io c zc i:Nat)(w:World)(hst:StsAt w sa [r])(hev:EvsAt w ea es)(htb:TbE w)(hft: ∀x∈[r], ∀q∈x.s.cd,q.fit)(hel:es.length<=4096)(hwi:1<=wi)(hi:i<es.length)(z0:w.cell? ⟨zb,zo,none⟩=some (.slice (some ⟨ib,io,none⟩) 1 c))(z1:w.cell? ⟨ib,io,none⟩=some (.int .i64 (i:Int))):
  Calls Tryz.prog 18 #[.agg #[.slice sa 1 sc, .int .i64 wi], .slice ea es.length ec, .slice (some ⟨zb,zo,none⟩) 1 zc] w fun e w'=>e= .returned (.bool ((Mt.pm ⟨stgs [r],wi⟩ es).H 0 [] i))/\Kp [] w w':=by
 obtain ⟨W1,hW1⟩: ∃W1,W1=w.alloc (.cells #[.slice sa 1 sc, .int .i64 wi] 24):=⟨_,rfl⟩
 have k1:Kp [] w W1:=by rw[hW1];exact Kp.alloc _ _
 have b1:CBox w.heap.size #[.slice sa 1 sc, .int .i64 wi] 24 W1:=by rw[hW1];exact CBox.new _ _ _
 have NT:=hZq (q3h sa sc [r] wi ea es.length ec W1 (hst.kp k1) (by simp))
 have HHK:=hZq (fun w2 nv (h:NwS W1 sa [r].length sc wi ea es.length ec nv (q00 (stgs [r])) w2)=>h.hk (hst.kp k1) (hev.kp k1 (by simp)) (htb.kp k1 (by simp)) hft (by simp) hel)
 have p0:=b1.cell (i:=0) (v:= .slice sa 1 sc) rfl
 have p1:=b1.cell (i:=1) (v:= .int .i64 wi) rfl
 have y0:=k1.cell z0 (by simp)
 have y1:=k1.cell z1 (by simp)
 have HK1:=hZq k1
 have hi4:i<=4096:=by omega
 have hw0: ¬ wi<=0:=by omega
 have hl1:((1:Nat):Int)=1:=rfl
 have hl2:IntKind.i64.wrap ((1:Int)-1)=0:=rfl
 have hl3:IntKind.i64.wrap (((1:Nat):Int)-1)=0:=rfl
 have hl4:(0:Int)<1:=by decide
 have hl5:IntKind.i64.wrap 0=0:=rfl
 obtain ⟨R,hR⟩: ∃R,R=(Mt.pm ⟨stgs [r],wi⟩ es).H 0 [] i:=⟨_,rfl⟩
 rw[<-hR]
 have HR:=hZq hR
 have HI:=hZq hi
 obtain ⟨n,hn⟩: ∃n,n=es.length:=⟨_,rfl⟩
 rw[<-hn]at NT ⊢
 have HN:=hZq hn
 clear hst hev htb hft hel hwi z0 z1 k1 b1 hR hi hn
 go_enter Tryz.func18,Tryz.ntmps18
 go_upto_region 1 with fail
 rw[<-hW1]
 clear hW1
 go_wp2_with fail
 refine (uQ NT).mono ?_
 rintro e w2 ⟨rfl,nv,hns⟩
 rw[uQ HN]at hns
 obtain ⟨an,cn,hI,hS⟩:=uQ HHK w2 nv hns
 have hk2:Kp [] W1 w2:=hns.kp
 obtain ⟨k,hk⟩: ∃k:HK,k=⟨W1,w2,[W1.heap.size+1],W1.heap.size+1,sa,sc,[r],wi,ea,ec,es,an,cn⟩:=⟨_,rfl⟩
 rw[<-hk]at hI hS
 obtain ⟨gt,hgt⟩: ∃gt,gt=W1.heap.size+1:=⟨_,rfl⟩
 have hkg:k.gt=gt:=by rw[hk,hgt]
 rw[<-hgt]
 have hkR:k.P.H 0 (Mt.las [] 0) i=R:=by rw[uQ HR,hk];rfl
 have hkl:k.l.length=1:=by rw[hk];rfl
 have hke:i<k.es.length:=by rw[hk];exact uQ HI
 have hkB: ∀(U:List (List Nat)) (pv lv:Value) (vs:List Value) (W:World),HkS k W U (hkL k U) pv lv vs->Kp [] w W:=fun U pv lv vs W h=>by
  have:=h.kb hI
  rw[hk]at this
  exact (uQ HK1).trans this (by simp)
 have ML:=hZq (fun (W:World) (hW:Kp [] w2.drew W)=>q8o k hI W _ _ _ (hS.al ((Kp.drew w2).trans hW (by simp))) i (by omega) hke)
 have HO:=hZq (fun (W:World) (hW:Kp [] w2.drew W)=>q2X k hI W [] _ _ _ (hS.al ((Kp.drew w2).trans hW (by simp))) 0 i (by omega) (Nat.zero_le _) hke)
 have PU:=hZq (fun (W:World) (hW:Kp [] w2.drew W)=>q6H k hI W [] _ _ _ (hS.al ((Kp.drew w2).trans hW (by simp))) 0 i (Or.inl rfl) hke (by omega) (by simp))
 rw[hkg]at ML HO PU
 rw[hkR]at HO
 have HKB:=hZq hkB
 have hk3:Kp [] W1 w2.drew:=hk2.trans (Kp.drew w2) (by simp)
 have HK3:=hZq ((uQ HK1).trans hk3 (by simp))
 have g0:=hk2.cell y0 (by simp)
 have cS:w2.drew.cell? ⟨zb,zo,none⟩=some (.slice (some ⟨ib,io,none⟩) 1 c)/\w2.drew.cell? ⟨ib,io,none⟩=some (.int .i64 (i:Int)):=⟨hk3.cell y0 (by simp),hk3.cell y1 (by simp)⟩
 obtain ⟨e0,e1⟩:=id cS
 have q0:=hk3.cell p0 (by simp)
 have q1:=hk3.cell p1 (by simp)
 clear NT HHK hns hI hS hk hgt hkg hkR hkl hke hkB HK1 p0 p1 y0 y1 hk2 hk3 HR HI HN
 go_upto_region 3 with fail
 go_region_held3 (fun W=>W.cell? ⟨zb,zo,none⟩=some (.slice (some ⟨ib,io,none⟩) 1 c)/\W.cell? ⟨ib,io,none⟩=some (.int .i64 (i:Int)))
  (with_reducible exact cS)
  (fail)
 clear cS g0
 generalize w2.drew=W3 at *
 go_wp2_with fail
 go_loopw [11,46] (fun bv iv wr=>(wr=W3/\iv= .int .i64 0/\bv= .int .i64 ((i:Int)-1))\/(iv= .int .i64 1/\Hid (R=true/\Kp [] w wr))) (fun _ iv _=>1-(intOf iv).toNat)
 case atStart=>exact Or.inl ⟨rfl,rfl,rfl⟩
 case round=>
  rcases hrel with ⟨hwr,rfl,rfl⟩|⟨rfl,HE⟩
  ·obtain rfl:=hwr.symm
   go_wp2_with fail
   go_loopw [11,53] (fun bv jv wq=>(wq=W3/\jv= .int .i64 0/\bv= .int .i64 ((i:Int)-1))\/(jv= .int .i64 1/\Hid (R=true/\Kp [] w wq))) (fun _ jv _=>1-(intOf jv).toNat)
   case atStart=>exact Or.inl ⟨rfl,rfl,rfl⟩
   case round=>
    rcases hrel with ⟨hwq,rfl,rfl⟩|⟨rfl,HE⟩
    ·obtain rfl:=hwq.symm
     go_wp2_with fail
     refine (uQ ML W3 (Kp.refl _ _)).mono ?_
     rintro e w4 ⟨rfl,k4⟩
     have HOq:=hZq (uQ HO w4 k4)
     have HK4:=hZq k4
     clear ML HO k4
     go_wp2_with fail
     refine (uQ HOq).mono ?_
     rintro e w5 ⟨rfl,k5⟩
     have PUq:=hZq (uQ PU w5 ((uQ HK4).trans k5 (by simp)))
     have HE:=hZq ((uQ HK3).trans ((uQ HK4).trans k5 (by simp)) (by simp))
     clear HOq PU k5 HK4
     cases R with
     |false=>
      clear PUq
      go_wp2
      go_ret
      exact ⟨rfl,uQ HE⟩
     |true=>
      go_wp2_with fail
      refine (uQ PUq).mono ?_
      rintro e w6 ⟨⟨v,rfl⟩,pv6,lv6,vs6,h6⟩
      have HE6:=hZq (uQ HKB _ _ _ _ _ h6.s)
      clear PUq h6 HE
      go_wp2
      go_roundw
      case rel=>exact Or.inr ⟨by first|trivial|rfl,hZq ⟨by first|trivial|rfl,uQ HE6⟩⟩
      case measure=>simp[intOf]
    ·clear ML HO PU
     go_wp2
     go_roundw
     case rel=>exact Or.inr ⟨by first|trivial|rfl,HE⟩
     case measure=>simp[intOf]
  ·have hR:=(uQ HE).1
   clear ML HO PU
   go_wp2
   go_ret
   exact ⟨by rw[hR] <;> rfl,(uQ HE).2⟩
theorem q9T (sa:Option Addr)(sc:Nat)(r:SR)(wi:Int)(ea:Option Addr)(ec:Nat)(es:List Ev)(za:Option Addr)(zc i:Nat)(w:World)(hst:StsAt w sa [r])(hev:EvsAt w ea es)(htb:TbE w)(hok: ∀x∈[r],x.s.ok)(hft: ∀x∈[r], ∀q∈x.s.cd,q.fit)(hsz: ∀e∈es,evSz e)(hes:es.length<=4096)(h0:mckE ⟨stgs [r],wi⟩ es=0)(hi:i<es.length)(hz:StagesAt w za [[(i:Int)]]):
  Calls Tryz.prog 7 #[.agg #[.slice sa 1 sc, .int .i64 wi], .slice ea es.length ec, .slice za 1 zc] w fun e w'=>e= .returned (.tuple #[.bool ((Mt.pm ⟨stgs [r],wi⟩ es).H 0 [] i), .int .i64 0])/\Kp [] w w':=by
 obtain ⟨zb,zo,ib,io,c,rfl,z0,z1⟩:=q9E hz
 obtain ⟨W1,hW1⟩: ∃W1,W1=w.alloc (.cells #[.slice sa 1 sc, .int .i64 wi] 24):=⟨_,rfl⟩
 have k1:Kp [] w W1:=by rw[hW1];exact Kp.alloc _ _
 have b1:CBox w.heap.size #[.slice sa 1 sc, .int .i64 wi] 24 W1:=by rw[hW1];exact CBox.new _ _ _
 have CK:=q47 sa sc [r] wi ea ec es W1 (hst.kp k1) (hev.kp k1 (by simp)) (htb.kp k1 (by simp)) hok (by simp) (by omega) hsz
 rw[h0]at CK
 have CK:=hZq CK
 have hwi:1<=wi:=(q1a (q64 h0).1).2.2.1.1
 have IA:=hZq (fun W (hk:Kp [] w W)=>q7Z _ 1 wi es.length zb zo ib io c zc i sc sa rfl W (Nat.le_refl _) hi hes (hk.cell z0 (by simp)) (hk.cell z1 (by simp)))
 have IR:=hZq (fun W (hk:Kp [] w W)=>q6Z sa sc r wi ea ec es zb zo ib io c zc i W (hst.kp hk) (hev.kp hk (by simp)) (htb.kp hk (by simp)) hft hes hwi hi (hk.cell z0 (by simp)) (hk.cell z1 (by simp)))
 have HPB:Hid (∀W,Kp [] W1 W->W.cell? ⟨w.heap.size,0,none⟩=some (.slice sa 1 sc)/\W.cell? ⟨w.heap.size,1,none⟩=some (.int .i64 wi)):=hZq (fun W hk=>by
  have:=b1.kp hk (by simp)
  exact ⟨this.cell rfl,this.cell rfl⟩)
 obtain ⟨p0,p1⟩:=uQ HPB W1 (Kp.refl _ _)
 have HK1:=hZq k1
 clear hst hev htb hok hft hsz hes h0 hz z0 z1 hwi hi k1 b1
 generalize (Mt.pm ⟨stgs [r],wi⟩ es).H 0 [] i=R at *
 generalize es.length=n at *
 go_enter Tryz.func7,Tryz.ntmps7
 go_upto_region 1 with fail
 rw[<-hW1]
 clear hW1
 go_wp2_with fail
 refine (uQ CK).mono ?_
 rintro e w2 ⟨rfl,hk2⟩
 have IA2:=hZq (uQ IA w2 ((uQ HK1).trans hk2 (by simp)))
 obtain ⟨q0,q1⟩:=uQ HPB w2 hk2
 have HKW:=hZq hk2
 clear CK hk2 p0 p1 IA
 go_wp2_with fail
 refine (uQ IA2).mono ?_
 rintro e w3 ⟨rfl,hk3⟩
 have hk4:=(uQ HKW).trans hk3 (by simp)
 obtain ⟨r0,r1⟩:=uQ HPB w3 hk4
 have IR2:=hZq (uQ IR w3 ((uQ HK1).trans hk4 (by simp)))
 have HK4:=hZq ((uQ HK1).trans hk4 (by simp))
 clear IA2 hk3 hk4 q0 q1 IR
 go_wp2_with fail
 refine (uQ IR2).mono ?_
 rintro e w4 ⟨rfl,hk4⟩
 have HK5:=hZq ((uQ HK4).trans hk4 (by simp))
 clear IR2 hk4
 go_wp2
 go_ret2
 exact ⟨rfl,uQ HK5⟩
theorem qbh {P:Mt.Pm}(hN:P.N=1){i:Nat}(hi:i<P.len):Mt.Asg P [[i]]:=by
 refine ⟨by simp,by rw[hN];exact Nat.le_refl _,fun k l h=>?_,by simp,fun q hq=>?_⟩
 ·cases k with
  |zero=>cases h;exact ⟨by simp,fun h=>absurd h (by simp)⟩
  |succ k=>cases h
 ·rw[show ([[i]]:List (List Nat)).flatten=[i] from rfl,List.mem_singleton]at hq
  rw[hq]
  exact hi
theorem qbi {P:Mt.Pm}{i:Nat}(h:P.H 0 [] i=true):Mt.Cnd P [[i]]:=fun t l ht k q hk=>by
 cases t with
 |zero=>
  cases ht
  cases k with
  |zero=>cases hk;exact ⟨h,fun p h0=>absurd h0 (by omega),fun _ h0=>absurd h0 (by omega)⟩
  |succ k=>cases hk
 |succ t=>cases ht
theorem qbk {P:Mt.Pm}{wi:Nat}(hwi:1<=wi)(hN:P.N=1)(hm:P.many 0=false)(X:List (List Nat)):X∈fdS P wi↔ ∃i,i<P.len/\P.H 0 [] i=true/\X=[[i]]:=by
 rw[qcp hwi (by omega)]
 constructor
 ·rintro ⟨h1,h2,_⟩
  rw[hN]at h2
  obtain ⟨x,rfl⟩:=List.length_eq_one_iff.1 h2
  have ha:=h1.asg (by simp)
  have ho:=ha.one 0 x rfl
  obtain ⟨i,rfl⟩: ∃i,x=[i]:=by
   apply List.length_eq_one_iff.1
   have:=List.length_pos_iff.2 ho.1
   rcases Nat.lt_or_ge 1 x.length with h|h
   ·have:=ho.2 h
    rw[hm]at this
    cases this
   ·omega
  exact ⟨i,ha.low i (by simp),(h1.cnd 0 [i] rfl 0 i rfl).1,rfl⟩
 ·rintro ⟨i,hi,hH,rfl⟩
  refine ⟨Mt.Cnd.rgt (qbh hN hi) (qbi hH),by rw[hN];rfl,?_⟩
  show i<i+wi
  omega
theorem qcd {a b:Nat}(h:a<b):cT [[a]] [[b]]<0:=by
 have hc:Lib.compareInt (q0T (Mt.toZ [[a]])) (q0T (Mt.toZ [[b]]))= -1:=by
  show Lib.compareInt (a:Int) (b:Int)= -1
  unfold Lib.compareInt
  rw[if_pos (by omega)]
 unfold cT cM
 rw[hc]
 unfold orI
 rw[if_neg (by decide)]
 decide
theorem qbj {P:Mt.Pm}{wi:Nat}(hwi:1<=wi)(hN:P.N=1)(hm:P.many 0=false):fdS P wi=((List.range P.len).filter fun i=>P.H 0 [] i).map fun i=>[[i]]:=by
 refine q7S (q4y P wi) ?_ (fun X=>?_)
 ·unfold Srt
  rw[List.pairwise_map]
  exact (List.Pairwise.filter _ List.pairwise_lt_range).imp (fun h=>qcd h)
 ·rw[qbk hwi hN hm,List.mem_map]
  constructor
  ·rintro ⟨i,hi,hH,rfl⟩
   exact ⟨i,List.mem_filter.2 ⟨List.mem_range.2 hi,hH⟩,rfl⟩
  ·rintro ⟨i,h,rfl⟩
   obtain ⟨h1,h2⟩:=List.mem_filter.1 h
   exact ⟨i,List.mem_range.1 h1,h2,rfl⟩
def hn (H:Nat->Bool)(i:Nat):Nat:=((List.range i).filter H).length
theorem qcT (H:Nat->Bool)(i:Nat):hn H (i+1)=if H i=true then hn H i+1 else hn H i:=by
 unfold hn
 rw[List.range_succ,List.filter_append,List.length_append]
 cases h:H i with
 |true=>rw[if_pos rfl,List.filter_cons_of_pos h];rfl
 |false=>rw[if_neg (by simp),List.filter_cons_of_neg (by rw[h];simp)];rfl
theorem qeK (H:Nat->Bool){i n:Nat}(hi:i<n)(h:H i=true):((List.range n).filter H)[hn H i]?=some i:=by
 induction n with
 |zero=>cases hi
 |succ n ih=>
  rw[List.range_succ,List.filter_append]
  by_cases he:i=n
  ·subst he
   rw[List.getElem?_append_right (by unfold hn;exact Nat.le_refl _)]
   unfold hn
   rw[Nat.sub_self,List.filter_cons_of_pos h]
   rfl
  ·have:=ih (by omega)
   rw[List.getElem?_append_left (List.getElem?_eq_some_iff.1 this).1]
   exact this
def SR.one (r:SR):SR:={ r with s:={ r.s with mn:=false } }
theorem RsO.cell2 {g:Nat}{rs:List SR}{wr:World}(h:RsO g rs wr)(h0:0<rs.length):wr.cell? ⟨g,2,none⟩=some (.bool rs[0].s.mn)/\wr.frozen? ⟨g,2,none⟩=false:=by
 obtain ⟨cs,hb,hc⟩:=h.row
 have:=hc 0 h0 2 _ rfl
 rw[Nat.zero_mul,Nat.zero_add]at this
 exact ⟨hb.cell this,hb.froz _⟩
theorem RsO.one {g:Nat}{rs:List SR}{wr:World}(h:RsO g rs wr)(h0:0<rs.length):StsAt (wr.setCell ⟨g,2,none⟩ (.bool false)) (some ⟨g,0,none⟩) [rs[0].one]:=fun _=>by
 have ks:=Kp.set wr g 2 (.bool false)
 obtain ⟨cs,hb,hc⟩:=h.row
 have hb2:=hb.set 2 (.bool false)
 have hcs:2<cs.size:=by
  have:=(Array.getElem?_eq_some_iff.1 (hc 0 h0 2 _ rfl)).1
  omega
 have hd:=h.cds _ (List.getElem_mem h0)
 refine ⟨g,0,rfl,by simpa using (Array.getElem?_eq_some_iff.1 hb).1,fun i hi=>?_⟩
 obtain rfl:i=0:=by simpa using hi
 simp only[Nat.zero_add]
 refine ⟨hb2.cell ?_,hb2.cell ?_,hb2.cell ?_,hb2.cell ?_,hd.1.kpF ks (fun hne b off e=>by simpa using hd.2 hne b off e)⟩
 ·rw[Array.getElem?_setIfInBounds,if_neg (by omega)]
  exact hc 0 h0 0 _ rfl
 ·rw[Array.getElem?_setIfInBounds,if_neg (by omega)]
  exact hc 0 h0 1 _ rfl
 ·rw[Array.getElem?_setIfInBounds,if_pos (by omega),if_pos (by omega)]
  rfl
 ·rw[Array.getElem?_setIfInBounds,if_neg (by omega)]
  exact hc 0 h0 3 _ rfl
theorem qe1 {rs:List SR}(h0:0<rs.length)(h: ∀r∈rs,r.s.ok): ∀r∈[rs[0].one],r.s.ok:=fun r hr=>by
 rw[List.mem_singleton]at hr
 subst hr
 have:=h _ (List.getElem_mem h0)
 exact ⟨this.1,this.2.1,this.2.2⟩
theorem qd8 {r:SR}(hr:r.s.mn=false){wi:Int}{key:ByteArray}{es:List Ev}(h:fiE ⟨stgs [r],wi⟩ key es=0):mckE ⟨stgs [r],wi⟩ es=0/\fiL ⟨stgs [r],wi⟩ key es=((List.range es.length).filter fun i=>(Mt.pm ⟨stgs [r],wi⟩ es).H 0 [] i).map fun i=>[[i]]:=by
 have hm:mckE ⟨stgs [r],wi⟩ es=0:=by
  unfold fiE at h
  split at h
  ·assumption
  ·rename_i h0
   exact absurd h h0
 have hwi:1<=wi:=(q1a (q64 hm).1).2.2.1.1
 refine ⟨hm,?_⟩
 unfold fiL
 rw[if_pos h]
 exact qbj (P:=Mt.pm ⟨stgs [r],wi⟩ es) (wi:=wi.toNat) (by omega) rfl hr
theorem q4h (w:World)(x:Int):StagesAt ((w.alloc (.cells #[.int .i64 x] 3)).alloc (.cells #[.slice (some ⟨w.heap.size,0,none⟩) 1 1] 40)) (some ⟨w.heap.size+1,0,none⟩) [[x]]:=fun _=>by
 have b1:=(CBox.new w #[.int .i64 x] 3).kp (Kp.alloc (w.alloc (.cells #[.int .i64 x] 3)) (.cells #[.slice (some ⟨w.heap.size,0,none⟩) 1 1] 40)) (by simp)
 have b2:=CBox.new (w.alloc (.cells #[.int .i64 x] 3)) #[.slice (some ⟨w.heap.size,0,none⟩) 1 1] 40
 rw[show (w.alloc (.cells #[.int .i64 x] 3)).heap.size=w.heap.size+1 by simp]at b2
 refine ⟨w.heap.size+1,0,rfl,by simp,fun i hi=>?_⟩
 obtain rfl:i=0:=by simpa using hi
 refine ⟨some ⟨w.heap.size,0,none⟩,1,b2.cell rfl,fun _=>⟨w.heap.size,0,rfl,by simp;omega,fun k hk=>?_⟩⟩
 obtain rfl:k=0:=by simpa using hk
 exact b1.cell rfl
def tyE (c:UInt8):Ev:=⟨⟨#[107]⟩,⟨#[c]⟩,0,0,0,0,⟨#[]⟩⟩
def tyL (s:ByteArray):List Ev:=s.data.toList.map tyE
theorem q4R (s:ByteArray):(tyL s).length=s.size:=by unfold tyL;rw[List.length_map];exact Array.length_toList
theorem qbU (s:ByteArray)(j:Nat)(h:j<s.size):(tyL s).take (j+1)=(tyL s).take j++[tyE s[j]]:=by
 rw[List.take_succ_eq_append_getElem (by rw[q4R];exact h)]
 congr 1
 unfold tyL
 simp
 rfl
theorem qag (s:ByteArray)(hs:s.size<=1000)(w:World):
  Calls Tryz.prog 10 #[.string s] w fun e w'=> ∃v,e= .returned v/\OwnsX w.heap.size w' v (tyL s)/\Kp [] w w':=by
 have HPU:Hid (∀(j:Nat) (v:Value) (wr:World),j<s.size->OwnsX w.heap.size wr v ((tyL s).take j)->Kp [] w wr-> ∃g' cap w',(Builtin.append_ #[25,25] 25 #[v, .slice (some ⟨wr.heap.size,0,none⟩) 1 1]).run Tryz.prog (wr.alloc (.cells #[.string ⟨#[107]⟩, .string (s.extract j (j+1)), .int .i64 0, .int .i64 0, .int .i64 0, .int .i64 0, .string ⟨#[]⟩] 29))= .ok (.slice (some ⟨g',0,none⟩) (j+1) cap) w'/\OwnsX w.heap.size w' (.slice (some ⟨g',0,none⟩) (j+1) cap) ((tyL s).take (j+1))/\Kp [] w w'):=hZq (fun j v wr hj ho hk=>by
  have hl:((tyL s).take j).length=j:=by rw[List.length_take,q4R];omega
  have e1:s.extract j (j+1)=⟨#[s[j]]⟩:=by
   have hjs:j<s.data.size:=hj
   have h1:(s.extract j (j+1)).data.toList=[s[j]]:=by
    rw[ByteArray.data_extract,Array.toList_extract,List.extract_eq_take_drop,List.drop_eq_getElem_cons (by simpa using hjs)]
    simp
    rfl
   exact ByteArray.ext (Array.ext' h1)
  have ka:=Kp.alloc wr (.cells #[.string ⟨#[107]⟩, .string (s.extract j (j+1)), .int .i64 0, .int .i64 0, .int .i64 0, .int .i64 0, .string ⟨#[]⟩] 29)
  have hb:CBox wr.heap.size (tyE s[j]).c 29 (wr.alloc (.cells #[.string ⟨#[107]⟩, .string (s.extract j (j+1)), .int .i64 0, .int .i64 0, .int .i64 0, .int .i64 0, .string ⟨#[]⟩] 29)):=by
   rw[e1]
   exact CBox.new wr _ _
  obtain ⟨g',cap,w',hrun,h1,h2,_⟩:=OwnsX.app (c:=1) (q03 ho ka (by simp)) (by have:=(hk.trans ka (by simp)).size;exact this) (tyE s[j]) hb (by rw[hl];omega) 25
  rw[hl]at hrun h1
  rw[<-qbU s j hj]at h1
  refine ⟨g',cap,w',hrun,h1,?_⟩
  have hk2:=hk.trans ka (by simp)
  exact ⟨h2.os.trans hk2.os,h2.tape.trans hk2.tape,h2.output.trans hk2.output,Nat.le_trans hk2.size h2.size,fun k hk3 _=>(h2.block k hk3).trans (hk2.block k hk3 (by simp))⟩)
 have HEND:Hid ((tyL s).take s.size=tyL s):=hZq (List.take_of_length_le (by rw[q4R];exact Nat.le_refl _))
 go_enter Tryz.func10,Tryz.ntmps10
 go_wp2_with fail
 go_loopw [7,3] (fun iv ov wr=> ∃(j:Nat),j<=s.size/\iv= .int .i64 (j:Int)/\(∃a c,ov= .slice a j c)/\Hid (OwnsX w.heap.size wr ov ((tyL s).take j)/\Kp [] w wr)) (fun iv _ _=>s.size-(intOf iv).toNat)
 case atStart=>exact ⟨0,Nat.zero_le _,rfl,⟨none,0,rfl⟩,hZq ⟨OwnsX.nil _ _,Kp.refl _ _⟩⟩
 case round=>
  obtain ⟨j,hj,rfl,⟨va,vc,rfl⟩,HR⟩:=hrel
  by_cases hlt:j<s.size
  ·have hli:(j:Int)<(s.size:Int):=by omega
   obtain ⟨g',cap,w',hrun,ho,hk⟩:=uQ HPU j _ wr hlt (uQ HR).1 (uQ HR).2
   have HN:=hZq (And.intro ho hk)
   clear ho hk HR HPU HEND
   have HRUN:=hZq hrun
   clear hrun
   go_wp2_with (at_builtin;refine q0e rfl _ _ _ rfl rfl rfl (uQ HRUN) ?_)
   go_roundw
   case rel=>exact ⟨j+1,by omega,by go_num,⟨_,_,rfl⟩,hZq (uQ HN)⟩
   case measure=>simp[intOf];omega
  ·obtain rfl:j=s.size:=by omega
   have HN:=hZq (uQ HR)
   clear HR HPU
   go_wp2
   go_ret
   exact ⟨_,rfl,by have:=(uQ HN).1;rwa [uQ HEND]at this,(uQ HN).2⟩
theorem q6E {α:Type}{xs ys:List α}{k:Nat}(h1:k<xs.length)(h2:k<ys.length)(h:xs.take k=ys.take k)(he:xs[k]=ys[k]):xs.take (k+1)=ys.take (k+1):=by
 rw[List.take_succ_eq_append_getElem h1,List.take_succ_eq_append_getElem h2,h,he]
theorem q6x (a1 a2:Option Addr)(c1 c2:Nat)(xs ys:List Int)(w:World)(hl1:xs.length<=9223372036854775807)(_hl2:ys.length<=9223372036854775807)(h1:IntsAt w a1 xs)(h2:IntsAt w a2 ys):
  Calls Tryz.prog 19 #[.slice a1 xs.length c1, .slice a2 ys.length c2] w fun e w'=>e= .returned (.bool (decide (xs=ys)))/\ ∃n,w'=w.drewN n:=by
 have H1:=hZq h1
 have H2:=hZq h2
 clear h1 h2
 by_cases hlen:xs.length=ys.length
 ·rw[<-hlen]
  generalize hR:decide (xs=ys)=R
  have HR:=hZq hR
  have HL:=hZq hlen
  clear hR hlen
  go_enter Tryz.func19,Tryz.ntmps19
  go_wp2
  go_loopw [5] (fun i wr=> ∃k n:Nat,k<=xs.length/\i= .int .i64 (k:Int)/\wr=w.drewN n/\Hid (xs.take k=ys.take k)) (fun i _=>xs.length-(intOf i).toNat)
  case atStart=>exact ⟨0,0,Nat.zero_le _,rfl,rfl,hZq (by simp)⟩
  case round=>
   obtain ⟨k,n,hk,rfl,rfl,HK⟩:=hrel
   by_cases hlt:k<xs.length
   ·have hlt2:k<ys.length:=by have:=uQ HL;omega
    obtain ⟨b1,o1,rfl,_,q1⟩:=uQ H1 (fun e=>by rw[e]at hlt;simp at hlt)
    obtain ⟨b2,o2,rfl,_,q2⟩:=uQ H2 (fun e=>by rw[e]at hlt2;simp at hlt2)
    have x1:=q1 k hlt
    have y1:=q2 k hlt2
    have hstep:=fun he=>q6E hlt hlt2 (uQ HK) he
    have hdiff:xs[k]≠ys[k]->xs≠ys:=fun hne e=>hne (by simp[e])
    have HST:=hZq hstep
    have HDI:=hZq hdiff
    have hli:(k:Int)<(xs.length:Int):=by omega
    clear q1 q2 HK hstep hdiff H1 H2
    generalize xs[k]=x at *
    generalize ys[k]=y at *
    by_cases he:x=y
    ·have HT:=hZq (uQ HST he)
     clear HST HDI
     subst he
     go_wp2
     go_quiet (fail)
     go_wp2
     go_roundw
     case rel=>exact ⟨k+1,_,by omega,by go_num,rfl,HT⟩
     case measure=>simp[intOf];omega
    ·have hR:=uQ HR
     rw[decide_eq_false (uQ HDI he)]at hR
     subst hR
     have g:(x != y)=true:=by rw[bne_iff_ne];exact he
     clear he HR HDI HST
     go_wp2
     go_quiet (fail)
     go_wp2
     go_ret
     exact ⟨rfl,_,World.drewN_drewN _ _ _⟩
   ·have hall:xs=ys:=by
     have:=uQ HK
     have hl:=uQ HL
     rw[List.take_of_length_le (by omega),List.take_of_length_le (by omega)]at this
     exact this
    have hR:=uQ HR
    rw[decide_eq_true hall]at hR
    subst hR
    clear HR HK hall H1 H2 HL
    go_wp2
    go_ret
    exact ⟨rfl,n,rfl⟩
 ·have hne:xs≠ys:=fun e=>hlen (by rw[e])
  rw[decide_eq_false hne]
  have g:((xs.length:Int) != (ys.length:Int))=true:=by rw[bne_iff_ne];omega
  clear hlen hne H1 H2
  go_enter Tryz.func19,Tryz.ntmps19
  go_wp2
  go_ret
  exact ⟨rfl,0,rfl⟩
theorem q35 {B:Nat}{a w:World}(h:Below B a w)(n:Nat):Below B a (w.drewN n):=⟨h.os,h.tape,h.output,h.size,h.block⟩
theorem CmpS.drewN {w:World}{g1 g2:Nat}{k1:ByteArray}{a1:Option Addr}{n1 c1:Nat}{k2:ByteArray}{a2:Option Addr}{n2 c2:Nat}{W:World}(h:CmpS w g1 g2 k1 a1 n1 c1 k2 a2 n2 c2 W)(n:Nat):CmpS w g1 g2 k1 a1 n1 c1 k2 a2 n2 c2 (W.drewN n):=⟨q35 h.bel n,h.b1,h.b2⟩
theorem qeC {a b:ByteArray}(h:a≠b):(a.toList==b.toList)=false:=by
 rw[beq_eq_false_iff_ne]
 intro e
 refine h (ByteArray.ext (Array.ext' ?_))
 rw[<-ByteArray.toList_eq, <-ByteArray.toList_eq]
 exact e
theorem q33 (k1:ByteArray)(a1:Option Addr)(c1:Nat)(s1:List (List Int))(k2:ByteArray)(a2:Option Addr)(c2:Nat)(s2:List (List Int))(w:World)(ok1:MtOk k1 s1)(ok2:MtOk k2 s2)(h1:StagesAt w a1 s1)(h2:StagesAt w a2 s2):
  Calls Tryz.prog 8 #[.agg #[.string k1, .slice a1 s1.length c1], .agg #[.string k2, .slice a2 s2.length c2]] w fun e w'=>e= .returned (.bool (decide (k1=k2/\s1=s2)))/\Below w.heap.size w w':=by
 have s0:CmpS w w.heap.size (w.heap.size+1) k1 a1 s1.length c1 k2 a2 s2.length c2 ((w.alloc (.cells #[.string k1, .slice a1 s1.length c1] 44)).alloc (.cells #[.string k2, .slice a2 s2.length c2] 44)):=by
  refine ⟨((Below.refl _ _).alloc (Nat.le_refl _) _).alloc (by simp) _,MBox.alloc (heap_alloc_new w _) _,?_⟩
  have:=heap_alloc_new (w.alloc (.cells #[.string k1, .slice a1 s1.length c1] 44)) (.cells #[.string k2, .slice a2 s2.length c2] 44)
  unfold MBox
  simpa using this
 by_cases hk:k1=k2
 ·by_cases hlen:s1.length=s2.length
  ·subst hk
   generalize hR:decide (k1=k1/\s1=s2)=R
   have HR:=hZq hR
   have H1:=hZq h1
   have H2:=hZq h2
   have P1:=hZq ok1
   have P2:=hZq ok2
   have h8:=ok1.2.1
   have HL:=hZq hlen
   rw[<-hlen]at s0 ⊢
   clear hR h1 h2 ok1 ok2 hlen
   go_enter Tryz.func8,Tryz.ntmps8
   go_wp2_with fail
   generalize ((w.alloc (.cells #[.string k1, .slice a1 s1.length c1] 44)).alloc (.cells #[.string k1, .slice a2 s1.length c2] 44))=W0 at *
   go_loopw [5] (fun i wr=> ∃k:Nat,k<=s1.length/\i= .int .i64 (k:Int)/\CmpS w w.heap.size (w.heap.size+1) k1 a1 s1.length c1 k1 a2 s1.length c2 wr/\Hid (s1.take k=s2.take k)) (fun i _=>s1.length-(intOf i).toNat)
   case atStart=>exact ⟨0,Nat.zero_le _,rfl,s0,hZq (by simp)⟩
   case round=>
    clear s0
    obtain ⟨k,hk,rfl,s0,HK⟩:=hrel
    have f0:=s0.full.2
    by_cases hlt:k<s1.length
    ·have hlt2:k<s2.length:=by have:=uQ HL;omega
     obtain ⟨b1,o1,rfl,_,q1⟩:=(uQ H1).below s0.bel (Nat.le_refl _) (fun e=>by rw[e]at hlt;simp at hlt)
     obtain ⟨b2,o2,rfl,_,q2⟩:=(uQ H2).below s0.bel (Nat.le_refl _) (fun e=>by rw[e]at hlt2;simp at hlt2)
     obtain ⟨p1,m1,x1,i1⟩:=q1 k hlt
     obtain ⟨p2,m2,y1,i2⟩:=q2 k hlt2
     have l1:=(uQ P1).2.2 s1[k] (List.getElem_mem hlt)
     have l2:=(uQ P2).2.2 s2[k] (List.getElem_mem hlt2)
     have hstep:=fun he=>q6E hlt hlt2 (uQ HK) he
     have hdiff:s1[k]≠s2[k]->s1≠s2:=fun hne e=>hne (by simp[e])
     have HST:=hZq hstep
     have HDI:=hZq hdiff
     have hli:(k:Int)<(s1.length:Int):=by omega
     clear q1 q2 HK hstep hdiff H1 H2 P1 P2
     generalize s1[k]=x at *
     generalize s2[k]=y at *
     have hc:=fun q=>q6x p1 p2 m1 m2 x y (wr.drewN q) l1 l2 i1 i2
     by_cases he:x=y
     ·have HT:=hZq (uQ HST he)
      clear HST HDI
      subst he
      simp only[decide_true]at hc
      have HC:=hZq hc
      clear hc i1 i2
      generalize x.length=nx at *
      go_wp2
      go_quiet (first|(go_at_call 19;exact Calls.quiet_of (uQ HC _)))
      go_wp2
      go_roundw
      case rel=>exact ⟨k+1,by omega,by go_num,s0.drewN _,HT⟩
      case measure=>simp[intOf];omega
     ·have hR:=uQ HR
      rw[decide_eq_false (fun h=>uQ HDI he h.2)]at hR
      subst hR
      simp only[decide_eq_false he]at hc
      have HC:=hZq hc
      clear hc i1 i2 HDI HST he HR
      generalize x.length=nx at *
      generalize y.length=ny at *
      go_wp2
      go_quiet (first|(go_at_call 19;exact Calls.quiet_of (uQ HC _)))
      go_wp2
      go_ret
      exact ⟨rfl,q35 s0.bel _⟩
    ·have hall:s1=s2:=by
      have:=uQ HK
      have hl:=uQ HL
      rw[List.take_of_length_le (by omega),List.take_of_length_le (by omega)]at this
      exact this
     have hR:=uQ HR
     rw[decide_eq_true ⟨trivial,hall⟩]at hR
     subst hR
     clear HR HK hall H1 H2 HL P1 P2
     go_wp2
     go_ret
     exact ⟨rfl,s0.bel⟩
  ·have hne: ¬ (k1=k2/\s1=s2):=fun h=>hlen (by rw[h.2])
   rw[decide_eq_false hne]
   have g:((s1.length:Int) != (s2.length:Int))=true:=by rw[bne_iff_ne];omega
   subst hk
   clear hlen hne h1 h2 ok1 ok2
   go_enter Tryz.func8,Tryz.ntmps8
   go_wp2
   go_ret
   exact ⟨rfl,s0.bel⟩
 ·have hne: ¬ (k1=k2/\s1=s2):=fun h=>hk h.1
  rw[decide_eq_false hne]
  have g:=qeC hk
  clear hk hne h1 h2 ok1 ok2
  go_enter Tryz.func8,Tryz.ntmps8
  go_wp2
  go_ret
  exact ⟨rfl,s0.bel⟩
def wkS (h:ByteArray):ByteArray:=((⟨#[115,116,97,114,116,32,97,58,32,116,121,112,101,32,61,61,32,39,120,39,59,32]⟩:ByteArray)++h)++⟨#[32,98,43,58,32,116,121,112,101,32,61,61,32,39,121,39,59,32,119,105,116,104,105,110,32,57]⟩
def wkP (h:Int):Ptn:=⟨[⟨⟨#[97]⟩,0,false,[⟨9,0,⟨#[]⟩,⟨#[]⟩,0⟩,⟨3,0,⟨#[]⟩,⟨#[]⟩,4⟩,⟨2,0,⟨#[120]⟩,⟨#[]⟩,0⟩]⟩,⟨⟨#[98]⟩,h,true,[⟨9,0,⟨#[]⟩,⟨#[]⟩,0⟩,⟨3,0,⟨#[]⟩,⟨#[]⟩,4⟩,⟨2,0,⟨#[121]⟩,⟨#[]⟩,0⟩]⟩],9⟩
def wkE:List Ev:=tyL ⟨#[120,121,122,121]⟩
structure WkF (how:ByteArray)(m:Nat)(h:Int)(r:List (List (List Nat))):Prop where
 rd:rdP (wkS how)=⟨wkP h,0,0⟩
 ck:mckE (wkP h) wkE=0
 fd:Mt.fnd (Mt.pm (wkP h) wkE) 9=[[0],[1]]::r
 st:Srt ([[0],[1]]::r)
 ln:r.length+1=m
 sz:(wkS how).size<=1000
 hl:how.size<=9
 hw: -9223372036854775808<=h/\h<=9223372036854775807
theorem qbZ:WkF ⟨#[116,104,101,110]⟩ 2 2 [[[0],[1,3]]]:=⟨by kernel_rfl,by kernel_rfl,by kernel_rfl,(show List.Pairwise (fun a b=>cT a b<0) _ from of_decide_eq_true (by kernel_rfl)),rfl,of_decide_eq_true (by kernel_rfl),by decide,by decide⟩
theorem qdx:WkF ⟨#[97,110,121]⟩ 3 3 [[[0],[1,3]],[[0],[3]]]:=⟨by kernel_rfl,by kernel_rfl,by kernel_rfl,(show List.Pairwise (fun a b=>cT a b<0) _ from of_decide_eq_true (by kernel_rfl)),rfl,of_decide_eq_true (by kernel_rfl),by decide,by decide⟩
theorem qbY:WkF ⟨#[110,101,120,116]⟩ 1 1 []:=⟨by kernel_rfl,by kernel_rfl,by kernel_rfl,(show List.Pairwise (fun a b=>cT a b<0) _ from of_decide_eq_true (by kernel_rfl)),rfl,of_decide_eq_true (by kernel_rfl),by decide,by decide⟩
theorem qf4:arE ⟨#[107]⟩ wkE=true:=by kernel_rfl
theorem WkF.fi {how:ByteArray}{m:Nat}{h:Int}{r:List (List (List Nat))}(f:WkF how m h r)(hm:m<=9):fiE (wkP h) ⟨#[107]⟩ wkE=0/\fiL (wkP h) ⟨#[107]⟩ wkE=[[0],[1]]::r:=by
 have hwi:(wkP h).wi.toNat=9:=rfl
 have e1:fdS (Mt.pm (wkP h) wkE) 9=[[0],[1]]::r:=q4O (q4y _ _) f.st (by rw[<-f.fd];exact q1Y _ _)
 have hl:=f.ln
 have e2:fiE (wkP h) ⟨#[107]⟩ wkE=0:=by
  unfold fiE
  rw[if_pos f.ck,if_pos qf4,hwi,e1,if_neg (by rw[List.length_cons];omega)]
 refine ⟨e2,?_⟩
 unfold fiL
 rw[if_pos e2,hwi,e1]
theorem qf5 (h:Int)(hw: -9223372036854775808<=h/\h<=9223372036854775807):(∀g∈(wkP h).ss,g.ok)/\ ∀g∈(wkP h).ss, ∀q∈g.cd,q.fit:=by
 constructor
 ·intro g hg
  unfold wkP at hg
  simp only[List.mem_cons,List.not_mem_nil,or_false]at hg
  rcases hg with rfl|rfl
  ·refine ⟨by decide,by decide,fun p hp=>?_⟩
   simp only[List.mem_cons,List.not_mem_nil,or_false]at hp
   rcases hp with rfl|rfl|rfl <;> (unfold Pt.ok;decide)
  ·refine ⟨by show (⟨#[98]⟩:ByteArray).size<=_;decide,hw,fun p hp=>?_⟩
   simp only[List.mem_cons,List.not_mem_nil,or_false]at hp
   rcases hp with rfl|rfl|rfl <;> (unfold Pt.ok;decide)
 ·intro g hg q hq
  unfold wkP at hg
  simp only[List.mem_cons,List.not_mem_nil,or_false]at hg
  rcases hg with rfl|rfl
  all_goals
   simp only[List.mem_cons,List.not_mem_nil,or_false]at hq
   rcases hq with rfl|rfl|rfl <;> (unfold Pt.fit;decide)
theorem qf6: ∀e∈wkE,evSz e:=by
 intro e he
 unfold wkE tyL at he
 simp only[List.mem_map]at he
 obtain ⟨c,_,rfl⟩:=he
 unfold tyE evSz
 decide+revert
theorem qah (W:World):StagesAt (((W.alloc (.cells #[.int .i64 0] 3)).alloc (.cells #[.int .i64 1] 3)).alloc (.cells #[.slice (some ⟨W.heap.size,0,none⟩) 1 1, .slice (some ⟨W.heap.size+1,0,none⟩) 1 1] 40)) (some ⟨W.heap.size+1+1,0,none⟩) [[0],[1]]:=fun _=>by
 have k0:=(Kp.alloc (W.alloc (.cells #[.int .i64 0] 3)) (.cells #[.int .i64 1] 3)).trans (Kp.alloc _ (.cells #[.slice (some ⟨W.heap.size,0,none⟩) 1 1, .slice (some ⟨W.heap.size+1,0,none⟩) 1 1] 40)) (by simp)
 have c0:=((CBox.new W #[.int .i64 0] 3).kp k0 (by simp)).cell (i:=0) (v:= .int .i64 0) rfl
 have c1:=((CBox.new (W.alloc (.cells #[.int .i64 0] 3)) #[.int .i64 1] 3).kp (Kp.alloc _ (.cells #[.slice (some ⟨W.heap.size,0,none⟩) 1 1, .slice (some ⟨W.heap.size+1,0,none⟩) 1 1] 40)) (by simp)).cell (i:=0) (v:= .int .i64 1) rfl
 have c2:=CBox.new ((W.alloc (.cells #[.int .i64 0] 3)).alloc (.cells #[.int .i64 1] 3)) #[.slice (some ⟨W.heap.size,0,none⟩) 1 1, .slice (some ⟨W.heap.size+1,0,none⟩) 1 1] 40
 simp only[World.size_alloc]at c1 c2
 refine ⟨W.heap.size+1+1,0,rfl,by simp,fun i hi=>?_⟩
 have h2:i=0\/i=1:=by simp at hi;omega
 rcases h2 with rfl|rfl
 ·refine ⟨_,1,c2.cell rfl,fun _=>⟨W.heap.size,0,rfl,by simp;omega,fun k hk=>?_⟩⟩
  have:k=0:=by simp at hk;omega
  subst this
  exact c0
 ·refine ⟨_,1,c2.cell rfl,fun _=>⟨W.heap.size+1,0,rfl,by simp,fun k hk=>?_⟩⟩
  have:k=0:=by simp at hk;omega
  subst this
  exact c1
theorem q8q (w:World)(hT:TbE w):Calls Tryz.prog 4 #[] w fun e w'=>e= .returned (.bool true)/\Kp [] w w':=by
 obtain ⟨W0,hW0⟩: ∃W0,W0=w.alloc (.cells #[.string ⟨#[116,104,101,110]⟩, .int .i64 2, .string ⟨#[97,110,121]⟩, .int .i64 3, .string ⟨#[110,101,120,116]⟩, .int .i64 1] 46):=⟨_,rfl⟩
 have k0:Kp [] w W0:=by rw[hW0];exact Kp.alloc _ _
 have HROW:Hid (∀j,j<3-> ∃how m h r,WkF how m h r/\m<=9/\ ∀W,Kp [] W0 W->W.cell? ⟨w.heap.size,j * 2,none⟩=some (.string how)/\W.cell? ⟨w.heap.size,j * 2+1,none⟩=some (.int .i64 (m:Int))):=hZq (fun j hj=>by
  have hb:=CBox.new w #[.string ⟨#[116,104,101,110]⟩, .int .i64 2, .string ⟨#[97,110,121]⟩, .int .i64 3, .string ⟨#[110,101,120,116]⟩, .int .i64 1] 46
  rw[<-hW0]at hb
  have h3:j=0\/j=1\/j=2:=by omega
  rcases h3 with rfl|rfl|rfl
  ·exact ⟨_,_,_,_,qbZ,by omega,fun W hk=>⟨(hb.kp hk (by simp)).cell rfl,(hb.kp hk (by simp)).cell rfl⟩⟩
  ·exact ⟨_,_,_,_,qdx,by omega,fun W hk=>⟨(hb.kp hk (by simp)).cell rfl,(hb.kp hk (by simp)).cell rfl⟩⟩
  ·exact ⟨_,_,_,_,qbY,by omega,fun W hk=>⟨(hb.kp hk (by simp)).cell rfl,(hb.kp hk (by simp)).cell rfl⟩⟩)
 have HK0:=hZq k0
 have HT:=hZq hT
 have EF:=fun W=>eqF 9998 0 0 0 0 W
 have HTL:Hid ((tyL ⟨#[120,121,122,121]⟩).length=4):=hZq (by kernel_rfl)
 clear hT k0
 go_enter Tryz.func4,Tryz.ntmps4
 go_upto_region 2 with fail
 rw[<-hW0]
 clear hW0
 go_wp2_with fail
 go_loopw [12] (fun iv wr=> ∃j:Nat,j<=3/\iv= .int .i64 (j:Int)/\Hid (Kp [] W0 wr)) (fun iv _=>3-(intOf iv).toNat)
 case atStart=>exact ⟨0,by omega,rfl,hZq (Kp.refl _ _)⟩
 case round=>
  obtain ⟨j,hj,rfl,HK⟩:=hrel
  by_cases hlt:j<3
  ·have hli:(j:Int)<3:=by omega
   obtain ⟨how,m,h,r,hF,hm9,hcl⟩:=uQ HROW j hlt
   obtain ⟨c0,c1⟩:=hcl wr (uQ HK)
   have b1:=CBox.new wr #[.string how, .int .i64 (m:Int)] 46
   have k1:=Kp.alloc wr (.cells #[.string how, .int .i64 (m:Int)] 46)
   obtain ⟨W1,hW1⟩: ∃W1,W1=wr.alloc (.cells #[.string how, .int .i64 (m:Int)] 46):=⟨_,rfl⟩
   rw[<-hW1]at b1 k1
   have kw1:=((uQ HK0).trans (uQ HK) (by simp)).trans k1 (by simp)
   have RD0:=q9N (wkS how) W1 ((uQ HT).kp kw1 (by simp)) (by have:=hF.sz;omega)
   rw[hF.rd]at RD0
   have RD:Hid (Calls Tryz.prog 9 #[.string (wkS how)] W1 fun e w'=> ∃ad cp rs,e= .returned (.tuple #[.agg #[.slice ad 2 cp, .int .i64 9], .agg #[.int .i64 0, .int .i64 0]])/\(StsAt w' ad (rs:List SR)/\stgs rs=(wkP h).ss/\rs.length=2/\2<=cp)/\Kp [] W1 w'):=hZq (RD0.mono fun e w' ⟨⟨ad,cp,rs,h1,h2,h3⟩,h4⟩=>by
    obtain ⟨a',c',e',hat,hcap⟩:=h2.at
    injection e' with ea eb ec
    have hl:rs.length=2:=by rw[<-q02,h3];rfl
    rw[hl]at h1
    subst ea ec
    exact ⟨ad,cp,rs,h1,⟨hat,h3,hl,by omega⟩,Kp.ofBelow h4⟩)
   unfold wkS at RD
   have d0:=b1.cell (i:=0) (v:= .string how) rfl
   have HB1:=hZq b1
   have HKW1:=hZq k1
   have HF:=hZq hF
   have hh9:=hF.hl
   clear RD0 hcl hF b1 k1 kw1 HROW
   go_upto_region 4 with fail
   rw[<-hW1]
   clear hW1 c0 c1
   go_wp2_with fail
   refine (uQ RD).mono ?_
   rintro e w2 ⟨ad,cp,rs,rfl,hrs,hk2⟩
   have kv:Kp [] w2 ((w2.alloc (.cells #[.slice ad 2 cp, .int .i64 9] 24)).alloc (.cells #[.int .i64 0, .int .i64 0] 49)):=(Kp.alloc _ _).trans (Kp.alloc _ _) (by simp)
   have hP1:=q2h w2 #[.slice ad 2 cp, .int .i64 9] 24 (.cells #[.int .i64 0, .int .i64 0] 49)
   have hF1:=q3x w2 #[.int .i64 0, .int .i64 0] 49 (.cells #[.slice ad 2 cp, .int .i64 9] 24)
   obtain ⟨W3,hW3⟩: ∃W3,W3=((w2.alloc (.cells #[.slice ad 2 cp, .int .i64 9] 24)).alloc (.cells #[.int .i64 0, .int .i64 0] 49)):=⟨_,rfl⟩
   rw[<-hW3]at kv hP1 hF1
   obtain ⟨V,hV⟩: ∃V,V=W3.drew:=⟨_,rfl⟩
   have kV:Kp [] W3 V:=by rw[hV];exact Kp.drew _
   have k2V:Kp [] w2 V:=kv.trans kV (by simp)
   have k0V:Kp [] w V:=((((uQ HK0).trans (uQ HK) (by simp)).trans (uQ HKW1) (by simp)).trans hk2 (by simp)).trans k2V (by simp)
   have kWr:Kp [] W0 V:=(((uQ HK).trans (uQ HKW1) (by simp)).trans hk2 (by simp)).trans k2V (by simp)
   have HC2:Hid (∀W,Kp [] V W->(W.cell? ⟨w2.heap.size+1,0,none⟩=some (.int .i64 0)/\W.cell? ⟨w2.heap.size+1,1,none⟩=some (.int .i64 0))/\W.cell? ⟨wr.heap.size,1,none⟩=some (.int .i64 (m:Int))/\Hid (Kp [] W0 W)):=hZq (fun W hk=>⟨⟨(hF1.kp (kV.trans hk (by simp)) (by simp)).cell rfl,(hF1.kp (kV.trans hk (by simp)) (by simp)).cell rfl⟩,((uQ HB1).kp ((hk2.trans k2V (by simp)).trans hk (by simp)) (by simp)).cell rfl,hZq (kWr.trans hk (by simp))⟩)
   have HSV:Hid (∀W,Kp [] V W->(W.cell? ⟨w2.heap.size,0,none⟩=some (.slice ad 2 cp)/\W.cell? ⟨w2.heap.size,1,none⟩=some (.int .i64 9))/\Hid (∀ta tc,EvsAt W ta (tyL ⟨#[120,121,122,121]⟩)->Calls Tryz.prog 6 #[.agg #[.slice ad 2 cp, .int .i64 9], .string ⟨#[107]⟩, .slice ta (tyL ⟨#[120,121,122,121]⟩).length tc] W fun e w'=> ∃fg fc zg,e= .returned (.tuple #[.slice (some ⟨fg,0,none⟩) m fc, .int .i64 0])/\Kp [] W w'/\(∀W',Kp [] w' W'->StagesAt W' (some ⟨zg,0,none⟩) [[0],[1]])/\w'.cell? ⟨fg,0,none⟩=some (.string ⟨#[107]⟩)/\w'.cell? ⟨fg,1,none⟩=some (.slice (some ⟨zg,0,none⟩) 2 2))):=hZq (fun W hk=>⟨⟨(hP1.kp (kV.trans hk (by simp)) (by simp)).cell rfl,(hP1.kp (kV.trans hk (by simp)) (by simp)).cell rfl⟩,hZq (fun ta tc hev=>by
    obtain ⟨r1,r2,r3,r4⟩:=hrs
    have hwo:=qf5 h (uQ HF).hw
    have hmm: ∀x∈rs,x.s∈(wkP h).ss:=fun x hx=>by rw[<-r2];unfold stgs;exact List.mem_map_of_mem hx
    have hfd:=q5P ad cp rs 9 ta tc wkE ⟨#[107]⟩ W (r1.kp (k2V.trans hk (by simp))) hev ((uQ HT).kp (k0V.trans hk (by simp)) (by simp)) (fun x hx=>hwo.1 _ (hmm x hx)) (fun x hx=>hwo.2 _ (hmm x hx)) (by omega) (by omega) (by decide) qf6 (by decide)
    have he:(⟨stgs rs,9⟩:Ptn)=wkP h:=by rw[r2];rfl
    obtain ⟨f1,f2⟩:=(uQ HF).fi hm9
    rw[he,f1,f2,r3]at hfd
    refine hfd.mono ?_
    rintro e w' ⟨v,zs,rfl,hP⟩
    have hts:=hP.ts
    match zs,hts with
    |[],hts=>cases hts
    |z::zr,hts=>
     rw[List.map_cons,List.cons.injEq]at hts
     have hlen:(z::zr).length=m:=by
      rw[List.length_cons, <-(uQ HF).ln, <-hts.2,List.length_map]
     have hrow:=hP.row
     rw[hlen]at hrow
     obtain ⟨a,c,rfl,hg⟩:=q2g hrow
     obtain ⟨g,rfl⟩:=hg (by rw[<-hlen];simp)
     have hrow':=hP.row
     rw[<-hlen]at hrow'
     have c0:=q0o (enc:=mtE ⟨#[107]⟩) (sz:=2) (q15 _) hrow' 0 0 (by simp) (by omega)
     have c1:=q0o (enc:=mtE ⟨#[107]⟩) (sz:=2) (q15 _) hrow' 0 1 (by simp) (by omega)
     refine ⟨g,c,z.g,rfl,hP.kp,fun W' hk'=>?_,c0,?_⟩
     ·have:=((hP.cp z (by simp)).kp hk' (by simp)).stages
      rw[hts.1]at this
      exact this
     ·have e2:w'.cell? ⟨g,1,none⟩=some z.v:=c1
      rw[e2]
      unfold Cp.v
      rw[hts.1]
      rfl)⟩)
   have TY:=hZq (qag ⟨#[120,121,122,121]⟩ (by decide) V)
   have hS0:=(uQ HSV V (Kp.refl _ _)).1
   have hm1:1<=m:=by have:=(uQ HF).ln;omega
   clear RD hrs hk2 kv hP1 hF1 kV k2V k0V kWr HB1 HKW1 HF d0 HK
   go_upto_region 5 with fail
   rw[<-hW3]
   clear hW3
   go_cut [5,6] (fun lv ev wc=> ∃fg fc zg,lv= .slice (some ⟨fg,0,none⟩) m fc/\ev= .int .i64 0/\Hid (Kp [] V wc/\(∀W',Kp [] wc W'->StagesAt W' (some ⟨zg,0,none⟩) [[0],[1]])/\wc.cell? ⟨fg,0,none⟩=some (.string ⟨#[107]⟩)/\wc.cell? ⟨fg,1,none⟩=some (.slice (some ⟨zg,0,none⟩) 2 2)))
   case first=>
    refine wp_region_held_drew (S:=fun W=>W.cell? ⟨w2.heap.size,0,none⟩=some (.slice ad 2 cp)/\W.cell? ⟨w2.heap.size,1,none⟩=some (.int .i64 9)) (by kernel_rfl) (by rw[<-hV];exact hS0) (fun hHeld=>?_)
    rw[<-hV]at hHeld ⊢
    clear hV
    show wpAnyH _ _ _ _ _ 8 (Array.replicate 8 false) _ _
    refine wpAnyH_take (i:=0) (oi:=⟨some 25,Op.load 24 (.tmp 3),24,"theorems.go:29",#[],none⟩) (v:=?_) rfl (by kernel_rfl) (by kernel_rfl) (by kernel_rfl) (fun _ _ _ h=>h) (Or.inl ⟨by rfl,?_⟩) (by assumption) ?_
    rotate_left
    ·intro w0 s9
     (try dsimp only at s9)
     go_simp
     (try with_reducible rfl)
    try simp only[Act.put,zz1,zz2,zz3]
    refine wpAnyH_ready (rs:=[1]) (by kernel_rfl) (by simp) ?_
    refine AllReadyH.cons (o:=⟨some 26,Op.call { callee:= .value (.func 10),args:=#[.const (Value.string { data:=#[120,121,122,121] })],argTypes:=#[9] },25,"theorems.go:29",#[],none⟩) rfl (fun K hK=>?_) AllReadyH.nil
    go_simp
    refine (uQ TY).mono ?_
    rintro e w5 ⟨tv,rfl,hto,hk5⟩
    obtain ⟨ta,tc,rfl,hte⟩:=hto.at
    have HK5:=hZq hk5
    obtain ⟨hS5,HF5⟩:=uQ HSV w5 hk5
    have FD:=hZq (uQ HF5 ta tc hte)
    clear TY HF5 hto hte hk5
    refine hK.out _ _ ?_ (fun hHeld=>?_)
    ·exact hS5
    clear hK K
    try simp only[Act.put,zz1,zz2,zz3]
    refine wpAnyH_ready (rs:=[2]) (by kernel_rfl) (by simp) ?_
    refine AllReadyH.cons (o:=⟨some 27,Op.call { callee:= .value (.func 6),args:=#[.tmp 25, .const (Value.string { data:=#[107] }), .tmp 26],argTypes:=#[24,9,25] },36,"theorems.go:29",#[⟨0, .data⟩,⟨1, .data⟩,⟨1, .chain⟩],none⟩) rfl (fun K hK=>?_) AllReadyH.nil
    go_simp
    refine (uQ FD).mono ?_
    rintro e w6 ⟨fg,fc,zg,rfl,hk6,hstz,l0,l1⟩
    have HK6:=hZq ((uQ HK5).trans hk6 (by simp))
    obtain ⟨hS6,_⟩:=uQ HSV w6 (uQ HK6)
    have HSTZ:=hZq hstz
    clear FD hk6 HK5 hS5 hstz
    refine hK.out _ _ ?_ (fun hHeld=>?_)
    ·exact hS6
    clear hK K
    try simp only[Act.put,zz1,zz2,zz3]
    refine wpAnyH_take (i:=3) (oi:=⟨some 24,Op.move (.tmp 27),36,"theorems.go:29",#[⟨2, .data⟩],none⟩) (v:=?_) rfl (by kernel_rfl) (by kernel_rfl) (by kernel_rfl) (fun _ _ _ h=>h) (Or.inl ⟨by rfl,?_⟩) (by assumption) ?_
    rotate_left
    ·intro w0 s9
     (try dsimp only at s9)
     go_simp
     (try with_reducible rfl)
    try simp only[Act.put,zz1,zz2,zz3]
    refine wpAnyH_take (i:=4) (oi:=⟨some 28,Op.extract (.tmp 24) 0,34,"theorems.go:29",#[⟨3, .data⟩],none⟩) (v:=?_) rfl (by kernel_rfl) (by kernel_rfl) (by kernel_rfl) (fun _ _ _ h=>h) (Or.inl ⟨by rfl,?_⟩) (by assumption) ?_
    rotate_left
    ·intro w0 s9
     (try dsimp only at s9)
     go_simp
     (try with_reducible rfl)
    try simp only[Act.put,zz1,zz2,zz3]
    refine wpAnyH_take (i:=5) (oi:=⟨some 29,Op.extract (.tmp 24) 1,35,"theorems.go:29",#[⟨3, .data⟩,⟨6, .gcOnly Departure.lateStores⟩],none⟩) (v:=?_) rfl (by kernel_rfl) (by kernel_rfl) (by kernel_rfl) (fun _ _ _ h=>h) (Or.inl ⟨by rfl,?_⟩) (by assumption) ?_
    rotate_left
    ·intro w0 s9
     (try dsimp only at s9)
     go_simp
     (try with_reducible rfl)
    try simp only[Act.put,zz1,zz2,zz3]
    refine wpAnyH_take (i:=6) (oi:=⟨some 5,Op.assign (.tmp 28),34,"theorems.go:29",#[⟨4, .data⟩,⟨2, .chain⟩,⟨0, .phase⟩,⟨1, .phase⟩,⟨2, .phase⟩,⟨3, .phase⟩,⟨4, .phase⟩,⟨5, .textOnly Departure.lateStores⟩],none⟩) (v:=?_) rfl (by kernel_rfl) (by kernel_rfl) (by kernel_rfl) (fun _ _ _ h=>h) (Or.inl ⟨by rfl,?_⟩) (by assumption) ?_
    rotate_left
    ·intro w0 s9
     (try dsimp only at s9)
     go_simp
     (try with_reducible rfl)
    try simp only[Act.put,zz1,zz2,zz3]
    refine wpAnyH_take (i:=7) (oi:=⟨some 6,Op.assign (.tmp 29),35,"theorems.go:29",#[⟨5, .data⟩,⟨6, .chain⟩,⟨0, .phase⟩,⟨1, .phase⟩,⟨2, .phase⟩,⟨3, .phase⟩,⟨4, .phase⟩,⟨5, .phase⟩,⟨6, .phase⟩],none⟩) (v:=?_) rfl (by kernel_rfl) (by kernel_rfl) (by kernel_rfl) (fun _ _ _ h=>h) (Or.inl ⟨by rfl,?_⟩) (by assumption) ?_
    rotate_left
    ·intro w0 s9
     (try dsimp only at s9)
     go_simp
     (try with_reducible rfl)
    try simp only[Act.put,zz1,zz2,zz3]
    refine wpAnyH_done (by kernel_rfl) ?_ _
    have HKF:=hZq (And.intro (uQ HK6) (And.intro (uQ HSTZ) (And.intro l0 l1)))
    clear HSV HC2 HK6 HSTZ hS6 hHeld l0 l1
    go_wp2
    go_meet
    exact ⟨fg,fc,zg,rfl,rfl,HKF⟩
   case rest=>
   obtain ⟨fg,fc,zg,rfl,rfl,HK6⟩:=hcut
   obtain ⟨kc,hstz,l0,l1⟩:=uQ HK6
   obtain ⟨⟨y0,y1⟩,y2,HKC⟩:=uQ HC2 wc kc
   have ka:Kp [] wc (((wc.alloc (.cells #[.int .i64 0] 3)).alloc (.cells #[.int .i64 1] 3)).alloc (.cells #[.slice (some ⟨wc.heap.size,0,none⟩) 1 1, .slice (some ⟨wc.heap.size+1,0,none⟩) 1 1] 40)):=((Kp.alloc _ _).trans (Kp.alloc _ _) (by simp)).trans (Kp.alloc _ _) (by simp)
   have SM:=hZq (q33 ⟨#[107]⟩ (some ⟨zg,0,none⟩) 2 [[0],[1]] ⟨#[107]⟩ (some ⟨wc.heap.size+1+1,0,none⟩) 2 [[0],[1]] _ ⟨by decide,by decide,by decide⟩ ⟨by decide,by decide,by decide⟩ (hstz _ ka) (qah wc))
   have HD:decide (((⟨#[107]⟩:ByteArray)=⟨#[107]⟩)/\(([[0],[1]]:List (List Int))=[[0],[1]]))=true:=decide_eq_true ⟨rfl,rfl⟩
   rw[HD]at SM
   have hmi:(0:Int)<(m:Int):=by omega
   have HKA:=hZq ((uQ HKC).trans ka (by simp))
   clear HSV HC2 HK6 kc hstz HKC ka HD TY hS0 HK0 HT HTL
   go_wp2_with fail
   refine (uQ SM).mono ?_
   rintro e w9 ⟨rfl,hb9⟩
   have HK9:=hZq ((uQ HKA).trans (Kp.ofBelow hb9) (by simp))
   clear SM hb9 HKA l0 l1 y0 y1 y2
   go_wp2
   go_roundw
   case rel=>exact ⟨j+1,by omega,by go_num,HK9⟩
   case measure=>simp[intOf];omega
  ·obtain rfl:j=3:=by omega
   have HKF:=hZq ((uQ HK0).trans (uQ HK) (by simp))
   clear HK HROW
   go_wp2
   go_ret
   exact ⟨rfl,uQ HKF⟩
structure MsR (key:ByteArray)(w:World)(v:Value)(zs:List Cp):Prop where
 row:w.ownsRow 0 44 2 v zs.length (zs.flatMap (mtE key))
 cp: ∀x∈zs,CpAt w x
theorem qby {w:World}{B e sz n:Nat}{v:Value}{xs:List Value}(h:w.ownsRow B e sz v n xs):w.ownsRow 0 e sz v n xs:=by
 obtain ⟨h1,h2|⟨g,cap,cur,h2,_,h4⟩⟩:=h
 ·exact ⟨h1,Or.inl h2⟩
 ·exact ⟨h1,Or.inr ⟨g,cap,cur,h2,Nat.zero_le _,h4⟩⟩
theorem MsR.kp {key:ByteArray}{F:List Nat}{w w':World}{v:Value}{zs:List Cp}(h:MsR key w v zs)(hk:Kp F w w')(h1: ∀g,v.ownBlock=some g->g∉F)(h2: ∀x∈zs, ∀k∈x.B,k∉F):MsR key w' v zs:=
 ⟨q03 h.row hk h1,fun x hx=>(h.cp x hx).kp hk (h2 x hx)⟩
theorem MsR.up {key:ByteArray}{w w':World}{v:Value}{zs:List Cp}(h:MsR key w v zs)(hk:Kp [] w w'):MsR key w' v zs:=h.kp hk (by simp) (by simp)
theorem MsR.cell {key:ByteArray}{w:World}{g n c:Nat}{zs:List Cp}(h:MsR key w (.slice (some ⟨g,0,none⟩) n c) zs)(hn:n=zs.length)(j:Nat)(hj:j<zs.length):w.cell? ⟨g,j * 2,none⟩=some (.string key)/\w.cell? ⟨g,j * 2+1,none⟩=some zs[j].v:=by
 subst hn
 have c0:=q0o (enc:=mtE key) (sz:=2) (q15 key) h.row j 0 hj (by omega)
 have c1:=q0o (enc:=mtE key) (sz:=2) (q15 key) h.row j 1 hj (by omega)
 rw[Nat.add_zero]at c0
 exact ⟨c0,c1⟩
structure SyE (w:World)(g cap:Nat)(es:List Ev)(wr:World):Prop where
 row:OwnsX w.heap.size wr (.slice (some ⟨g,0,none⟩) es.length cap) es
 kp:Kp [] w wr
theorem SyE.up {w wr w':World}{g cap:Nat}{es:List Ev}(h:SyE w g cap es wr)(hk:Kp [] wr w'):SyE w g cap es w':=⟨q03 h.row hk (by simp),h.kp.trans hk (by simp)⟩
theorem SyE.at {w wr:World}{g cap:Nat}{es:List Ev}(h:SyE w g cap es wr):EvsAt wr (some ⟨g,0,none⟩) es:=by
 obtain ⟨ad,cp,e,h1⟩:=h.row.at
 injection e with e1 _ _
 rw[<-e1]at h1
 exact h1
section
open Go.RowKit Go.Deep
theorem qaq:Tryz.prog.bytesOf 180=56:=by kernel_rfl
theorem q1B {H:Type}{P:Program}{e:TypeId}{ds:List (DataW H)}{d:DataW H}{n:Nat}(hd:d∈ds)(hn:n∈d.weights P e):n∈DataW.weightsAll P e ds:=by
 induction ds with
 |nil=>cases hd
 |cons x r ih=>
  simp only[DataW.weightsAll,List.mem_append]
  rcases List.mem_cons.1 hd with rfl|h
  ·exact Or.inl hn
  ·exact Or.inr (ih h)
theorem q9G {H:Type}{enc:TypeId × Value->H}{W:World}{spare:Nat->Bool}{held:Bool}{fuel:Nat}{v:Value}{x:DataW H × List MemPlace}
  (h:DataW.trod enc Tryz.prog W 0 spare held fuel 31 [v]=some x) (hw: ∀n∈x.1.weights Tryz.prog 31,n<=reachBytes):
  ∃(ad:Option Addr) (cap:Nat) (l:List Pt),v= .slice ad l.length cap/\l.length * 56<=140737488351232/\l.length<=cap/\PtsAt W ad l/\(∀y∈l,y.ok)/\(ad=none->cap=0)/\ ∀y∈l,y.s.size<=140737488351232/\y.st.size<=140737488351232:=by
 obtain ⟨ad,cap,l,hv,h1,h2,h3⟩:=q6d h
 obtain ⟨f0,f1,f2,f3,f4,hu,t0,t1,t2,t3,t4,o0,o1,o2,o3,o4⟩:=q2e
 rcases open_slice Tryz.underlying31 h with ⟨hcs,_⟩|⟨a,len,cap',m,n,D,Pl,hcs,hb,hl,hm,hmm,rfl,hx⟩
 ·simp only[List.cons.injEq,and_true]at hcs
  rw[hv]at hcs
  simp only[Value.slice.injEq]at hcs
  have hl0:l=[]:=List.eq_nil_of_length_eq_zero hcs.2.1
  subst hl0
  exact ⟨ad,cap,[],hv,by simp,by simp,h2,h3,fun _=>hcs.2.2,by simp⟩
 ·simp only[List.cons.injEq,and_true]at hcs
  rw[hv]at hcs
  simp only[Value.slice.injEq]at hcs
  obtain ⟨rfl,hll,rfl⟩:=hcs
  have hlm:len<=m:=by rw[hmm];split <;> omega
  have hw0:(len+(m-len)) * 56<=reachBytes:=by
   have:=hw ((len+(m-len)) * 56) (by simp[DataW.weights,Tryz.underlying31,qaq])
   exact this
  have hreach:reachBytes=140737488351232:=by decide
  refine ⟨some a,cap,l,hv,by omega,by omega,h2,h3,(by intro e;cases e),fun y hy=>?_⟩
  obtain ⟨i,hi,rfl⟩:=List.mem_iff_getElem.1 hy
  obtain ⟨b,off,ea,_,hc⟩:=h2 (fun e=>by rw[e]at hi;simp at hi)
  obtain rfl:=Option.some.inj ea
  obtain ⟨cs',k1,k2⟩:=hx i (by omega)
  rw[q2A]at k1
  obtain ⟨_,hlen,hcell⟩:=World.cells?_some k1
  obtain ⟨xs,k,hk,hxy,_,hxl,hf⟩:=DataW.trod_struct hu k2
  match xs,hxl,cs',hlen with
  |[y0,y1,y2,y3,y4],_,[v0,v1,v2,v3,v4],_=>
   have g2:=hf 2 f2 rfl
   have g3:=hf 3 f3 rfl
   simp[o2,o3,t2,t3,q0H]at g2 g3
   have e2:=hcell 2 (by omega)
   have e3:=hcell 3 (by omega)
   rw[Go.Deep.add_add]at e2 e3
   obtain ⟨s,q2,q3,_⟩:=DataW.trod_string Tryz.underlying9 g2
   obtain ⟨s',q2',q3',_⟩:=DataW.trod_string Tryz.underlying9 g3
   simp only[List.cons.injEq,and_true]at q2 q2'
   subst q2 q2'
   have c2:=(hc i hi).2.2.1
   have c3:=(hc i hi).2.2.2.1
   rw[Go.WideShapes.add_plain]at e2 e3
   have e2':W.cell? ⟨b,off+i * 5+2,none⟩=some (.string s):=by rw[Nat.add_assoc];simpa using e2
   have e3':W.cell? ⟨b,off+i * 5+3,none⟩=some (.string s'):=by rw[Nat.add_assoc];simpa using e3
   rw[c2]at e2'
   rw[c3]at e3'
   simp only[Option.some.injEq,Value.string.injEq]at e2' e3'
   rw[e2',e3']
   have hD:D i= .agg [y0.1,y1.1,y2.1,y3.1,y4.1]:=by have:=congrArg Prod.fst hxy;simpa using this
   have hwt:s.size∈(D i).weights Tryz.prog 180:=by
    rw[hD]
    simp only[DataW.weights,hu]
    refine DataW.weights_mem_each (j:=2) (t:=9) (d:=y2.1) (by simp[t2]) rfl _ ?_
    rw[q3]
    simp[DataW.weights]
   have hwt':s'.size∈(D i).weights Tryz.prog 180:=by
    rw[hD]
    simp only[DataW.weights,hu]
    refine DataW.weights_mem_each (j:=3) (t:=9) (d:=y3.1) (by simp[t3]) rfl _ ?_
    rw[q3']
    simp[DataW.weights]
   have r1:=hw s.size (by
    simp only[DataW.weights,Tryz.underlying31,List.mem_cons,List.mem_append]
    exact Or.inr (Or.inl (q1B (List.mem_map.2 ⟨i,List.mem_range.2 (by omega),rfl⟩) hwt)))
   have r2:=hw s'.size (by
    simp only[DataW.weights,Tryz.underlying31,List.mem_cons,List.mem_append]
    exact Or.inr (Or.inl (q1B (List.mem_map.2 ⟨i,List.mem_range.2 (by omega),rfl⟩) hwt')))
   exact ⟨by omega,by omega⟩
end
section
open Go.RowKit Go.Deep
theorem q6P:Tryz.prog.cellsOf 33=4:=by kernel_rfl
theorem q5c:Tryz.prog.cellsOf 24=2:=by kernel_rfl
theorem q6Q:Tryz.prog.cellsOf 4=1:=by kernel_rfl
theorem q5x:Tryz.prog.cellsOf 31=1:=by kernel_rfl
theorem q2Z:Tryz.prog.cellsOf 22=1:=by kernel_rfl
theorem q6O:Tryz.prog.bytesOf 33=56:=by kernel_rfl
theorem q5O: ∃f0 f1 f2 f3:Field,Tryz.prog.underlying 33=some (.struct #[f0,f1,f2,f3])/\f0.type=9/\f1.type=3/\f2.type=4/\f3.type=31/\f0.offset=0/\f1.offset=1/\f2.offset=2/\f3.offset=3:=
 ⟨_,_,_,_,Tryz.underlying33,rfl,rfl,rfl,rfl,rfl,rfl,rfl,rfl⟩
theorem q2w: ∃f0 f1:Field,Tryz.prog.underlying 24=some (.struct #[f0,f1])/\f0.type=22/\f1.type=3/\f0.offset=0/\f1.offset=1:=
 ⟨_,_,Tryz.underlying24,rfl,rfl,rfl,rfl⟩
def SR.hv (r:SR):Prop:=r.s.cd.length * 56<=140737488351232/\r.s.cd.length<=r.c/\(r.ad=none->r.c=0)/\ ∀y∈r.s.cd,y.s.size<=140737488351232/\y.st.size<=140737488351232
section
variable {H:Type} {enc:TypeId × Value->H} {W:World} {spare:Nat->Bool} {held:Bool} {fuel:Nat} {v:Value} {x:DataW H × List MemPlace}
theorem q9H (h:DataW.trod enc Tryz.prog W 0 spare held fuel 31 [v]=some x):
  ∃(ad:Option Addr) (cap:Nat) (l:List Pt),v= .slice ad l.length cap/\l.length<=9223372036854775807/\PtsAt W ad l/\(∀y∈l,y.ok)/\((∀n∈x.1.weights Tryz.prog 31,n<=reachBytes)->l.length * 56<=140737488351232/\l.length<=cap/\(ad=none->cap=0)/\ ∀y∈l,y.s.size<=140737488351232/\y.st.size<=140737488351232):=by
 by_cases hw: ∀n∈x.1.weights Tryz.prog 31,n<=reachBytes
 ·obtain ⟨ad,cap,l,h1,h2,h3,h4,h5,h6,h7⟩:=q9G h hw
  exact ⟨ad,cap,l,h1,by omega,h4,h5,fun _=>⟨h2,h3,h6,h7⟩⟩
 ·obtain ⟨ad,cap,l,h1,h2,h3,h4⟩:=q6d h
  exact ⟨ad,cap,l,h1,h2,h3,h4,fun h=>absurd h hw⟩
theorem q8u {cs:Array Value}(hsz:cs.size=4)(h:DataW.trod enc Tryz.prog W 0 spare held fuel 33 cs.toList=some x):
  ∃r:SR,cs=#[.string r.s.nm, .int .i64 r.s.hw, .bool r.s.mn, .slice r.ad r.s.cd.length r.c]/\r.s.ok/\PtsAt W r.ad r.s.cd/\((∀m∈x.1.weights Tryz.prog 33,m<=reachBytes)->r.hv):=by
 obtain ⟨f0,f1,f2,f3,hu,t0,t1,t2,t3,o0,o1,o2,o3⟩:=q5O
 obtain ⟨xs,n,_,hxe,_,hxl,hf⟩:=DataW.trod_struct hu h
 obtain ⟨l⟩:=cs
 match xs,hxl,l,hsz with
 |[y0,y1,y2,y3],_,[v0,v1,v2,v3],_=>
  have g0:=hf 0 f0 rfl
  have g1:=hf 1 f1 rfl
  have g2:=hf 2 f2 rfl
  have g3:=hf 3 f3 rfl
  simp[o0,o1,o2,o3,t0,t1,t2,t3,q0H,q0X,q6Q,q5x]at g0 g1 g2 g3
  obtain ⟨k0,q0,_,w0⟩:=DataW.trod_string Tryz.underlying9 g0
  obtain ⟨k1,q1,_,w1⟩:=DataW.trod_int Tryz.underlying3 g1
  obtain ⟨k2,q2,_⟩:=DataW.trod_bool Tryz.underlying4 g2
  obtain ⟨ad,cp,cd,rfl,h2,h3,h4,h5⟩:=q9H g3
  simp only[List.cons.injEq,and_true]at q0 q1 q2
  subst q0 q1 q2
  have u1:=bounds_i64 w1
  unfold maxLen at w0
  refine ⟨⟨⟨k0,k1,k2,cd⟩,ad,cp⟩,rfl,⟨by show k0.size<=_;omega,⟨u1.1,by show k1<=_;omega⟩,h4⟩,h3,fun hw=>h5 (fun m hm=>hw m ?_)⟩
  rw[hxe]
  simp only[DataW.weights,hu]
  exact DataW.weights_mem_each (j:=3) (t:=31) (d:=y3.1) (by simp[t3]) rfl m hm
theorem q73 (h:DataW.trod enc Tryz.prog W 0 spare held fuel 22 [v]=some x):
  ∃(ad:Option Addr) (cap:Nat) (l:List SR),v= .slice ad l.length cap/\l.length<=9223372036854775807/\StsAt W ad l/\(∀r∈l,r.s.ok)/\((∀m∈x.1.weights Tryz.prog 22,m<=reachBytes)->l.length * 56<=140737488351232/\(ad=none->cap=0)/\ ∀r∈l,r.hv):=by
 rcases open_slice Tryz.underlying22 h with ⟨hcs,_⟩|⟨a,len,cap,m,n,D,Pl,hcs,hb,hl,hm,hmm,hxe,hx⟩
 ·simp only[List.cons.injEq,and_true]at hcs
  subst hcs
  exact ⟨none,0,[],rfl,by simp,fun hne=>absurd rfl hne,by simp,fun _=>⟨by simp,fun _=>rfl,by simp⟩⟩
 ·simp only[List.cons.injEq,and_true]at hcs
  subst hcs
  have hlm:len<=m:=by rw[hmm];split <;> omega
  have each: ∀i,i<len-> ∃y:SR,(W.cell? (a.add (i * 4))=some (.string y.s.nm)/\W.cell? (a.add (i * 4+1))=some (.int .i64 y.s.hw)/\W.cell? (a.add (i * 4+2))=some (.bool y.s.mn)/\W.cell? (a.add (i * 4+3))=some (.slice y.ad y.s.cd.length y.c))/\y.s.ok/\PtsAt W y.ad y.s.cd/\((∀m∈(D i).weights Tryz.prog 33,m<=reachBytes)->y.hv):=by
   intro i hi
   obtain ⟨cs',h1,h2⟩:=hx i (by omega)
   rw[q6P]at h1
   obtain ⟨_,hlen,hcell⟩:=World.cells?_some h1
   obtain ⟨y,hy,hok⟩:=q8u (cs:=cs'.toArray) (by simpa using hlen) (by simpa using h2)
   refine ⟨y,?_,hok⟩
   have hy':cs'=[.string y.s.nm, .int .i64 y.s.hw, .bool y.s.mn, .slice y.ad y.s.cd.length y.c]:=by simpa using congrArg Array.toList hy
   subst hy'
   have e0:=hcell 0 (by omega)
   have e1:=hcell 1 (by omega)
   have e2:=hcell 2 (by omega)
   have e3:=hcell 3 (by omega)
   rw[Go.Deep.add_add]at e0 e1 e2 e3
   exact ⟨by simpa using e0,by simpa using e1,by simpa using e2,by simpa using e3⟩
  have hinh:Inhabited SR:=⟨⟨⟨⟨#[]⟩,0,false,[]⟩,none,0⟩⟩
  obtain ⟨q,hq⟩:=choose_lt each
  refine ⟨some a,cap,(List.range len).map q,by simp,by simp;unfold maxLen at hm;omega,fun hne=>?_,fun y hy=>?_,fun hw=>⟨?_,(by intro e;cases e),fun y hy=>?_⟩⟩
  ·have h0:0<len:=by
    rcases Nat.eq_zero_or_pos len with e|e
    ·subst e;simp at hne
    ·exact e
   obtain ⟨b,off,spot⟩:=a
   have hc0:=(hq 0 h0).1.1
   have hspot:spot=none:=by simpa [Addr.add] using World.cell?_spot hc0
   subst hspot
   refine ⟨b,off,rfl,?_,fun i hi=>?_⟩
   ·rcases Nat.lt_or_ge b W.heap.size with hlt|hge
    ·exact hlt
    ·exfalso
     rw[Go.WideShapes.add_plain]at hc0
     simp[World.cell?,Array.getElem?_eq_none hge]at hc0
   ·have hi':i<len:=by simpa using hi
    obtain ⟨⟨c0,c1,c2,c3⟩,_,c4,_⟩:=hq i hi'
    rw[Go.WideShapes.add_plain]at c0 c1 c2 c3
    simp only[List.getElem_map,List.getElem_range]
    exact ⟨c0,by rw[Nat.add_assoc];exact c1,by rw[Nat.add_assoc];exact c2,by rw[Nat.add_assoc];exact c3,c4⟩
  ·obtain ⟨i,hi,rfl⟩:=List.mem_map.1 hy
   exact (hq i (List.mem_range.1 hi)).2.1
  ·have hw0:(len+(m-len)) * 56<=reachBytes:=hw _ (by rw[hxe];simp[DataW.weights,Tryz.underlying22,q6O])
   have hreach:reachBytes=140737488351232:=by decide
   simp only[List.length_map,List.length_range]
   omega
  ·obtain ⟨i,hi,rfl⟩:=List.mem_map.1 hy
   refine (hq i (List.mem_range.1 hi)).2.2.2 (fun m hm=>hw m ?_)
   rw[hxe]
   simp only[DataW.weights,Tryz.underlying22]
   exact List.mem_cons_of_mem _ (List.mem_append.2 (Or.inl (q1B (List.mem_map.2 ⟨i,hi,rfl⟩) hm)))
theorem q6c {cs:Array Value}(hsz:cs.size=Tryz.prog.cellsOf 24)(h:DataW.trod enc Tryz.prog W 0 spare held fuel 24 cs.toList=some x):
  ∃(sa:Option Addr) (sc:Nat) (l:List SR) (wi:Int),cs=#[.slice sa l.length sc, .int .i64 wi]/\l.length<=9223372036854775807/\StsAt W sa l/\(∀r∈l,r.s.ok)/\(-9223372036854775808<=wi/\wi<=9223372036854775807)/\((∀m∈x.1.weights Tryz.prog 24,m<=reachBytes)->l.length * 56<=140737488351232/\(sa=none->sc=0)/\ ∀r∈l,r.hv):=by
 obtain ⟨f0,f1,hu,t0,t1,o0,o1⟩:=q2w
 rw[q5c]at hsz
 obtain ⟨xs,n,_,hxe,_,hxl,hf⟩:=DataW.trod_struct hu h
 obtain ⟨l⟩:=cs
 match xs,hxl,l,hsz with
 |[y0,y1],_,[v0,v1],_=>
  have g0:=hf 0 f0 rfl
  have g1:=hf 1 f1 rfl
  simp[o0,o1,t0,t1,q0X,q2Z]at g0 g1
  obtain ⟨k1,q1,_,w1⟩:=DataW.trod_int Tryz.underlying3 g1
  obtain ⟨sa,sc,l,rfl,h2,h3,h4,h5⟩:=q73 g0
  simp only[List.cons.injEq,and_true]at q1
  subst q1
  have u1:=bounds_i64 w1
  refine ⟨sa,sc,l,k1,rfl,h2,h3,h4,⟨u1.1,by omega⟩,fun hw=>h5 (fun m hm=>hw m ?_)⟩
  rw[hxe]
  simp only[DataW.weights,hu]
  exact DataW.weights_mem_each (j:=0) (t:=22) (d:=y0.1) (by simp[t0]) rfl m hm
end
end
theorem qeY {l rs:List SR}(e:stgs rs=stgs l)(h: ∀r∈l,r.s.ok): ∀r∈rs,r.s.ok:=fun r hr=>by
 have hm:r.s∈stgs rs:=by unfold stgs;exact List.mem_map_of_mem hr
 rw[e]at hm
 unfold stgs at hm
 obtain ⟨r',hr',e'⟩:=List.mem_map.1 hm
 rw[<-e']
 exact h r' hr'
theorem qeo {l rs:List SR}(e:stgs rs=stgs l):rs.length=l.length:=by have:=congrArg List.length e;rwa [q02,q02]at this
theorem q8p (sa:Option Addr)(sc:Nat)(l:List SR)(wi:Int)(ea:Option Addr)(ec:Nat)(es:List Ev)(w:World)(_hl:l.length<=9223372036854775807)(h:StsAt w sa l)(hok: ∀r∈l,r.s.ok)(_hsc:l.length<=sc)(hwt:l.length * 56<=140737488351232/\(sa=none->sc=0)/\ ∀r∈l,r.hv)(hle:es.length<=9223372036854775807)(hE:EvsAt w ea es)(hoke: ∀y∈es,y.ok)(hca:ea=none->ec=0)(hT:TbE w):
  Calls Tryz.prog 3 #[.agg #[.slice sa l.length sc, .int .i64 wi], .slice ea es.length ec] w fun e w'=>e= .returned (.bool true)/\Kp [] w w':=by
 obtain ⟨hw1,hw2,hw3⟩:=hwt
 obtain ⟨W1,hW1⟩: ∃W1,W1=w.alloc (.cells #[.slice sa l.length sc, .int .i64 wi] 24):=⟨_,rfl⟩
 have k1:Kp [] w W1:=by rw[hW1];exact Kp.alloc _ _
 have b1:CBox w.heap.size #[.slice sa l.length sc, .int .i64 wi] 24 W1:=by rw[hW1];exact CBox.new _ _ _
 have WK:=hZq (q8q W1 (hT.kp k1 (by simp)))
 have FW:Hid (∀(g cap:Nat) (r:SR) (fa:Option Addr) (fc:Nat) (fs:List Ev) (W:World),(∀x∈[r],x.s.ok)->1<=cap->Kp [] w W->StsAt W (some ⟨g,0,none⟩) [r]->EvsAt W fa fs->fs.length<=60->(∀e∈fs,evSz e)->Calls Tryz.prog 6 #[.agg #[.slice (some ⟨g,0,none⟩) 1 cap, .int .i64 wi], .string ⟨#[107]⟩, .slice fa fs.length fc] W fun e w'=> ∃v zs,e= .returned (.tuple #[v, .int .i64 (fiE ⟨stgs [r],wi⟩ ⟨#[107]⟩ fs)])/\FdP W ⟨#[107]⟩ (fiL ⟨stgs [r],wi⟩ ⟨#[107]⟩ fs) v zs w'):=hZq (fun g cap r fa fc fs W hok' hc hk hs hf hfl hfs=>q5P (some ⟨g,0,none⟩) cap [r] wi fa fc fs ⟨#[107]⟩ W hs hf (hT.kp hk (by simp)) hok' (fun x hx q hq=>((hok' x hx).2.2 q hq).2.2.2.1) hc (by simp) (by omega) hfs (by decide))
 have RT:Hid (∀(g cap:Nat) (r:SR) (fa:Option Addr) (fc:Nat) (fs:List Ev) (i zb ib:Nat) (W:World),(∀x∈[r],x.s.ok)->1<=cap->Kp [] w W->StsAt W (some ⟨g,0,none⟩) [r]->EvsAt W fa fs->fs.length<=60->(∀e∈fs,evSz e)->i<fs.length->mckE ⟨stgs [r],wi⟩ fs=0->StagesAt W (some ⟨zb,0,none⟩) [[(i:Int)]]->Calls Tryz.prog 7 #[.agg #[.slice (some ⟨g,0,none⟩) 1 cap, .int .i64 wi], .slice fa fs.length fc, .slice (some ⟨zb,0,none⟩) 1 1] W fun e w'=>e= .returned (.tuple #[.bool ((Mt.pm ⟨stgs [r],wi⟩ fs).H 0 [] i), .int .i64 0])/\Kp [] W w'):=hZq (fun g cap r fa fc fs i zb ib W hok' _ hk hs hf hfl hfs hi h0 hz=>q9T (some ⟨g,0,none⟩) cap r wi fa fc fs (some ⟨zb,0,none⟩) 1 i W hs hf (hT.kp hk (by simp)) hok' (fun x hx q hq=>((hok' x hx).2.2 q hq).2.2.2.1) hfs (by omega) h0 hi hz)
 have CP:=hZq (fun W (hk:Kp [] w W)=>q43 sa sc l wi W (h.kp hk) hw2 hw1 (fun r hr=>⟨(hw3 r hr).2.2.1,(hw3 r hr).1⟩))
 have HCP:=hZq (fun W (hk:Kp [] w W) (h9:es.length<=60)=>q6u (hE.kp hk (by simp)) hca (by omega) 25)
 have HSZ:Hid (∀e∈es.map (q1I ⟨#[107]⟩),evSz e):=hZq (fun e he=>by
  rw[List.mem_map]at he
  obtain ⟨y,hy,rfl⟩:=he
  have:=hoke y hy
  exact ⟨by show (⟨#[107]⟩:ByteArray).size<=_;decide,this.2.1,this.2.2.1⟩)
 have HB1:=hZq (And.intro b1 k1)
 obtain ⟨S,hS⟩: ∃S:List Stg,S=stgs l:=⟨_,rfl⟩
 rw[<-hS]at CP
 have HRL:Hid (∀rs:List SR,stgs rs=S->rs.length=l.length/\ ∀r∈rs,r.s.ok):=hZq (fun rs he=>⟨qeo (he.trans hS),qeY (he.trans hS) hok⟩)
 have HSN:Hid (S.length=l.length):=hZq (by rw[hS];unfold stgs;rw[List.length_map])
 clear h hok hE hoke hca hT b1 k1 hS _hsc hw2 hw3
 obtain ⟨ln,hln⟩: ∃ln,ln=l.length:=⟨_,rfl⟩
 rw[<-hln]at hW1 HB1 CP HRL HSN _hl hw1 ⊢
 obtain ⟨n,hn⟩: ∃n,n=es.length:=⟨_,rfl⟩
 have HN:=hZq hn
 rw[<-hn]at HCP hle ⊢
 clear hln hn
 go_enter Tryz.func3,Tryz.ntmps3
 go_upto_region 1 with fail
 rw[<-hW1]
 clear hW1
 go_wp2_with fail
 refine (uQ WK).mono ?_
 rintro e w2 ⟨rfl,hk2⟩
 have HK2:=hZq ((uQ HB1).2.trans hk2 (by simp))
 have HB2:=hZq ((uQ HB1).1.kp hk2 (by simp))
 have p0:=(uQ HB2).cell (i:=0) (v:= .slice sa ln sc) rfl
 have p1:=(uQ HB2).cell (i:=1) (v:= .int .i64 wi) rfl
 clear WK hk2 HB1
 by_cases h9:60<n
 ·have h9i:(60:Int)<(n:Int):=by omega
  clear FW RT CP HCP
  go_wp2
  go_ret
  exact ⟨rfl,uQ HK2⟩
 ·have h9i: ¬ (60:Int)<(n:Int):=by omega
  by_cases h2:ln<1
  ·have h2i:(ln:Int)<1:=by omega
   clear FW RT CP HCP
   go_wp2
   go_ret
   exact ⟨rfl,uQ HK2⟩
  have h2i: ¬ (ln:Int)<1:=by omega
  obtain ⟨g,cap,w3,hrun,ho,hk3⟩:=uQ HCP w2 (uQ HK2) (by omega)
  have HRUN:=hZq hrun
  have HS3:Hid (SyE w2 g cap (evJ ⟨#[107]⟩ es 0) w3):=hZq ⟨by rw[q1R, <-uQ HN,qaD];exact ho,hk3⟩
  clear HCP hrun ho hk3
  go_wp2_with (at_builtin;refine q0e rfl _ _ _ rfl rfl rfl (uQ HRUN) ?_)
  clear HRUN p0 p1
  go_loopw [30] (fun iv wr=> ∃j:Nat,j<=n/\iv= .int .i64 (j:Int)/\Hid (SyE w2 g cap (evJ ⟨#[107]⟩ es j) wr)) (fun iv _=>n-(intOf iv).toNat)
  case atStart=>exact ⟨0,Nat.zero_le _,rfl,HS3⟩
  case round=>
   obtain ⟨j,hj,rfl,HS⟩:=hrel
   by_cases hlt:j<n
   ·have hli:(j:Int)<(n:Int):=by omega
    have hje:j<es.length:=by rw[<-uQ HN];exact hlt
    have hrow:=(uQ HS).row
    have hgw:w2.heap.size<=g:=(World.ownsRow.lt hrow g rfl).1
    have hjl:j<(evJ ⟨#[107]⟩ es j).length:=by rw[q1R];exact hje
    have hc:=q0o q1g hrow j 0 hjl (by omega)
    rw[Nat.add_zero]at hc
    have hcs:wr.cell? ⟨g,j * 7,none⟩=some (.string ((evJ ⟨#[107]⟩ es j)[j]).k):=hc
    have hfz:wr.frozen? ⟨g,j * 7,none⟩=false:=by
     obtain ⟨_,⟨e,_⟩|⟨g',c',cur,e,_,hb,_⟩⟩:=hrow
     ·cases e
     ·cases e
      exact (show CBox g cur 29 wr from hb).froz _
    have HN1:Hid (SyE w2 g cap (evJ ⟨#[107]⟩ es (j+1)) (wr.setCell ⟨g,j * 7,none⟩ (.string ⟨#[107]⟩))):=hZq ⟨by
     rw[q1R]at hrow ⊢
     exact OwnsX.key hrow rfl hje,(uQ HS).kp.trans (Kp.set _ _ _ _) (fun x hx=>Or.inr (by rw[List.mem_singleton]at hx;omega))⟩
    generalize ((evJ ⟨#[107]⟩ es j)[j]).k=kk at *
    clear hrow hc HS HS3 FW RT CP HSZ
    go_wp2
    go_roundw
    case rel=>exact ⟨j+1,by omega,by go_num,HN1⟩
    case measure=>simp[intOf];omega
   ·obtain rfl:j=n:=by omega
    have HS4:Hid (SyE w2 g cap (es.map (q1I ⟨#[107]⟩)) wr):=hZq (by have:=uQ HS;rw[uQ HN,qck]at this;exact this)
    have hpc:=((uQ HB2).kp (uQ HS4).kp (by simp))
    have p0:=hpc.cell (i:=0) (v:= .slice sa ln sc) rfl
    have p1:=hpc.cell (i:=1) (v:= .int .i64 wi) rfl
    have HKWR:=hZq ((uQ HK2).trans (uQ HS4).kp (by simp))
    obtain ⟨fs,hfs⟩: ∃fs,fs=es.map (q1I ⟨#[107]⟩):=⟨_,rfl⟩
    have hlen:fs.length=j:=by rw[hfs,List.length_map];exact (uQ HN).symm
    rw[<-hfs]at HS4 HSZ
    have HFL:=hZq hlen
    have CPW:=hZq (uQ CP _ (uQ HKWR))
    clear HS HS3 HB2 hpc hfs hlen HN CP
    go_wp2_with fail
    refine (uQ CPW).mono ?_
    rintro e w4 ⟨gp,cpp,rs,rfl,_,hse,hcap,hk4,hg4, -,hrs⟩
    obtain ⟨hrl,hro⟩:=uQ HRL rs hse
    have hkr:0<rs.length:=by omega
    obtain ⟨gq,hgq⟩: ∃gq,gq=w4.heap.size:=⟨_,rfl⟩
    obtain ⟨W6,hW6⟩: ∃W6,W6=w4.alloc (.cells #[.slice (some ⟨gp,0,none⟩) 1 cpp, .int .i64 wi] 24):=⟨_,rfl⟩
    have hk6:Kp [] w4 W6:=by rw[hW6];exact Kp.alloc _ _
    have hbw1:CBox gq #[.slice (some ⟨gp,0,none⟩) 1 cpp, .int .i64 wi] 24 W6:=by rw[hW6,hgq];exact CBox.new _ _ _
    have hgpl:gp<w4.heap.size:=by obtain ⟨cs,hb,_⟩:=hrs.row;exact (Array.getElem?_eq_some_iff.1 hb).1
    have hrs6:=hrs.up hk6
    obtain ⟨cH,cZ⟩:=hrs6.cell2 hkr
    obtain ⟨mn0,cH0⟩: ∃b:Bool,W6.cell? ⟨gp,2,none⟩=some (.bool b):=⟨_,cH⟩
    have hsts:=hrs6.one hkr
    have kset2:=Kp.set W6 gp 2 (.bool false)
    have hbw2:=hbw1.kp kset2 (by simp;omega)
    have r0:W6.cell? ⟨gq,0,none⟩=some (.slice (some ⟨gp,0,none⟩) 1 cpp):=hbw1.cell rfl
    have hkq:=(hk4.trans hk6 (by simp)).trans kset2 (fun x hx=>Or.inr (by rw[List.mem_singleton]at hx;omega))
    obtain ⟨W7,hW7⟩: ∃W7,W7=W6.setCell ⟨gp,2,none⟩ (.bool false):=⟨_,rfl⟩
    rw[<-hW7]at hsts hbw2 hkq
    have s0:W7.cell? ⟨gq,0,none⟩=some (.slice (some ⟨gp,0,none⟩) 1 cpp):=hbw2.cell rfl
    have s1:W7.cell? ⟨gq,1,none⟩=some (.int .i64 wi):=hbw2.cell rfl
    have hok1:=qe1 hkr hro
    have hc1:1<=cpp:=by omega
    have hmn:rs[0].one.s.mn=false:=rfl
    generalize rs[0].one=r1 at hsts hok1 hmn
    have HMN:=hZq hmn
    clear hmn
    have FQ:=hZq (uQ FW gp cpp r1 (some ⟨g,0,none⟩) cap fs W7 hok1 hc1 ((uQ HKWR).trans hkq (by simp)) hsts (((uQ HS4).up hkq).at) (by rw[uQ HFL];omega) (uQ HSZ))
    rw[uQ HFL]at FQ
    have HBQ:=hZq hbw2
    have HST:=hZq hsts
    have HOK:=hZq hok1
    have HS7:=hZq ((uQ HS4).up hkq)
    have HK7:=hZq ((uQ HKWR).trans hkq (by simp))
    clear CPW hk4 hse hrs hrl hro hkr hgpl hbw1 hk6 hrs6 cH hsts kset2 hbw2 hkq hok1 p0 p1 hg4 FW HKWR HS4
    go_upto_region 13 with fail
    rw[<-hW6]
    simp only[<-hgq]
    clear hW6 hgq
    go_upto_region 14 with fail
    rw[<-hW7]
    clear hW7 cH0 cZ r0
    go_wp2_with fail
    refine (uQ FQ).mono ?_
    rintro e w7 ⟨v7,zs7,rfl,hP7⟩
    obtain ⟨va,vc,rfl,hvg⟩:=q2g hP7.row
    have HVG:=hZq hvg
    have HKC:=hZq ((uQ HK7).trans hP7.kp (by simp))
    obtain ⟨n7,hn7⟩: ∃n7,n7=zs7.length:=⟨_,rfl⟩
    have HN7:=hZq hn7
    rw[<-hn7]
    have HE0:Hid (fiE ⟨stgs [r1],wi⟩ ⟨#[107]⟩ fs≠0->n7=0):=hZq (fun hne=>by
     have:=hP7.ts
     rw[qcu hne]at this
     rw[hn7, <-List.length_map (f:=Cp.T),this]
     rfl)
    obtain ⟨E,hE⟩: ∃E,E=fiE ⟨stgs [r1],wi⟩ ⟨#[107]⟩ fs:=⟨_,rfl⟩
    rw[<-hE]at HE0 ⊢
    have HE:=hZq hE
    have HP7:=hZq hP7
    clear hE hn7 hP7 hvg FQ
    by_cases h0:E=0
    ·subst h0
     have hj60:j<=60:=by omega
     obtain ⟨hmk,hts⟩:=qd8 (uQ HMN) (uQ HE).symm
     have hts2:=(uQ HP7).ts.trans hts
     obtain ⟨H,hH⟩: ∃H:Nat->Bool,H=fun i=>(Mt.pm ⟨stgs [r1],wi⟩ fs).H 0 [] i:=⟨_,rfl⟩
     rw[show (fun i=>(Mt.pm ⟨stgs [r1],wi⟩ fs).H 0 [] i)=H from hH.symm]at hts2
     have RTi:Hid (∀(i zb:Nat) (W:World),Kp [] w7 W->i<j->StagesAt W (some ⟨zb,0,none⟩) [[(i:Int)]]->Calls Tryz.prog 7 #[.agg #[.slice (some ⟨gp,0,none⟩) 1 cpp, .int .i64 wi], .slice (some ⟨g,0,none⟩) j cap, .slice (some ⟨zb,0,none⟩) 1 1] W fun e w'=>e= .returned (.tuple #[.bool (H i), .int .i64 0])/\Kp [] W w'):=hZq (fun i zb W hk hi hz=>by
      have:=uQ RT gp cpp r1 (some ⟨g,0,none⟩) cap fs i zb 0 W (uQ HOK) hc1 ((uQ HKC).trans hk (by simp)) ((uQ HST).kp ((uQ HP7).kp.trans hk (by simp))) (((uQ HS7).up ((uQ HP7).kp.trans hk (by simp))).at) (by rw[uQ HFL];omega) (uQ HSZ) (by rw[uQ HFL];exact hi) hmk hz
      rw[uQ HFL]at this
      rw[hH]
      exact this)
     have HOM:Hid (∀i,i<j->H i=true-> ∃hx:hn H i<zs7.length,zs7[hn H i].T=[[i]]):=hZq (fun i hi hh=>by
      have h1:=qeK H (n:=fs.length) (by rw[uQ HFL];exact hi) hh
      have h2:(zs7.map (·.T))[hn H i]?=some [[i]]:=by rw[hts2,List.getElem?_map,h1];rfl
      rw[List.getElem?_map,Option.map_eq_some_iff]at h2
      obtain ⟨z,hz,hzt⟩:=h2
      obtain ⟨h3,h4⟩:=List.getElem?_eq_some_iff.1 hz
      exact ⟨h3,by rw[h4];exact hzt⟩)
     have HMO:Hid (∀x∈zs7,MtOk ⟨#[107]⟩ (Mt.toZ x.T)):=hZq (fun x hx=>(qct (by rw[<-(uQ HP7).ts];exact List.mem_map_of_mem hx)).2.2.1)
     have HFI:Hid (hn H j=n7):=hZq (by
      rw[uQ HN7, <-List.length_map (f:=Cp.T),hts2,List.length_map,uQ HFL]
      rfl)
     have HM7:Hid (MsR ⟨#[107]⟩ w7 (.slice va n7 vc) zs7):=hZq (by
      rw[uQ HN7]
      exact ⟨qby (uQ HP7).row,(uQ HP7).cp⟩)
     have HBX:Hid (∀W,Kp [] w7 W->W.cell? ⟨gq,0,none⟩=some (.slice (some ⟨gp,0,none⟩) 1 cpp)/\W.cell? ⟨gq,1,none⟩=some (.int .i64 wi)):=hZq (fun W hk=>by
      have:=(uQ HBQ).kp ((uQ HP7).kp.trans hk (by simp)) (by simp)
      exact ⟨this.cell rfl,this.cell rfl⟩)
     have hn7l:n7<=4096:=by rw[uQ HN7, <-List.length_map (f:=Cp.T),(uQ HP7).ts];exact qdM
     clear hmk hts hts2 hH RT HE HE0 HP7 HBQ HST HOK HS7 HK7 HMN HSZ s0 s1
     go_wp2_with fail
     go_loopw [10,61] (fun av iv wr=> ∃i:Nat,i<=j/\iv= .int .i64 (i:Int)/\av= .int .i64 (hn H i:Int)/\Hid (Kp [] w7 wr)) (fun _ iv _=>j-(intOf iv).toNat)
     case atStart=>exact ⟨0,Nat.zero_le _,rfl,rfl,hZq (Kp.refl _ _)⟩
     case round=>
      obtain ⟨i,hi,rfl,rfl,HKQ⟩:=hrel
      by_cases hlt:i<j
      ·have hlti:(i:Int)<(j:Int):=by omega
       obtain ⟨x0,x1⟩:=uQ HBX wr (uQ HKQ)
       have kz:=(Kp.alloc wr (.cells #[.int .i64 (i:Int)] 3)).trans (Kp.alloc (wr.alloc (.cells #[.int .i64 (i:Int)] 3)) (.cells #[.slice (some ⟨wr.heap.size,0,none⟩) 1 1] 40)) (by simp)
       have RTq:=hZq (uQ RTi i (wr.heap.size+1) _ ((uQ HKQ).trans kz (by simp)) hlt (q4h wr (i:Int)))
       have HK8:=hZq ((uQ HKQ).trans kz (by simp))
       have HOMi:=hZq (uQ HOM i hlt)
       have hnx:=qcT H i
       have HNX:=hZq hnx
       obtain ⟨B,hB⟩: ∃B,B=H i:=⟨_,rfl⟩
       rw[<-hB]at RTq HNX HOMi
       clear kz hnx hB RTi HOM HFI
       go_wp2_with fail
       generalize (wr.alloc (.cells #[.int .i64 (i:Int)] 3)).alloc (.cells #[.slice (some ⟨wr.heap.size,0,none⟩) 1 1] 40)=W8 at *
       refine (uQ RTq).mono ?_
       rintro e w9 ⟨rfl,hk9⟩
       have HK9:=hZq ((uQ HK8).trans hk9 (by simp))
       clear RTq HK8 hk9 x0 x1
       obtain ⟨at2,hat⟩: ∃at2,at2=hn H i:=⟨_,rfl⟩
       rw[<-hat]at HNX HOMi ⊢
       clear hat
       cases B with
       |false=>
        have hz1:hn H (i+1)=at2:=by rw[uQ HNX];rfl
        clear HMO HM7 HBX HVG HOMi HNX
        go_wp2
        go_roundw
        case rel=>exact ⟨i+1,by omega,by go_num,by rw[hz1],HK9⟩
        case measure=>simp[intOf];omega
       |true=>
        have hz1:hn H (i+1)=at2+1:=by rw[uQ HNX];rfl
        have HZ1:=hZq hz1
        obtain ⟨hx,hxT⟩:=uQ HOMi rfl
        have hab:at2<n7:=by rw[uQ HN7];exact hx
        obtain ⟨ag,rfl⟩:=uQ HVG (by rw[<-uQ HN7];omega)
        have habi: ¬ (n7:Int)<=(at2:Int):=by omega
        have habj:(at2:Int)<(n7:Int):=by omega
        obtain ⟨c0,c1⟩:=((uQ HM7).up (uQ HK9)).cell (uQ HN7) at2 hx
        unfold Cp.v at c1
        rw[hxT]at c1
        clear hz1 HOMi HNX
        have hzT:Mt.toZ zs7[at2].T=[[(i:Int)]]:=by rw[hxT];rfl
        have hmo:=uQ HMO _ (List.getElem_mem hx)
        rw[hzT]at hmo
        have kz:=(Kp.alloc w9 (.cells #[.int .i64 (i:Int)] 3)).trans (Kp.alloc (w9.alloc (.cells #[.int .i64 (i:Int)] 3)) (.cells #[.slice (some ⟨w9.heap.size,0,none⟩) 1 1] 40)) (by simp)
        have hs:=(((uQ HM7).up ((uQ HK9).trans kz (by simp))).cp _ (List.getElem_mem hx)).stages
        rw[hzT]at hs
        have SM0:=Calls.mono (q33 ⟨#[107]⟩ (some ⟨zs7[at2].g,0,none⟩) 1 [[(i:Int)]] ⟨#[107]⟩ (some ⟨w9.heap.size+1,0,none⟩) 1 [[(i:Int)]] _ hmo hmo hs (q4h w9 (i:Int))) (R':=fun e w'=>e= .returned (.bool true)/\Kp [] ((w9.alloc (.cells #[.int .i64 (i:Int)] 3)).alloc (.cells #[.slice (some ⟨w9.heap.size,0,none⟩) 1 1] 40)) w') (fun e w' ⟨h1,h2⟩=>⟨by rw[h1];congr 2;exact decide_eq_true ⟨rfl,rfl⟩,Kp.ofBelow h2⟩)
        have SM:=hZq SM0
        have HKZ:=hZq ((uQ HK9).trans kz (by simp))
        clear hmo hs kz hzT SM0 HMO HM7 HBX HVG
        go_wp2_with fail
        refine (uQ SM).mono ?_
        rintro e w10 ⟨rfl,hk10⟩
        have HK10:=hZq ((uQ HKZ).trans hk10 (by simp))
        clear SM HKZ hk10 c0 c1
        go_wp2
        go_roundw
        case rel=>exact ⟨i+1,by omega,by go_num,by rw[uQ HZ1];go_num,HK10⟩
        case measure=>simp[intOf];omega
      ·obtain rfl:i=j:=by omega
       have hlti: ¬ (i:Int)<(i:Int):=by omega
       have hfin:=uQ HFI
       have HEE:=hZq ((uQ HKC).trans (uQ HKQ) (by simp))
       clear RTi HOM HMO HFI HM7 HBX HKQ
       rw[hfin]
       go_wp2
       go_ret
       exact ⟨by simp,uQ HEE⟩
    ·obtain rfl:=uQ HE0 h0
     have h0b:(E==0)=false:=by simpa using h0
     clear RT HE0 HP7 HBQ HST HOK HS7 HK7 HMN HSZ s0 s1
     go_wp2
     go_ret
     exact ⟨rfl,uQ HKC⟩
section
open Go.RowKit Go.Deep
theorem q2m:Tryz.prog.cellsOf 29=7:=by kernel_rfl
theorem q8V:Tryz.prog.cellsOf 2=1:=by kernel_rfl
theorem q5w:Tryz.prog.cellsOf 27=4:=by kernel_rfl
theorem q82:Tryz.prog.cellsOf 9=1:=by kernel_rfl
theorem q5N: ∃f0 f1 f2 f3:Field,Tryz.prog.underlying 29=some (.struct #[f0,f1,f2,f3])/\f0.type=9/\f1.type=9/\f2.type=27/\f3.type=9/\f0.offset=0/\f1.offset=1/\f2.offset=2/\f3.offset=6:=
 ⟨_,_,_,_,Tryz.underlying29,rfl,rfl,rfl,rfl,rfl,rfl,rfl,rfl⟩
theorem qeP {α:Type}: ∀(l:List α),l.length=7-> ∃a b c d e f g,l=[a,b,c,d,e,f,g]
 |[a,b,c,d,e,f,g],_=>⟨a,b,c,d,e,f,g,rfl⟩
theorem qc7 {α:Type}: ∀(l:List α),l.length=4-> ∃a b c d,l=[a,b,c,d]
 |[a,b,c,d],_=>⟨a,b,c,d,rfl⟩
section
variable {H:Type} {enc:TypeId × Value->H} {W:World} {spare:Nat->Bool} {held:Bool} {fuel:Nat} {x:DataW H × List MemPlace}
theorem q8t {cs:Array Value}(hsz:cs.size=Tryz.prog.cellsOf 29)(h:DataW.trod enc Tryz.prog W 0 spare held fuel 29 cs.toList=some x):
  ∃e:Ev,cs=e.c/\e.ok:=by
 obtain ⟨f0,f1,f2,f3,hu,t0,t1,t2,t3,o0,o1,o2,o3⟩:=q5N
 rw[q2m]at hsz
 obtain ⟨xs,n,_,_,_,hxl,hf⟩:=DataW.trod_struct hu h
 obtain ⟨l⟩:=cs
 obtain ⟨v0,v1,v2,v3,v4,v5,v6,rfl⟩:=qeP l hsz
 obtain ⟨y0,y1,y2,y3,rfl⟩:=qc7 xs hxl
 have g0:=hf 0 f0 rfl
 have g1:=hf 1 f1 rfl
 have g2:=hf 2 f2 rfl
 have g3:=hf 3 f3 rfl
 simp[o0,o1,o2,o3,t0,t1,t2,t3,q82,q5w]at g0 g1 g2 g3
 obtain ⟨k,q0,_,hk⟩:=DataW.trod_string Tryz.underlying9 g0
 obtain ⟨t,q1,_,ht⟩:=DataW.trod_string Tryz.underlying9 g1
 obtain ⟨s,q3,_,hs⟩:=DataW.trod_string Tryz.underlying9 g3
 simp only[List.cons.injEq,and_true]at q0 q1 q3
 subst q0 q1 q3
 obtain ⟨zs,m,_,_,_,hzl,hz⟩:=DataW.trod_array Tryz.underlying27 g2
 obtain ⟨z0,z1,z2,z3,rfl⟩:=qc7 zs hzl
 have a0:=hz 0 (by omega)
 have a1:=hz 1 (by omega)
 have a2:=hz 2 (by omega)
 have a3:=hz 3 (by omega)
 simp[q8V]at a0 a1 a2 a3
 obtain ⟨n0,p0,_,w0⟩:=DataW.trod_int Tryz.underlying2 a0
 obtain ⟨n1,p1,_,w1⟩:=DataW.trod_int Tryz.underlying2 a1
 obtain ⟨n2,p2,_,w2⟩:=DataW.trod_int Tryz.underlying2 a2
 obtain ⟨n3,p3,_,w3⟩:=DataW.trod_int Tryz.underlying2 a3
 simp only[List.cons.injEq,and_true]at p0 p1 p2 p3
 subst p0 p1 p2 p3
 have u0:=bounds_i64 w0
 have u1:=bounds_i64 w1
 have u2:=bounds_i64 w2
 have u3:=bounds_i64 w3
 unfold maxLen at hk ht hs
 exact ⟨⟨k,t,n0,n1,n2,n3,s⟩,rfl,by show k.size<=_;omega,by show t.size<=_;omega,by show s.size<=_;omega,⟨u0.1,by show n0<_;omega⟩,⟨u1.1,by show n1<_;omega⟩,⟨u2.1,by show n2<_;omega⟩,⟨u3.1,by show n3<_;omega⟩⟩
end
end
section
open Go.RowKit Go.Deep
theorem q72 {H:Type}{enc:TypeId × Value->H}{W:World}{spare:Nat->Bool}{held:Bool}{fuel:Nat}{v:Value}{x:DataW H × List MemPlace}
  (h:DataW.trod enc Tryz.prog W 0 spare held fuel 25 [v]=some x):
  ∃(ad:Option Addr) (cap:Nat) (l:List Ev),v= .slice ad l.length cap/\l.length<=9223372036854775807/\EvsAt W ad l/\ ∀y∈l,y.ok:=by
 rcases open_slice Tryz.underlying25 h with ⟨hcs,_⟩|⟨a,len,cap,m,n,D,Pl,hcs,hb,hl,hm,hmm,_,hx⟩
 ·simp only[List.cons.injEq,and_true]at hcs
  subst hcs
  exact ⟨none,0,[],rfl,by simp,fun hne=>absurd rfl hne,by simp⟩
 ·simp only[List.cons.injEq,and_true]at hcs
  subst hcs
  have hlm:len<=m:=by rw[hmm];split <;> omega
  have each: ∀i,i<len-> ∃y:Ev,(∀(j:Nat) (u:Value),y.c[j]?=some u->W.cell? (a.add (i * 7+j))=some u)/\y.ok:=by
   intro i hi
   obtain ⟨cs',h1,h2⟩:=hx i (by omega)
   rw[q2m]at h1
   obtain ⟨_,hlen,hcell⟩:=World.cells?_some h1
   obtain ⟨y,hy,hok⟩:=q8t (cs:=cs'.toArray) (by rw[q2m];simpa using hlen) (by simpa using h2)
   refine ⟨y,fun j u hu=>?_,hok⟩
   rw[<-hy]at hu
   have hj:j<cs'.length:=by
    have:=(Array.getElem?_eq_some_iff.1 hu).1
    simpa using this
   have e0:=hcell j (by omega)
   rw[Go.Deep.add_add]at e0
   rw[e0]
   simpa using hu
  have hinh:Inhabited Ev:=⟨⟨⟨#[]⟩,⟨#[]⟩,0,0,0,0,⟨#[]⟩⟩⟩
  obtain ⟨q,hq⟩:=choose_lt each
  refine ⟨some a,cap,(List.range len).map q,by simp,by simp;unfold maxLen at hm;omega,fun hne=>?_,fun y hy=>?_⟩
  ·have h0:0<len:=by
    rcases Nat.eq_zero_or_pos len with e|e
    ·subst e;simp at hne
    ·exact e
   obtain ⟨b,off,spot⟩:=a
   have hc0:=(hq 0 h0).1 0 _ rfl
   have hspot:spot=none:=by simpa [Addr.add] using World.cell?_spot hc0
   subst hspot
   refine ⟨b,off,rfl,?_,fun i e hi j u hu=>?_⟩
   ·rcases Nat.lt_or_ge b W.heap.size with hlt|hge
    ·exact hlt
    ·exfalso
     rw[Go.WideShapes.add_plain]at hc0
     simp[World.cell?,Array.getElem?_eq_none hge]at hc0
   ·have hi':i<len:=by
     have:=(List.getElem?_eq_some_iff.1 hi).1
     simpa using this
    have he:e=q i:=by
     rw[List.getElem?_map,List.getElem?_range hi']at hi
     simpa using hi.symm
    subst he
    have:=(hq i hi').1 j u hu
    rw[Go.WideShapes.add_plain]at this
    rw[Nat.add_assoc]
    exact this
  ·obtain ⟨i,hi,rfl⟩:=List.mem_map.1 hy
   exact (hq i (List.mem_range.1 hi)).2
end
section
open Go.RowKit Go.Deep
section
variable {H:Type} {enc:TypeId × Value->H} {W:World} {spare:Nat->Bool} {held:Bool} {fuel:Nat} {x:DataW H × List MemPlace}
theorem q6b {ad:Option Addr}{n cap:Nat}(h:DataW.trod enc Tryz.prog W 0 spare held fuel 25 [.slice ad n cap]=some x):n<=cap/\(ad=none->cap=0):=by
 rcases open_slice Tryz.underlying25 h with ⟨hcs,_⟩|⟨a,len,cap,m,k,D,Pl,hcs,hb,hl,hm,hmm,_,hx⟩
 ·simp only[List.cons.injEq,and_true]at hcs
  cases hcs
  exact ⟨Nat.le_refl _,fun _=>rfl⟩
 ·simp only[List.cons.injEq,and_true]at hcs
  cases hcs
  exact ⟨hl,fun e=>by cases e⟩
theorem q6e {ad:Option Addr}{n cap:Nat}(h:DataW.trod enc Tryz.prog W 0 spare held fuel 22 [.slice ad n cap]=some x):n<=cap:=by
 rcases open_slice Tryz.underlying22 h with ⟨hcs,_⟩|⟨a,len,cap,m,k,D,Pl,hcs,hb,hl,hm,hmm,_,hx⟩
 ·simp only[List.cons.injEq,and_true]at hcs
  cases hcs
  exact Nat.le_refl _
 ·simp only[List.cons.injEq,and_true]at hcs
  cases hcs
  exact hl
theorem q3K {sa:Option Addr}{n sc:Nat}{wi:Int}(h:DataW.trod enc Tryz.prog W 0 spare held fuel 24 [.slice sa n sc, .int .i64 wi]=some x):n<=sc:=by
 obtain ⟨f0,f1,hu,t0,t1,o0,o1⟩:=q2w
 obtain ⟨xs,k,_,hxe,_,hxl,hf⟩:=DataW.trod_struct hu h
 match xs,hxl with
 |[y0,y1],_=>
  have g0:=hf 0 f0 rfl
  simp[o0,t0,q2Z]at g0
  exact q6e g0
end
end
end Go.Proofs.YtaklhcidojhnfaaGreatDoor
