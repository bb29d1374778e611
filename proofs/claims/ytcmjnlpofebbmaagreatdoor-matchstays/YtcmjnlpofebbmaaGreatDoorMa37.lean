/-
  Walks and plain facts, made small.
-/
import Derived.Test.YtcmjnlpofebbmaaGreatDoorMa36
set_option maxRecDepth 100000
set_option maxHeartbeats 8000000
set_option linter.unusedSimpArgs false
namespace Go.Proofs.YtcmjnlpofebbmaaGreatDoor
open Go.RowKit
theorem q4v (c:UInt8)(w:World):
  Calls Tryz.prog 73 #[.int .u8 (c.toNat:Int)] w fun e w'=>e= .returned (.bool (nb c))/\w'=w:=by
 unfold nb
 have hc:=c.toNat_lt
 generalize c.toNat=n at *
 by_cases h1:97<=n <;> by_cases h2:n<=122 <;> by_cases h3:48<=n <;> by_cases h4:n<=57 <;> first|(exfalso;omega)|skip
 all_goals
  go_enter Tryz.func73,Tryz.ntmps73
  go_wp2
  go_ret
  refine ⟨q0Y ?_,rfl⟩
  rw[Bool.eq_iff_iff]
  first|done|(simp;omega)|simp
theorem q2D (s:ByteArray)(w:World)(hs:s.size<=9223372036854775807):
  Calls Tryz.prog 37 #[.string s] w fun e w'=>e= .returned (.bool (q0q s))/\w'=w:=by
 by_cases h1:1<=s.size
 ·by_cases h2:s.size<=32
  ·have hn:q0q s=s.data.toList.all nb:=by unfold q0q;simp[h1,h2]
   rw[hn]
   clear hn
   generalize hR:s.data.toList.all nb=R
   have HR:=hZq hR
   clear hR
   have hlen:s.data.toList.length=s.size:=Array.length_toList
   go_enter Tryz.func37,Tryz.ntmps37
   go_wp2
   go_loop [14,3] (fun i _=> ∃k:Nat,k<=s.size/\i= .int .i64 (k:Int)/\Hid (∀c∈s.data.toList.take k,nb c=true)) (fun i _=>s.size-(intOf i).toNat)
   case atStart=>exact ⟨0,Nat.zero_le _,rfl,hZq (by simp)⟩
   case round=>
    obtain ⟨k,hk,rfl,HK⟩:=hrel
    by_cases hlt:k<s.size
    ·have hget:s[k]∈s.data.toList:=by
      have:s[k]=s.data.toList[k]'(by omega):=rfl
      rw[this];exact List.getElem_mem _
     have hsn:s.data.toList.take (k+1)=s.data.toList.take k++[s[k]]:=by
      rw[List.take_succ_eq_append_getElem (by omega)];rfl
     have HG:=hZq hget
     have HS:=hZq hsn
     clear hget hsn hlen
     have hby:=fun w=>q4v s[k] w
     by_cases hb:nb s[k]=true
     ·simp only[hb]at hby
      have HB:=hZq hby
      clear hby
      go_wp2_with fail
      refine (uQ HB _).mono ?_
      rintro e w1 ⟨rfl,rfl⟩
      go_wp2
      go_round
      case rel=>exact ⟨k+1,by omega,by go_num,hZq (fun c hc=>by
       rw[uQ HS,List.mem_append]at hc
       rcases hc with hc|hc
       ·exact uQ HK c hc
       ·rw[List.mem_singleton]at hc;rw[hc];exact hb)⟩
      case measure=>simp[intOf];omega
     ·have hb':nb s[k]=false:=by simpa using hb
      have hall:s.data.toList.all nb=false:=List.all_eq_false.2 ⟨_,uQ HG,by rw[hb'];simp⟩
      have HALL:=hZq hall
      simp only[hb']at hby
      have HB:=hZq hby
      clear hby hb hb' hall
      go_wp2_with fail
      refine (uQ HB _).mono ?_
      rintro e w1 ⟨rfl,rfl⟩
      go_wp2
      go_ret
      exact ⟨by rw[<-uQ HR,uQ HALL];rfl,rfl⟩
    ·have hall:s.data.toList.all nb=true:=List.all_eq_true.2 (fun c hc=>uQ HK c (by rw[List.take_of_length_le (by omega)];exact hc))
     have HALL:=hZq hall
     clear hall
     go_wp2
     go_ret
     exact ⟨by rw[<-uQ HR,uQ HALL];rfl,rfl⟩
  ·have hn:q0q s=false:=by unfold q0q;simp[h2]
   rw[hn]
   go_enter Tryz.func37,Tryz.ntmps37
   go_wp2
   all_goals go_ret
   all_goals exact ⟨rfl,rfl⟩
 ·have hn:q0q s=false:=by unfold q0q;simp[h1]
  rw[hn]
  go_enter Tryz.func37,Tryz.ntmps37
  go_wp2
  all_goals go_ret
  all_goals exact ⟨rfl,rfl⟩
def q1t:Int->List Int->Bool
 |_,[]=>true
 |a,p::r=>if p<=a\/1073741824<p then false else q1t p r
theorem qbi (a:Int)(ad:Option Addr)(cap:Nat)(l:List Int)(w:World)(hl:l.length<=9223372036854775807)(hA:IntsAt w ad l):
  Calls Tryz.prog 88 #[.int .i64 a, .slice ad l.length cap] w fun e w'=>e= .returned (.bool (q1t a l))/\w'=w:=by
 generalize hR:q1t a l=R
 have HR:=hZq hR
 have HA:=hZq hA
 clear hR hA
 go_enter Tryz.func88,Tryz.ntmps88
 go_wp2
 go_loop [0,9,6] (fun x i _=> ∃(k:Nat) (y:Int),k<=l.length/\i= .int .i64 (k:Int)/\x= .int .i64 y/\Hid (q1t y (l.drop k)=R)) (fun _ i _=>l.length-(intOf i).toNat)
 case atStart=>exact ⟨0,a,Nat.zero_le _,rfl,rfl,HR⟩
 case round=>
  obtain ⟨k,y,hk,rfl,rfl,HK⟩:=hrel
  by_cases hlt:k<l.length
  ·obtain ⟨b,off,rfl,_,hc⟩:=uQ HA (fun e=>by rw[e]at hlt;simp at hlt)
   have c:=hc k hlt
   have hK:=uQ HK
   rw[List.drop_eq_getElem_cons hlt,q1t]at hK
   clear hc HA HR HK
   generalize l[k]=p at *
   by_cases h1:p<=y
   ·rw[if_pos (Or.inl h1)]at hK
    subst hK
    go_wp2
    go_ret
    exact ⟨rfl,rfl⟩
   ·by_cases h2:1073741824<p
    ·rw[if_pos (Or.inr h2)]at hK
     subst hK
     go_wp2
     go_ret
     exact ⟨rfl,rfl⟩
    ·rw[if_neg (by rintro (h|h) <;> omega)]at hK
     have HK:=hZq hK
     clear hK
     go_wp2
     go_round
     case rel=>exact ⟨k+1,p,by omega,by go_num,rfl,HK⟩
     case measure=>simp[intOf];omega
  ·have hK:=uQ HK
   rw[List.drop_of_length_le (by omega),q1t]at hK
   subst hK
   clear HK HR
   go_wp2
   go_ret
   exact ⟨rfl,rfl⟩
open Go.RowKit
def mayE (k t x:ByteArray):Bool:=q0q k && q0q t && decide (x.size<=256)
def chkE (k t x:ByteArray):Int:=if mayE k t x=true then 0 else 20
theorem q3v (k t x:ByteArray)(n0 n1 n2 n3:Int)(w:World)(hk:k.size<=9223372036854775807)(ht:t.size<=9223372036854775807)(hx:x.size<=9223372036854775807):
  Calls Tryz.prog 21 #[.agg #[.string k, .string t, .int .i64 n0, .int .i64 n1, .int .i64 n2, .int .i64 n3, .string x]] w fun e w'=>e= .returned (.int .i64 (chkE k t x))/\w'=w.alloc (.cells #[.string k, .string t, .int .i64 n0, .int .i64 n1, .int .i64 n2, .int .i64 n3, .string x] 29):=by
 have nk:=fun w=>q2D k w hk
 have nt:=fun w=>q2D t w ht
 by_cases b1:q0q k=true
 ·by_cases b2:q0q t=true
  ·simp only[b1]at nk
   simp only[b2]at nt
   have NK:=hZq nk
   have NT:=hZq nt
   by_cases b3:x.size<=256
   ·have e:chkE k t x=0:=by unfold chkE mayE;simp[b1,b2,b3]
    rw[e]
    clear nk nt b1 b2 e
    go_enter Tryz.func21,Tryz.ntmps21
    go_wp2_with fail
    refine (uQ NK _).mono ?_
    rintro e w1 ⟨rfl,rfl⟩
    go_wp2_with fail
    refine (uQ NT _).mono ?_
    rintro e w1 ⟨rfl,rfl⟩
    go_wp2
    go_ret
    exact ⟨rfl,rfl⟩
   ·have e:chkE k t x=20:=by unfold chkE mayE;simp[b3]
    rw[e]
    clear nk nt b1 b2 e
    go_enter Tryz.func21,Tryz.ntmps21
    go_wp2_with fail
    refine (uQ NK _).mono ?_
    rintro e w1 ⟨rfl,rfl⟩
    go_wp2_with fail
    refine (uQ NT _).mono ?_
    rintro e w1 ⟨rfl,rfl⟩
    go_wp2
    go_ret
    exact ⟨rfl,rfl⟩
  ·have b2':q0q t=false:=by simpa using b2
   have e:chkE k t x=20:=by unfold chkE mayE;simp[b2']
   rw[e]
   simp only[b1]at nk
   simp only[b2']at nt
   have NK:=hZq nk
   have NT:=hZq nt
   clear nk nt b1 b2 b2' e
   go_enter Tryz.func21,Tryz.ntmps21
   go_wp2_with fail
   refine (uQ NK _).mono ?_
   rintro e w1 ⟨rfl,rfl⟩
   go_wp2_with fail
   refine (uQ NT _).mono ?_
   rintro e w1 ⟨rfl,rfl⟩
   go_wp2
   go_ret
   exact ⟨rfl,rfl⟩
 ·have b1':q0q k=false:=by simpa using b1
  have e:chkE k t x=20:=by unfold chkE mayE;simp[b1']
  rw[e]
  simp only[b1']at nk
  have NK:=hZq nk
  clear nk nt b1 b1' e
  go_enter Tryz.func21,Tryz.ntmps21
  go_wp2_with fail
  refine (uQ NK _).mono ?_
  rintro e w1 ⟨rfl,rfl⟩
  go_wp2
  go_ret
  exact ⟨rfl,rfl⟩
open Go.RowKit Go.Shelf
theorem q6V (sa:Option Addr)(n sc:Nat)(wi:Int)(ea:Option Addr)(m ec:Nat)(w:World):
  Calls Tryz.prog 12 #[.agg #[.slice sa n sc, .int .i64 wi], .slice ea m ec] w fun e w'=>e= .returned (.func (.func 24) #[] #[.pointer (some ⟨w.heap.size,0,none⟩), .pointer (some ⟨w.heap.size+1,0,none⟩)])/\w'=(w.alloc (.cells #[.slice sa n sc, .int .i64 wi] 24)).alloc (.cells #[.slice ea m ec] 25):=by
 go_enter Tryz.func12,Tryz.ntmps12
 go_wp2
 go_ret
 exact ⟨rfl,rfl⟩
def evE:List Ev->Int
 |[]=>0
 |e::r=>if chkE e.k e.t e.x=0 then evE r else chkE e.k e.t e.x
def mckE (p:Ptn)(es:List Ev):Int:=if (pcR p).2=0 then (if 4096<es.length then 2 else evE es) else (pcR p).2
def evSz (e:Ev):Prop:=e.k.size<=9223372036854775807/\e.t.size<=9223372036854775807/\e.x.size<=9223372036854775807
theorem q8m (sa:Option Addr)(sc:Nat)(l:List SR)(wi:Int)(ea:Option Addr)(ec:Nat)(es:List Ev)(w:World)(h:StsAt w sa l)(hev:EvsAt w ea es)(hT:TbE w)(hok: ∀r∈l,r.s.ok)(hl:l.length<=9223372036854775807)(hes:es.length<=9223372036854775807)(hsz: ∀e∈es,evSz e):
  Calls Tryz.prog 10 #[.agg #[.slice sa l.length sc, .int .i64 wi], .slice ea es.length ec] w fun e w'=>e= .returned (.int .i64 (mckE ⟨stgs l,wi⟩ es))/\Kp [] w w':=by
 have k1:=Kp.alloc w (.cells #[.slice sa l.length sc, .int .i64 wi] 24)
 have p1:=CBox.new w #[.slice sa l.length sc, .int .i64 wi] 24
 have c0:=p1.cell (i:=0) (v:= .slice sa l.length sc) rfl
 have c1:=p1.cell (i:=1) (v:= .int .i64 wi) rfl
 have PC:=hZq (q1M sa sc l wi (w.alloc (.cells #[.slice sa l.length sc, .int .i64 wi] 24)) (h.kp k1) (hT.kp k1 (by simp)) hok hl)
 have HK1:=hZq k1
 obtain ⟨E,hE⟩: ∃E,E=mckE ⟨stgs l,wi⟩ es:=⟨_,rfl⟩
 rw[<-hE]
 have HE:=hZq hE
 have HEV:=hZq hev
 have HSZ:=hZq hsz
 obtain ⟨P1,hP1⟩: ∃P1,P1=(pcR ⟨stgs l,wi⟩).1:=⟨_,rfl⟩
 obtain ⟨P2,hP2⟩: ∃P2,P2=(pcR ⟨stgs l,wi⟩).2:=⟨_,rfl⟩
 rw[<-hP1, <-hP2]at PC
 have HP2:=hZq hP2
 clear h hev hT hok hsz hE hP1 hP2 k1 p1
 generalize l.length=n at *
 obtain ⟨m,hm⟩: ∃m,es.length=m:=⟨_,rfl⟩
 have HM:=hZq hm
 rw[hm]at hes ⊢
 clear hm
 obtain ⟨W1,hW1⟩: ∃W1,W1=w.alloc (.cells #[.slice sa n sc, .int .i64 wi] 24):=⟨_,rfl⟩
 rw[<-hW1]at PC HK1 c0 c1
 go_enter Tryz.func10,Tryz.ntmps10
 go_upto_region 1 with fail
 rw[<-hW1]
 clear hW1
 go_wp2_with fail
 refine (uQ PC).mono ?_
 rintro e w2 ⟨rfl,hb2⟩
 have HK2:=hZq ((uQ HK1).trans (Kp.ofBelow hb2) (by simp))
 clear PC HK1 hb2 c0 c1
 by_cases h0:P2=0
 ·by_cases hmm:4096<m
  ·have hmi:(4096:Int)<(m:Int):=by omega
   have HEE:Hid (E=2):=hZq (by rw[uQ HE];unfold mckE;rw[<-uQ HP2,if_pos h0,if_pos (by rw[uQ HM];exact hmm)])
   go_wp2
   go_ret
   exact ⟨by rw[uQ HEE];rfl,uQ HK2⟩
  ·have hmi: ¬ (4096:Int)<(m:Int):=by omega
   have HEE:Hid (E=evE (es.drop 0)):=hZq (by rw[uQ HE];unfold mckE;rw[<-uQ HP2,if_pos h0,if_neg (by rw[uQ HM];exact hmm)];rfl)
   go_wp2_with fail
   go_loopw [23] (fun iv wr=> ∃j:Nat,j<=m/\iv= .int .i64 (j:Int)/\Hid (E=evE (es.drop j)/\Kp [] w wr)) (fun iv _=>m-(intOf iv).toNat)
   case atStart=>exact ⟨0,Nat.zero_le _,rfl,hZq ⟨uQ HEE,uQ HK2⟩⟩
   case round=>
    obtain ⟨j,hj,rfl,HR⟩:=hrel
    obtain ⟨hE,hk⟩:=uQ HR
    have HEJ:=hZq hE
    have HKJ:=hZq hk
    clear HR hE HEE HK2 HE
    by_cases hlt:j<m
    ·have hji:(j:Int)<(m:Int):=by omega
     have hjl:j<es.length:=by rw[uQ HM];exact hlt
     obtain ⟨b,off,rfl,_,hc⟩:=((uQ HEV).kp hk (by simp)) (fun e=>by rw[e]at hjl;simp at hjl)
     have hcj:=hc j es[j] (List.getElem?_eq_getElem hjl)
     have hs:=uQ HSZ es[j] (List.getElem_mem hjl)
     have HDR:Hid (es.drop j=es[j]::es.drop (j+1)):=hZq (List.drop_eq_getElem_cons hjl)
     generalize es[j]=x at *
     obtain ⟨xk,xt,x0,x1,x2,x3,xx⟩:=x
     unfold Ev.c at hcj
     unfold evSz at hs
     dsimp only at hcj hs
     have y0:=hcj 0 _ rfl
     have y1:=hcj 1 _ rfl
     have y2:=hcj 2 _ rfl
     have y3:=hcj 3 _ rfl
     have y4:=hcj 4 _ rfl
     have y5:=hcj 5 _ rfl
     have y6:=hcj 6 _ rfl
     rw[Nat.add_zero]at y0
     have ka:=Kp.alloc wr (.cells #[.string xk, .string xt, .int .i64 x0, .int .i64 x1, .int .i64 x2, .int .i64 x3, .string xx] 29)
     have pe:=CBox.new wr #[.string xk, .string xt, .int .i64 x0, .int .i64 x1, .int .i64 x2, .int .i64 x3, .string xx] 29
     have z0:=pe.cell (i:=0) (v:= .string xk) rfl
     have z1:=pe.cell (i:=1) (v:= .string xt) rfl
     have z2:=pe.cell (i:=2) (v:= .int .i64 x0) rfl
     have z3:=pe.cell (i:=3) (v:= .int .i64 x1) rfl
     have z4:=pe.cell (i:=4) (v:= .int .i64 x2) rfl
     have z5:=pe.cell (i:=5) (v:= .int .i64 x3) rfl
     have z6:=pe.cell (i:=6) (v:= .string xx) rfl
     have CK:=hZq (q3v xk xt xx x0 x1 x2 x3 (wr.alloc (.cells #[.string xk, .string xt, .int .i64 x0, .int .i64 x1, .int .i64 x2, .int .i64 x3, .string xx] 29)) hs.1 hs.2.1 hs.2.2)
     have HKA:=hZq (((uQ HKJ).trans ka (by simp)).trans (Kp.alloc _ (.cells #[.string xk, .string xt, .int .i64 x0, .int .i64 x1, .int .i64 x2, .int .i64 x3, .string xx] 29)) (by simp))
     obtain ⟨Q,hQ⟩: ∃Q,Q=chkE xk xt xx:=⟨_,rfl⟩
     rw[<-hQ]at CK
     have HEQ:Hid (E=if Q=0 then evE (es.drop (j+1)) else Q):=hZq (by
      rw[uQ HEJ,uQ HDR,hQ]
      rfl)
     clear hc hcj hs HDR ka pe hQ HEJ HKJ hk HEV HSZ HP2 HM
     go_wp2_with fail
     refine (uQ CK).mono ?_
     rintro e w5 ⟨rfl,rfl⟩
     clear CK y0 y1 y2 y3 y4 y5 y6 z0 z1 z2 z3 z4 z5 z6
     by_cases hq0:Q=0
     ·have HN:Hid (E=evE (es.drop (j+1))/\Kp [] w _):=hZq ⟨by rw[uQ HEQ,if_pos hq0],uQ HKA⟩
      clear HEQ HKA
      go_wp2
      go_roundw
      case rel=>exact ⟨j+1,by omega,by go_num,HN⟩
      case measure=>simp[intOf];omega
     ·have HN:Hid (E=Q/\Kp [] w _):=hZq ⟨by rw[uQ HEQ,if_neg hq0],uQ HKA⟩
      clear HEQ HKA
      go_wp2
      go_ret
      exact ⟨by rw[(uQ HN).1];rfl,(uQ HN).2⟩
    ·obtain rfl:j=m:=by omega
     have HEE:Hid (E=0):=hZq (by rw[uQ HEJ, <-uQ HM,List.drop_length];rfl)
     clear HEJ hk
     go_wp2
     go_ret
     exact ⟨by rw[uQ HEE];rfl,uQ HKJ⟩
 ·have HEE:Hid (E=P2):=hZq (by rw[uQ HE];unfold mckE;rw[<-uQ HP2,if_neg h0])
  go_wp2
  go_ret
  exact ⟨by rw[uQ HEE];rfl,uQ HK2⟩
open Go.RowKit Go.Shelf
theorem q7X (xk xt xx key:ByteArray)(x0 x1 x2 x3:Int)(kb:Nat)(w:World)(hc:w.cell? ⟨kb,0,none⟩=some (.string key)):
  Calls Tryz.prog 23 #[.agg #[.string xk, .string xt, .int .i64 x0, .int .i64 x1, .int .i64 x2, .int .i64 x3, .string xx], .pointer (some ⟨kb,0,none⟩)] w fun e w'=>e= .returned (.bool (!(xk.toList==key.toList)))/\Kp [] w w':=by
 have hlt:kb<w.heap.size:=World.block_lt_of_cell? _ _ hc
 have ka:=Kp.alloc w (.cells #[.string xk, .string xt, .int .i64 x0, .int .i64 x1, .int .i64 x2, .int .i64 x3, .string xx] 29)
 have c1:=ka.cell hc (by simp)
 have pe:=CBox.new w #[.string xk, .string xt, .int .i64 x0, .int .i64 x1, .int .i64 x2, .int .i64 x3, .string xx] 29
 have z0:=pe.cell (i:=0) (v:= .string xk) rfl
 have HK:=hZq ka
 clear ka pe
 go_enter Tryz.func23,Tryz.ntmps23
 go_wp2
 go_ret
 exact ⟨rfl,uQ HK⟩
def othK (key:ByteArray)(es:List Ev):Bool:=es.any fun x=> !(x.k.toList==key.toList)
theorem q6Q (ea:Option Addr)(ec:Nat)(es:List Ev)(key:ByteArray)(kb:Nat)(w:World)(hev:EvsAt w ea es)(hes:es.length<=9223372036854775807)(hc:w.cell? ⟨kb,0,none⟩=some (.string key)):
  Calls Tryz.prog 38 #[.slice ea es.length ec, .func (.func 23) #[] #[.pointer (some ⟨kb,0,none⟩)]] w fun e w'=>(∃i:Int,e= .returned (.int .i64 i)/\decide (0<=i)=othK key es)/\Kp [] w w':=by
 have HEV:=hZq hev
 have HC:=hZq hc
 obtain ⟨B,hB⟩: ∃B,B=othK key es:=⟨_,rfl⟩
 rw[<-hB]
 have HB:Hid (B=othK key (es.drop 0)):=hZq hB
 obtain ⟨m,hm⟩: ∃m,es.length=m:=⟨_,rfl⟩
 have HM:=hZq hm
 rw[hm]at hes ⊢
 clear hm hB hev hc
 go_enter Tryz.func38,Tryz.ntmps38
 go_wp2_with fail
 go_loopw [8] (fun iv wr=> ∃j:Nat,j<=m/\iv= .int .i64 (j:Int)/\Hid (B=othK key (es.drop j)/\Kp [] w wr)) (fun iv _=>m-(intOf iv).toNat)
 case atStart=>exact ⟨0,Nat.zero_le _,rfl,hZq ⟨uQ HB,Kp.refl _ _⟩⟩
 case round=>
  obtain ⟨j,hj,rfl,HR⟩:=hrel
  obtain ⟨hE,hk⟩:=uQ HR
  have HEJ:=hZq hE
  have HKJ:=hZq hk
  clear HR hE HB
  by_cases hlt:j<m
  ·have hji:(j:Int)<(m:Int):=by omega
   have hjl:j<es.length:=by rw[uQ HM];exact hlt
   obtain ⟨b,off,rfl,_,hc⟩:=((uQ HEV).kp hk (by simp)) (fun e=>by rw[e]at hjl;simp at hjl)
   have hcj:=hc j es[j] (List.getElem?_eq_getElem hjl)
   have HDR:Hid (es.drop j=es[j]::es.drop (j+1)):=hZq (List.drop_eq_getElem_cons hjl)
   have hkc:=hk.cell (uQ HC) (by simp)
   generalize es[j]=x at *
   obtain ⟨xk,xt,x0,x1,x2,x3,xx⟩:=x
   unfold Ev.c at hcj
   dsimp only at hcj
   have y0:=hcj 0 _ rfl
   have y1:=hcj 1 _ rfl
   have y2:=hcj 2 _ rfl
   have y3:=hcj 3 _ rfl
   have y4:=hcj 4 _ rfl
   have y5:=hcj 5 _ rfl
   have y6:=hcj 6 _ rfl
   rw[Nat.add_zero]at y0
   have CK:=hZq (q7X xk xt xx key x0 x1 x2 x3 kb wr hkc)
   obtain ⟨Q,hQ⟩: ∃Q,Q= !(xk.toList==key.toList):=⟨_,rfl⟩
   rw[<-hQ]at CK
   have HEQ:Hid (B=(Q||othK key (es.drop (j+1)))):=hZq (by
    rw[uQ HEJ,uQ HDR,hQ]
    rfl)
   clear hc hcj HDR hQ HEJ hk HEV HM HC hkc
   go_wp2_with fail
   refine (uQ CK).mono ?_
   rintro e w5 ⟨rfl,hk5⟩
   have HKA:=hZq ((uQ HKJ).trans hk5 (by simp))
   clear CK y0 y1 y2 y3 y4 y5 y6 hk5 HKJ
   cases Q with
   |true=>
    have HBB:Hid (B=true):=hZq (by rw[uQ HEQ];rfl)
    clear HEQ
    go_wp2
    go_ret
    exact ⟨⟨(j:Int),rfl,by rw[uQ HBB];exact decide_eq_true (by omega)⟩,uQ HKA⟩
   |false=>
    have HN:Hid (B=othK key (es.drop (j+1))/\Kp [] w w5):=hZq ⟨by rw[uQ HEQ];rfl,uQ HKA⟩
    clear HEQ HKA
    go_wp2
    go_roundw
    case rel=>exact ⟨j+1,by omega,by go_num,HN⟩
    case measure=>simp[intOf];omega
  ·obtain rfl:j=m:=by omega
   have HBB:Hid (B=false):=hZq (by rw[uQ HEJ, <-uQ HM,List.drop_length];rfl)
   clear HEJ hk
   go_wp2
   go_ret
   exact ⟨⟨-1,rfl,by rw[uQ HBB];rfl⟩,uQ HKJ⟩
def arE (key:ByteArray)(es:List Ev):Bool:=if chkE key ⟨#[116]⟩ ⟨#[]⟩=0 then !othK key es else false
theorem q8K (ea:Option Addr)(ec:Nat)(es:List Ev)(key:ByteArray)(w:World)(hev:EvsAt w ea es)(hes:es.length<=9223372036854775807)(hks:key.size<=9223372036854775807):
  Calls Tryz.prog 11 #[.string key, .slice ea es.length ec] w fun e w'=>e= .returned (.bool (arE key es))/\Kp [] w w':=by
 have k1:=Kp.alloc w (.cells #[.string key] 9)
 have p1:=CBox.new w #[.string key] 9
 have c0:=p1.cell (i:=0) (v:= .string key) rfl
 have CK:=hZq (q3v key ⟨#[116]⟩ ⟨#[]⟩ 0 0 0 0 (w.alloc (.cells #[.string key] 9)) hks (by decide) (by decide))
 have k2:=Kp.alloc (w.alloc (.cells #[.string key] 9)) (.cells #[.string key, .string ⟨#[116]⟩, .int .i64 0, .int .i64 0, .int .i64 0, .int .i64 0, .string ⟨#[]⟩] 29)
 have k12:=k1.trans k2 (by simp)
 have IX:=hZq (q6Q ea ec es key w.heap.size ((w.alloc (.cells #[.string key] 9)).alloc (.cells #[.string key, .string ⟨#[116]⟩, .int .i64 0, .int .i64 0, .int .i64 0, .int .i64 0, .string ⟨#[]⟩] 29)) (hev.kp k12 (by simp)) hes ((p1.kp k2 (by simp)).cell rfl))
 obtain ⟨A,hA⟩: ∃A,A=arE key es:=⟨_,rfl⟩
 rw[<-hA]
 obtain ⟨Q,hQ⟩: ∃Q,Q=chkE key ⟨#[116]⟩ ⟨#[]⟩:=⟨_,rfl⟩
 rw[<-hQ]at CK
 obtain ⟨O,hO⟩: ∃O,O=othK key es:=⟨_,rfl⟩
 rw[<-hO]at IX
 have HA:Hid (A=if Q=0 then !O else false):=hZq (by rw[hA,hQ,hO];rfl)
 have HK:=hZq k12
 generalize es.length=m at *
 clear hev k1 k2 k12 p1 hA hQ hO
 go_enter Tryz.func11,Tryz.ntmps11
 go_wp2_with fail
 refine (uQ CK).mono ?_
 rintro e w2 ⟨rfl,rfl⟩
 clear CK
 by_cases h0:Q=0
 ·have CF:Hid (Calls Tryz.prog 22 #[.slice ea m ec, .func (.func 23) #[] #[.pointer (some ⟨w.heap.size,0,none⟩)]] ((w.alloc (.cells #[.string key] 9)).alloc (.cells #[.string key, .string ⟨#[116]⟩, .int .i64 0, .int .i64 0, .int .i64 0, .int .i64 0, .string ⟨#[]⟩] 29)) fun e w'=>e= .returned (.bool O)/\Kp [] w w'):=hZq (by
   clear HA c0
   go_enter Tryz.func22,Tryz.ntmps22
   go_wp2_with fail
   refine (uQ IX).mono ?_
   rintro e w3 ⟨⟨i,rfl,hi⟩,hk3⟩
   have HKF:=hZq ((uQ HK).trans hk3 (by simp))
   clear IX hk3
   go_wp2
   go_ret
   exact ⟨by rw[<-hi];rfl,uQ HKF⟩)
  have HAA:Hid (A= !O):=hZq (by rw[uQ HA,if_pos h0])
  clear IX HA HK
  go_wp2_with fail
  refine (uQ CF).mono ?_
  rintro e w3 ⟨rfl,hk3⟩
  clear CF
  have HKF:=hZq hk3
  clear hk3
  go_wp2
  go_ret
  exact ⟨by rw[uQ HAA];rfl,uQ HKF⟩
 ·have HAA:Hid (A=false):=hZq (by rw[uQ HA,if_neg h0])
  clear IX HA
  go_wp2
  go_ret
  exact ⟨by rw[uQ HAA];rfl,uQ HK⟩
open Go.RowKit
def StagesAt (w:World)(ad:Option Addr)(ss:List (List Int)):Prop:=
 ss≠[]-> ∃b off,ad=some ⟨b,off,none⟩/\b<w.heap.size/\ ∀i (h:i<ss.length), ∃a c,w.cell? ⟨b,off+i,none⟩=some (.slice a ss[i].length c)/\IntsAt w a ss[i]
theorem StagesAt.below {w w':World}{B:Nat}{ad:Option Addr}{ss:List (List Int)}(h:StagesAt w ad ss)(hb:Below B w w')(hB:w.heap.size<=B):StagesAt w' ad ss:=fun hl=>by
 obtain ⟨b,off,e,hlt,hc⟩:=h hl
 refine ⟨b,off,e,Nat.lt_of_lt_of_le hlt hb.size,fun i hi=>?_⟩
 obtain ⟨a,c,h1,h2⟩:=hc i hi
 exact ⟨a,c,(hb.cell (p:=⟨b,off+i,none⟩) (Nat.lt_of_lt_of_le hlt hB)).trans h1,h2.below hb hB⟩
def q1L (p:List Int):Int:=p.getD (p.length-1) 0
def q0x:Int->Int->List (List Int)->Bool
 |_,_,[]=>true
 |left,a,p::r=>if p.length<1\/left<(p.length:Int)\/q1t a p=false then false else q0x (left-p.length) (q1L p) r
def mayM (k:ByteArray)(ss:List (List Int)):Bool:=q0q k && decide (1<=ss.length) && decide (ss.length<=8) && q0x 256 (-1) ss
def chkM (k:ByteArray)(ss:List (List Int)):Int:=if mayM k ss=true then 0 else 20
def MtOk (k:ByteArray)(ss:List (List Int)):Prop:=k.size<=9223372036854775807/\ss.length<=9223372036854775807/\ ∀p∈ss,p.length<=9223372036854775807
theorem q4X {p:List Int}(h:0<p.length):q1L p=p[p.length-1]'(by omega):=by
 unfold q1L;rw[List.getD_eq_getElem?_getD,List.getElem?_eq_getElem (by omega)];rfl
theorem q2m (k:ByteArray)(ad:Option Addr)(cap:Nat)(ss:List (List Int))(w:World)(hok:MtOk k ss)(hA:StagesAt w ad ss):
  Calls Tryz.prog 54 #[.agg #[.string k, .slice ad ss.length cap]] w fun e w'=>e= .returned (.int .i64 (chkM k ss))/\w'=w.alloc (.cells #[.string k, .slice ad ss.length cap] 37):=by
 obtain ⟨hk,hs,hp⟩:=hok
 have hname:=fun w=>q2D k w hk
 by_cases h1:q0q k=true
 ·simp only[h1]at hname
  have HN:=hZq hname
  clear hname
  by_cases h2:1<=ss.length
  ·by_cases h3:ss.length<=8
   ·have hR:chkM k ss=if q0x 256 (-1) ss=true then 0 else 20:=by unfold chkM mayM;simp[h1,h2,h3]
    rw[hR]
    clear hR
    generalize hR:q0x 256 (-1) ss=R
    have HR:=hZq hR
    have hA':=hA.below ((Below.refl w.heap.size w).alloc (Nat.le_refl _) (.cells #[.string k, .slice ad ss.length cap] 37)) (Nat.le_refl _)
    have HA:=hZq hA'
    have HP:=hZq hp
    clear hR hA hA' hp h1 hk
    go_enter Tryz.func54,Tryz.ntmps54
    go_wp2_with fail
    refine (uQ HN _).mono ?_
    rintro e w1 ⟨rfl,rfl⟩
    go_wp2_with fail
    generalize hW:w.alloc (.cells #[.string k, .slice ad ss.length cap] 37)=W at *
    go_loop [3,4,26] (fun l a i=> ∃(j:Nat) (x y:Int),j<=ss.length/\i= .int .i64 (j:Int)/\l= .int .i64 x/\a= .int .i64 y/\0<=x/\x<=256/\Hid (q0x x y (ss.drop j)=R)) (fun _ _ i=>ss.length-(intOf i).toNat)
    case atStart=>exact ⟨0,256, -1,Nat.zero_le _,rfl,rfl,rfl,by omega,by omega,HR⟩
    case round=>
     obtain ⟨j,x,y,hj,rfl,rfl,rfl,hx0,hx1,HK⟩:=hrel
     by_cases hlt:j<ss.length
     ·obtain ⟨b,off,rfl,_,hc⟩:=uQ HA (fun e=>by rw[e]at hlt;simp at hlt)
      obtain ⟨pa,pc,hcell,hI⟩:=hc j hlt
      have hK:=uQ HK
      rw[List.drop_eq_getElem_cons hlt,q0x]at hK
      have hpl:=uQ HP ss[j] (List.getElem_mem hlt)
      clear hc HA HR HK HP
      generalize ss[j]=p at *
      by_cases g1:p.length<1
      ·rw[if_pos (Or.inl g1)]at hK
       subst hK
       clear hI
       generalize p.length=m at *
       go_wp2
       go_ret
       exact ⟨rfl,rfl⟩
      ·by_cases g2:x<(p.length:Int)
       ·rw[if_pos (Or.inr (Or.inl g2))]at hK
        subst hK
        clear hI
        generalize p.length=m at *
        go_wp2
        go_ret
        exact ⟨rfl,rfl⟩
       ·have hr:=qbi y pa pc p W hpl hI
        by_cases g3:q1t y p=false
        ·rw[if_pos (Or.inr (Or.inr g3))]at hK
         subst hK
         rw[g3]at hr
         have HRI:=hZq hr
         clear hr hI g3
         generalize p.length=m at *
         go_wp2_with fail
         refine (uQ HRI).mono ?_
         rintro e w2 ⟨rfl,rfl⟩
         go_wp2
         go_ret
         exact ⟨rfl,rfl⟩
        ·rw[if_neg (by rintro (h|h|h);exact g1 h;exact g2 h;exact g3 h)]at hK
         have g3':q1t y p=true:=by simpa using g3
         rw[g3']at hr
         have HK:=hZq hK
         have HRI:=hZq hr
         have hlast:=q4X (p:=p) (by omega)
         obtain ⟨pb,po,rfl,_,hpc⟩:=hI (fun e=>by rw[e]at g1;simp at g1)
         have hcl:=hpc (p.length-1) (by omega)
         rw[<-hlast]at hcl
         generalize q1L p=z at *
         clear hr g3 g3' hK hpc hlast
         generalize p.length=m at *
         obtain ⟨m,rfl⟩: ∃q,m=q+1:=⟨m-1,by omega⟩
         rw[Nat.add_sub_cancel]at hcl
         have em:(((m+1:Nat)):Int)-1=(m:Int):=by omega
         go_wp2_with fail
         refine (uQ HRI).mono ?_
         rintro e w2 ⟨rfl,rfl⟩
         go_wp2
         go_round
         case rel=>exact ⟨j+1,_,z,by omega,by go_num,rfl,rfl,by omega,by omega,HK⟩
         case measure=>simp[intOf];omega
     ·have hK:=uQ HK
      rw[List.drop_of_length_le (by omega),q0x]at hK
      subst hK
      clear HK HR
      go_wp2
      go_ret
      exact ⟨rfl,rfl⟩
   ·have hR:chkM k ss=20:=by unfold chkM mayM;simp[h3]
    rw[hR]
    clear hR hA hp h1 hk
    generalize ss.length=n at *
    go_enter Tryz.func54,Tryz.ntmps54
    go_wp2_with fail
    refine (uQ HN _).mono ?_
    rintro e w1 ⟨rfl,rfl⟩
    go_wp2
    go_ret
    exact ⟨rfl,rfl⟩
  ·have hR:chkM k ss=20:=by unfold chkM mayM;simp[h2]
   rw[hR]
   clear hR hA hp h1 hk
   generalize ss.length=n at *
   go_enter Tryz.func54,Tryz.ntmps54
   go_wp2_with fail
   refine (uQ HN _).mono ?_
   rintro e w1 ⟨rfl,rfl⟩
   go_wp2
   go_ret
   exact ⟨rfl,rfl⟩
 ·have h1':q0q k=false:=by simpa using h1
  have hR:chkM k ss=20:=by unfold chkM mayM;simp[h1']
  rw[hR]
  simp only[h1']at hname
  have HN:=hZq hname
  clear hname hR hA hp h1 h1' hk
  generalize ss.length=n at *
  go_enter Tryz.func54,Tryz.ntmps54
  go_wp2_with fail
  refine (uQ HN _).mono ?_
  rintro e w1 ⟨rfl,rfl⟩
  go_wp2
  go_ret
  exact ⟨rfl,rfl⟩
theorem q4a: ∀(x a:Int) (ss:List (List Int)),q0x x a ss=true-> ∀p∈ss,0<p.length
 |_,_,[],_,p,hp=>by cases hp
 |x,a,q::r,h,p,hp=>by
  rw[q0x]at h
  split at h
  ·cases h
  ·rename_i hn
   rcases List.mem_cons.1 hp with rfl|hp
   ·rcases Nat.eq_zero_or_pos p.length with e|e
    ·exact absurd (Or.inl (by omega)) hn
    ·exact e
   ·exact q4a _ _ r h p hp
theorem q4x {k:ByteArray}{ss:List (List Int)}(h:mayM k ss=true):0<ss.length/\ss.length<=8/\ ∀p∈ss,0<p.length:=by
 unfold mayM at h
 simp only[Bool.and_eq_true,decide_eq_true_eq]at h
 exact ⟨by omega,by omega,q4a _ _ _ h.2⟩
def q1b (ss:List (List Int)):Int:=q1L (ss.getD (ss.length-1) [])
theorem q2W (k:ByteArray)(ad:Option Addr)(cap:Nat)(ss:List (List Int))(w:World)(hok:MtOk k ss)(hm:mayM k ss=true)(hA:StagesAt w ad ss):
  Calls Tryz.prog 57 #[.agg #[.string k, .slice ad ss.length cap]] w fun e w'=>e= .returned (.int .i64 (q1b ss))/\w'=w.alloc (.cells #[.string k, .slice ad ss.length cap] 37):=by
 obtain ⟨h0,h8,hne⟩:=q4x hm
 have hA':=hA.below ((Below.refl w.heap.size w).alloc (Nat.le_refl _) (.cells #[.string k, .slice ad ss.length cap] 37)) (Nat.le_refl _)
 obtain ⟨b,off,rfl,_,hc⟩:=hA' (fun e=>by rw[e]at h0;simp at h0)
 obtain ⟨pa,pc,hcell,hI⟩:=hc (ss.length-1) (by omega)
 have hp0:=hne _ (List.getElem_mem (show ss.length-1<ss.length by omega))
 have hpl:=hok.2.2 _ (List.getElem_mem (show ss.length-1<ss.length by omega))
 have hL:q1b ss=q1L (ss[ss.length-1]'(by omega)):=by unfold q1b;rw[List.getD_eq_getElem?_getD,List.getElem?_eq_getElem (by omega)];rfl
 rw[hL]
 clear hL hc hne hA hA' hok hm
 generalize ss[ss.length-1]'(by omega)=p at *
 have hlast:=q4X (p:=p) hp0
 obtain ⟨pb,po,rfl,_,hpc⟩:=hI (fun e=>by rw[e]at hp0;simp at hp0)
 have hcl:=hpc (p.length-1) (by omega)
 rw[<-hlast]at hcl
 clear hI hpc hlast
 generalize q1L p=z at *
 generalize p.length=m at *
 generalize ss.length=n at *
 obtain ⟨m,rfl⟩: ∃q,m=q+1:=⟨m-1,by omega⟩
 obtain ⟨n,rfl⟩: ∃q,n=q+1:=⟨n-1,by omega⟩
 rw[Nat.add_sub_cancel]at hcl hcell
 have em:(((m+1:Nat)):Int)-1=(m:Int):=by omega
 have en:(((n+1:Nat)):Int)-1=(n:Int):=by omega
 go_enter Tryz.func57,Tryz.ntmps57
 go_wp2
 go_ret
 exact ⟨rfl,rfl⟩
section
open Go.RowKit Go.Lib
theorem q8j (x:Int)(w:World):Calls Tryz.prog 89 #[.int .i64 x] w fun e w'=>e= .returned (.bool false)/\w'=w:=by
 go_enter Tryz.func89,Tryz.ntmps89
 go_wp2
 all_goals (go_ret;exact ⟨by simp,rfl⟩)
theorem q5w (x y:Int)(w:World):Calls Tryz.prog 56 #[.int .i64 x, .int .i64 y] w fun e w'=>e= .returned (.int .i64 (Lib.compareInt x y))/\w'=w:=by
 have h1:=fun x w=>q8j x w
 go_enter Tryz.func56,Tryz.ntmps56
 go_wp2_with (refine (h1 _ _).mono ?_;rintro e w' ⟨rfl,hw⟩;rw[hw])
 all_goals (go_ret;refine ⟨?_,rfl⟩;unfold Lib.compareInt;(repeat' split) <;> first|rfl|(exfalso;omega))
end
open Go.RowKit
theorem q6t (a1 a2:Option Addr)(c1 c2:Nat)(xs ys:List Int)(w:World)(hl1:xs.length<=9223372036854775807)(_hl2:ys.length<=9223372036854775807)(h1:IntsAt w a1 xs)(h2:IntsAt w a2 ys):
  Calls Tryz.prog 59 #[.slice a1 xs.length c1, .slice a2 ys.length c2] w fun e w'=>e= .returned (.int .i64 (cL Lib.compareInt xs ys))/\w'=w:=by
 generalize hR:cL Lib.compareInt xs ys=R
 have HR:=hZq hR
 have H1:=hZq h1
 have H2:=hZq h2
 clear hR h1 h2
 go_enter Tryz.func59,Tryz.ntmps59
 go_wp2
 go_loop [11] (fun i=> ∃k:Nat,k<=xs.length/\k<=ys.length/\i= .int .i64 (k:Int)/\Hid (cL Lib.compareInt (xs.drop k) (ys.drop k)=R)) (fun i=>xs.length-(intOf i).toNat)
 case atStart=>exact ⟨0,Nat.zero_le _,Nat.zero_le _,rfl,HR⟩
 case round=>
  obtain ⟨k,hk1,hk2,rfl,HK⟩:=hrel
  by_cases hx:k<xs.length
  ·obtain ⟨b1,o1,rfl,_,q1⟩:=uQ H1 (fun e=>by rw[e]at hx;simp at hx)
   have x1:=q1 k hx
   have hK:=uQ HK
   rw[List.drop_eq_getElem_cons hx]at hK
   clear q1 H1 HK HR
   generalize xs[k]=x at *
   by_cases hy:k<ys.length
   ·obtain ⟨b2,o2,rfl,_,q2⟩:=uQ H2 (fun e=>by rw[e]at hy;simp at hy)
    have y1:=q2 k hy
    rw[List.drop_eq_getElem_cons hy]at hK
    clear q2 H2
    generalize ys[k]=y at *
    simp only[cL]at hK
    have hc:=fun w=>q5w x y w
    by_cases h0:Lib.compareInt x y=0
    ·rw[if_pos h0]at hK
     simp only[h0]at hc
     have HC:=hZq hc
     have HK:=hZq hK
     clear hc hK h0
     go_wp2_with fail
     refine (uQ HC _).mono ?_
     rintro e w1 ⟨rfl,rfl⟩
     go_wp2
     go_round
     case rel=>exact ⟨k+1,by omega,by omega,by go_num,HK⟩
     case measure=>simp[intOf];omega
    ·rw[if_neg h0]at hK
     rw[hK]at hc h0
     have g:(R != 0)=true:=by rw[bne_iff_ne];exact h0
     have HC:=hZq hc
     clear hc hK h0
     go_wp2_with fail
     refine (uQ HC _).mono ?_
     rintro e w1 ⟨rfl,rfl⟩
     go_wp2
     go_ret
     exact ⟨rfl,rfl⟩
   ·have hd:ys.drop k=[]:=List.drop_of_length_le (by omega)
    rw[hd]at hK
    simp only[cL]at hK
    subst hK
    clear H2 hd
    go_wp2
    go_ret
    exact ⟨rfl,rfl⟩
  ·have hK:=uQ HK
   rw[List.drop_of_length_le (by omega)]at hK
   clear HK HR H1 H2
   by_cases hy:k<ys.length
   ·rw[List.drop_eq_getElem_cons hy]at hK
    simp only[cL]at hK
    subst hK
    have hlt:(xs.length:Int)<(ys.length:Int):=by omega
    go_wp2
    go_ret
    exact ⟨rfl,rfl⟩
   ·rw[List.drop_of_length_le (by omega)]at hK
    simp only[cL]at hK
    subst hK
    have hlt: ¬ ((xs.length:Int)<(ys.length:Int)):=by omega
    go_wp2
    go_ret
    exact ⟨rfl,rfl⟩
theorem q3L (a1 a2:Option Addr)(c1 c2:Nat)(xs ys:List (List Int))(w:World)(hl1:xs.length<=9223372036854775807)(_hl2:ys.length<=9223372036854775807)(hp1: ∀p∈xs,p.length<=9223372036854775807)(hp2: ∀p∈ys,p.length<=9223372036854775807)(h1:StagesAt w a1 xs)(h2:StagesAt w a2 ys):
  Calls Tryz.prog 58 #[.slice a1 xs.length c1, .slice a2 ys.length c2, .func (.func 59) #[] #[]] w fun e w'=>e= .returned (.int .i64 (cL (cL Lib.compareInt) xs ys))/\w'=w:=by
 generalize hR:cL (cL Lib.compareInt) xs ys=R
 have HR:=hZq hR
 have H1:=hZq h1
 have H2:=hZq h2
 have P1:=hZq hp1
 have P2:=hZq hp2
 clear hR h1 h2 hp1 hp2
 go_enter Tryz.func58,Tryz.ntmps58
 go_wp2
 go_loop [13] (fun i=> ∃k:Nat,k<=xs.length/\k<=ys.length/\i= .int .i64 (k:Int)/\Hid (cL (cL Lib.compareInt) (xs.drop k) (ys.drop k)=R)) (fun i=>xs.length-(intOf i).toNat)
 case atStart=>exact ⟨0,Nat.zero_le _,Nat.zero_le _,rfl,HR⟩
 case round=>
  obtain ⟨k,hk1,hk2,rfl,HK⟩:=hrel
  by_cases hx:k<xs.length
  ·obtain ⟨b1,o1,rfl,_,q1⟩:=uQ H1 (fun e=>by rw[e]at hx;simp at hx)
   obtain ⟨p1,m1,x1,i1⟩:=q1 k hx
   have l1:=uQ P1 xs[k] (List.getElem_mem hx)
   have hK:=uQ HK
   rw[List.drop_eq_getElem_cons hx]at hK
   clear q1 H1 HK HR P1
   generalize xs[k]=x at *
   by_cases hy:k<ys.length
   ·obtain ⟨b2,o2,rfl,_,q2⟩:=uQ H2 (fun e=>by rw[e]at hy;simp at hy)
    obtain ⟨p2,m2,y1,i2⟩:=q2 k hy
    have l2:=uQ P2 ys[k] (List.getElem_mem hy)
    rw[List.drop_eq_getElem_cons hy]at hK
    clear q2 H2 P2
    generalize ys[k]=y at *
    simp only[cL]at hK
    have hc:=q6t p1 p2 m1 m2 x y w l1 l2 i1 i2
    by_cases h0:cL Lib.compareInt x y=0
    ·rw[if_pos h0]at hK
     rw[h0]at hc
     have HC:=hZq hc
     have HK:=hZq hK
     clear hc hK h0 i1 i2
     generalize x.length=nx at *
     generalize y.length=ny at *
     go_wp2_with fail
     refine (uQ HC).mono ?_
     rintro e w1 ⟨rfl,rfl⟩
     go_wp2
     go_round
     case rel=>exact ⟨k+1,by omega,by omega,by go_num,HK⟩
     case measure=>simp[intOf];omega
    ·rw[if_neg h0]at hK
     rw[hK]at hc h0
     have g:(R != 0)=true:=by rw[bne_iff_ne];exact h0
     have HC:=hZq hc
     clear hc hK h0 i1 i2
     generalize x.length=nx at *
     generalize y.length=ny at *
     go_wp2_with fail
     refine (uQ HC).mono ?_
     rintro e w1 ⟨rfl,rfl⟩
     go_wp2
     go_ret
     exact ⟨rfl,rfl⟩
   ·have hd:ys.drop k=[]:=List.drop_of_length_le (by omega)
    rw[hd]at hK
    simp only[cL]at hK
    subst hK
    clear H2 hd i1 P2
    generalize x.length=nx at *
    go_wp2
    go_ret
    exact ⟨rfl,rfl⟩
  ·have hK:=uQ HK
   rw[List.drop_of_length_le (by omega)]at hK
   clear HK HR H1 H2 P1 P2
   by_cases hy:k<ys.length
   ·rw[List.drop_eq_getElem_cons hy]at hK
    simp only[cL]at hK
    subst hK
    have hlt:(xs.length:Int)<(ys.length:Int):=by omega
    go_wp2
    go_ret
    exact ⟨rfl,rfl⟩
   ·rw[List.drop_of_length_le (by omega)]at hK
    simp only[cL]at hK
    subst hK
    have hlt: ¬ ((xs.length:Int)<(ys.length:Int)):=by omega
    go_wp2
    go_ret
    exact ⟨rfl,rfl⟩
def orL:List Int->Int
 |[]=>0
 |x::r=>if x=0 then orL r else x
theorem qdN (a1:Option Addr)(c1:Nat)(xs:List Int)(w:World)(hl1:xs.length<=9223372036854775807)(h1:IntsAt w a1 xs):
  Calls Tryz.prog 55 #[.slice a1 xs.length c1] w fun e w'=>e= .returned (.int .i64 (orL xs))/\w'=w:=by
 generalize hR:orL xs=R
 have HR:=hZq hR
 have H1:=hZq h1
 clear hR h1
 go_enter Tryz.func55,Tryz.ntmps55
 go_wp2
 go_loop [8] (fun i=> ∃k:Nat,k<=xs.length/\i= .int .i64 (k:Int)/\Hid (orL (xs.drop k)=R)) (fun i=>xs.length-(intOf i).toNat)
 case atStart=>exact ⟨0,Nat.zero_le _,rfl,HR⟩
 case round=>
  obtain ⟨k,hk1,rfl,HK⟩:=hrel
  by_cases hx:k<xs.length
  ·obtain ⟨b1,o1,rfl,_,q1⟩:=uQ H1 (fun e=>by rw[e]at hx;simp at hx)
   have x1:=q1 k hx
   have hK:=uQ HK
   rw[List.drop_eq_getElem_cons hx,orL]at hK
   clear q1 H1 HK HR
   generalize xs[k]=x at *
   by_cases h0:x=0
   ·rw[if_pos h0]at hK
    subst h0
    have HK:=hZq hK
    clear hK
    go_wp2
    go_round
    case rel=>exact ⟨k+1,by omega,by go_num,HK⟩
    case measure=>simp[intOf];omega
   ·rw[if_neg h0]at hK
    subst hK
    have g:(x != 0)=true:=by rw[bne_iff_ne];exact h0
    clear h0
    go_wp2
    go_ret
    exact ⟨rfl,rfl⟩
  ·have hK:=uQ HK
   rw[List.drop_of_length_le (by omega),orL]at hK
   subst hK
   clear HK HR H1
   go_wp2
   go_ret
   exact ⟨rfl,rfl⟩
end Go.Proofs.YtcmjnlpofebbmaaGreatDoor
