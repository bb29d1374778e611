/-
  Walks.
-/
import Derived.Test.YtaklhcidojhnfaaGreatDoorMy09
import Derived.Sort.Grow
import Derived.Shelf.SlSortCmp.Insertion
import Derived.Shelf.SlSortCmp.NoneTotal
import Derived.Ground.SlsfProg
set_option maxRecDepth 100000
set_option maxHeartbeats 8000000
set_option linter.unusedSimpArgs false
namespace Go.Proofs.YtaklhcidojhnfaaGreatDoor
open Go.RowKit
def StagesAt (w:World)(ad:Option Addr)(ss:List (List Int)):Prop:=
 ss≠[]-> ∃b off,ad=some ⟨b,off,none⟩/\b<w.heap.size/\ ∀i (h:i<ss.length), ∃a c,w.cell? ⟨b,off+i,none⟩=some (.slice a ss[i].length c)/\IntsAt w a ss[i]
theorem StagesAt.below {w w':World}{B:Nat}{ad:Option Addr}{ss:List (List Int)}(h:StagesAt w ad ss)(hb:Below B w w')(hB:w.heap.size<=B):StagesAt w' ad ss:=fun hl=>by
 obtain ⟨b,off,e,hlt,hc⟩:=h hl
 refine ⟨b,off,e,Nat.lt_of_lt_of_le hlt hb.size,fun i hi=>?_⟩
 obtain ⟨a,c,h1,h2⟩:=hc i hi
 exact ⟨a,c,(hb.cell (p:=⟨b,off+i,none⟩) (Nat.lt_of_lt_of_le hlt hB)).trans h1,h2.below hb hB⟩
def q1M (p:List Int):Int:=p.getD (p.length-1) 0
def q0y:Int->Int->List (List Int)->Bool
 |_,_,[]=>true
 |left,a,p::r=>if p.length<1\/left<(p.length:Int)\/q1r a p=false then false else q0y (left-p.length) (q1M p) r
def mayM (k:ByteArray)(ss:List (List Int)):Bool:=q0r k && decide (1<=ss.length) && decide (ss.length<=8) && q0y 256 (-1) ss
def chkM (k:ByteArray)(ss:List (List Int)):Int:=if mayM k ss=true then 0 else 20
def MtOk (k:ByteArray)(ss:List (List Int)):Prop:=k.size<=9223372036854775807/\ss.length<=9223372036854775807/\ ∀p∈ss,p.length<=9223372036854775807
theorem q50 {p:List Int}(h:0<p.length):q1M p=p[p.length-1]'(by omega):=by
 unfold q1M;rw[List.getD_eq_getElem?_getD,List.getElem?_eq_getElem (by omega)];rfl
theorem q2r (k:ByteArray)(ad:Option Addr)(cap:Nat)(ss:List (List Int))(w:World)(hok:MtOk k ss)(hA:StagesAt w ad ss):
  Calls Tryz.prog 60 #[.agg #[.string k, .slice ad ss.length cap]] w fun e w'=>e= .returned (.int .i64 (chkM k ss))/\w'=w.alloc (.cells #[.string k, .slice ad ss.length cap] 44):=by
 obtain ⟨hk,hs,hp⟩:=hok
 have hname:=fun w=>q2H k w hk
 by_cases h1:q0r k=true
 ·simp only[h1]at hname
  have HN:=hZq hname
  clear hname
  by_cases h2:1<=ss.length
  ·by_cases h3:ss.length<=8
   ·have hR:chkM k ss=if q0y 256 (-1) ss=true then 0 else 20:=by unfold chkM mayM;simp[h1,h2,h3]
    rw[hR]
    clear hR
    generalize hR:q0y 256 (-1) ss=R
    have HR:=hZq hR
    have hA':=hA.below ((Below.refl w.heap.size w).alloc (Nat.le_refl _) (.cells #[.string k, .slice ad ss.length cap] 44)) (Nat.le_refl _)
    have HA:=hZq hA'
    have HP:=hZq hp
    clear hR hA hA' hp h1 hk
    go_enter Tryz.func60,Tryz.ntmps60
    go_wp2_with fail
    refine (uQ HN _).mono ?_
    rintro e w1 ⟨rfl,rfl⟩
    go_wp2_with fail
    generalize hW:w.alloc (.cells #[.string k, .slice ad ss.length cap] 44)=W at *
    go_loop [3,4,26] (fun l a i=> ∃(j:Nat) (x y:Int),j<=ss.length/\i= .int .i64 (j:Int)/\l= .int .i64 x/\a= .int .i64 y/\0<=x/\x<=256/\Hid (q0y x y (ss.drop j)=R)) (fun _ _ i=>ss.length-(intOf i).toNat)
    case atStart=>exact ⟨0,256, -1,Nat.zero_le _,rfl,rfl,rfl,by omega,by omega,HR⟩
    case round=>
     obtain ⟨j,x,y,hj,rfl,rfl,rfl,hx0,hx1,HK⟩:=hrel
     by_cases hlt:j<ss.length
     ·obtain ⟨b,off,rfl,_,hc⟩:=uQ HA (fun e=>by rw[e]at hlt;simp at hlt)
      obtain ⟨pa,pc,hcell,hI⟩:=hc j hlt
      have hK:=uQ HK
      rw[List.drop_eq_getElem_cons hlt,q0y]at hK
      have hpl:=uQ HP ss[j] (List.getElem_mem hlt)
      clear hc HA HR HK HP
      generalize ss[j]=p at *
      by_cases g1:p.length<1
      ·rw[if_pos (Or.inl g1)]at hK
       subst hK
       clear hI
       generalize p.length=m at *
       go_wp2
       go_ret
       exact ⟨rfl,rfl⟩
      ·by_cases g2:x<(p.length:Int)
       ·rw[if_pos (Or.inr (Or.inl g2))]at hK
        subst hK
        clear hI
        generalize p.length=m at *
        go_wp2
        go_ret
        exact ⟨rfl,rfl⟩
       ·have hr:=qbv y pa pc p W hpl hI
        by_cases g3:q1r y p=false
        ·rw[if_pos (Or.inr (Or.inr g3))]at hK
         subst hK
         rw[g3]at hr
         have HRI:=hZq hr
         clear hr hI g3
         generalize p.length=m at *
         go_wp2_with fail
         refine (uQ HRI).mono ?_
         rintro e w2 ⟨rfl,rfl⟩
         go_wp2
         go_ret
         exact ⟨rfl,rfl⟩
        ·rw[if_neg (by rintro (h|h|h);exact g1 h;exact g2 h;exact g3 h)]at hK
         have g3':q1r y p=true:=by simpa using g3
         rw[g3']at hr
         have HK:=hZq hK
         have HRI:=hZq hr
         have hlast:=q50 (p:=p) (by omega)
         obtain ⟨pb,po,rfl,_,hpc⟩:=hI (fun e=>by rw[e]at g1;simp at g1)
         have hcl:=hpc (p.length-1) (by omega)
         rw[<-hlast]at hcl
         generalize q1M p=z at *
         clear hr g3 g3' hK hpc hlast
         generalize p.length=m at *
         obtain ⟨m,rfl⟩: ∃q,m=q+1:=⟨m-1,by omega⟩
         rw[Nat.add_sub_cancel]at hcl
         have em:(((m+1:Nat)):Int)-1=(m:Int):=by omega
         go_wp2_with fail
         refine (uQ HRI).mono ?_
         rintro e w2 ⟨rfl,rfl⟩
         go_wp2
         go_round
         case rel=>exact ⟨j+1,_,z,by omega,by go_num,rfl,rfl,by omega,by omega,HK⟩
         case measure=>simp[intOf];omega
     ·have hK:=uQ HK
      rw[List.drop_of_length_le (by omega),q0y]at hK
      subst hK
      clear HK HR
      go_wp2
      go_ret
      exact ⟨rfl,rfl⟩
   ·have hR:chkM k ss=20:=by unfold chkM mayM;simp[h3]
    rw[hR]
    clear hR hA hp h1 hk
    generalize ss.length=n at *
    go_enter Tryz.func60,Tryz.ntmps60
    go_wp2_with fail
    refine (uQ HN _).mono ?_
    rintro e w1 ⟨rfl,rfl⟩
    go_wp2
    go_ret
    exact ⟨rfl,rfl⟩
  ·have hR:chkM k ss=20:=by unfold chkM mayM;simp[h2]
   rw[hR]
   clear hR hA hp h1 hk
   generalize ss.length=n at *
   go_enter Tryz.func60,Tryz.ntmps60
   go_wp2_with fail
   refine (uQ HN _).mono ?_
   rintro e w1 ⟨rfl,rfl⟩
   go_wp2
   go_ret
   exact ⟨rfl,rfl⟩
 ·have h1':q0r k=false:=by simpa using h1
  have hR:chkM k ss=20:=by unfold chkM mayM;simp[h1']
  rw[hR]
  simp only[h1']at hname
  have HN:=hZq hname
  clear hname hR hA hp h1 h1' hk
  generalize ss.length=n at *
  go_enter Tryz.func60,Tryz.ntmps60
  go_wp2_with fail
  refine (uQ HN _).mono ?_
  rintro e w1 ⟨rfl,rfl⟩
  go_wp2
  go_ret
  exact ⟨rfl,rfl⟩
theorem q4f: ∀(x a:Int) (ss:List (List Int)),q0y x a ss=true-> ∀p∈ss,0<p.length
 |_,_,[],_,p,hp=>by cases hp
 |x,a,q::r,h,p,hp=>by
  rw[q0y]at h
  split at h
  ·cases h
  ·rename_i hn
   rcases List.mem_cons.1 hp with rfl|hp
   ·rcases Nat.eq_zero_or_pos p.length with e|e
    ·exact absurd (Or.inl (by omega)) hn
    ·exact e
   ·exact q4f _ _ r h p hp
theorem q4D {k:ByteArray}{ss:List (List Int)}(h:mayM k ss=true):0<ss.length/\ss.length<=8/\ ∀p∈ss,0<p.length:=by
 unfold mayM at h
 simp only[Bool.and_eq_true,decide_eq_true_eq]at h
 exact ⟨by omega,by omega,q4f _ _ _ h.2⟩
def q0T (ss:List (List Int)):Int:=q1M (ss.getD (ss.length-1) [])
theorem q31 (k:ByteArray)(ad:Option Addr)(cap:Nat)(ss:List (List Int))(w:World)(hok:MtOk k ss)(hm:mayM k ss=true)(hA:StagesAt w ad ss):
  Calls Tryz.prog 63 #[.agg #[.string k, .slice ad ss.length cap]] w fun e w'=>e= .returned (.int .i64 (q0T ss))/\w'=w.alloc (.cells #[.string k, .slice ad ss.length cap] 44):=by
 obtain ⟨h0,h8,hne⟩:=q4D hm
 have hA':=hA.below ((Below.refl w.heap.size w).alloc (Nat.le_refl _) (.cells #[.string k, .slice ad ss.length cap] 44)) (Nat.le_refl _)
 obtain ⟨b,off,rfl,_,hc⟩:=hA' (fun e=>by rw[e]at h0;simp at h0)
 obtain ⟨pa,pc,hcell,hI⟩:=hc (ss.length-1) (by omega)
 have hp0:=hne _ (List.getElem_mem (show ss.length-1<ss.length by omega))
 have hpl:=hok.2.2 _ (List.getElem_mem (show ss.length-1<ss.length by omega))
 have hL:q0T ss=q1M (ss[ss.length-1]'(by omega)):=by unfold q0T;rw[List.getD_eq_getElem?_getD,List.getElem?_eq_getElem (by omega)];rfl
 rw[hL]
 clear hL hc hne hA hA' hok hm
 generalize ss[ss.length-1]'(by omega)=p at *
 have hlast:=q50 (p:=p) hp0
 obtain ⟨pb,po,rfl,_,hpc⟩:=hI (fun e=>by rw[e]at hp0;simp at hp0)
 have hcl:=hpc (p.length-1) (by omega)
 rw[<-hlast]at hcl
 clear hI hpc hlast
 generalize q1M p=z at *
 generalize p.length=m at *
 generalize ss.length=n at *
 obtain ⟨m,rfl⟩: ∃q,m=q+1:=⟨m-1,by omega⟩
 obtain ⟨n,rfl⟩: ∃q,n=q+1:=⟨n-1,by omega⟩
 rw[Nat.add_sub_cancel]at hcl hcell
 have em:(((m+1:Nat)):Int)-1=(m:Int):=by omega
 have en:(((n+1:Nat)):Int)-1=(n:Int):=by omega
 go_enter Tryz.func63,Tryz.ntmps63
 go_wp2
 go_ret
 exact ⟨rfl,rfl⟩
section
open Go.RowKit Go.Lib
theorem q8l (x:Int)(w:World):Calls Tryz.prog 94 #[.int .i64 x] w fun e w'=>e= .returned (.bool false)/\w'=w:=by
 go_enter Tryz.func94,Tryz.ntmps94
 go_wp2
 all_goals (go_ret;exact ⟨by simp,rfl⟩)
theorem q5z (x y:Int)(w:World):Calls Tryz.prog 62 #[.int .i64 x, .int .i64 y] w fun e w'=>e= .returned (.int .i64 (Lib.compareInt x y))/\w'=w:=by
 have h1:=fun x w=>q8l x w
 go_enter Tryz.func62,Tryz.ntmps62
 go_wp2_with (refine (h1 _ _).mono ?_;rintro e w' ⟨rfl,hw⟩;rw[hw])
 all_goals (go_ret;refine ⟨?_,rfl⟩;unfold Lib.compareInt;(repeat' split) <;> first|rfl|(exfalso;omega))
end
theorem q6w (a1 a2:Option Addr)(c1 c2:Nat)(xs ys:List Int)(w:World)(hl1:xs.length<=9223372036854775807)(_hl2:ys.length<=9223372036854775807)(h1:IntsAt w a1 xs)(h2:IntsAt w a2 ys):
  Calls Tryz.prog 65 #[.slice a1 xs.length c1, .slice a2 ys.length c2] w fun e w'=>e= .returned (.int .i64 (cL Lib.compareInt xs ys))/\w'=w:=by
 generalize hR:cL Lib.compareInt xs ys=R
 have HR:=hZq hR
 have H1:=hZq h1
 have H2:=hZq h2
 clear hR h1 h2
 go_enter Tryz.func65,Tryz.ntmps65
 go_wp2
 go_loop [11] (fun i=> ∃k:Nat,k<=xs.length/\k<=ys.length/\i= .int .i64 (k:Int)/\Hid (cL Lib.compareInt (xs.drop k) (ys.drop k)=R)) (fun i=>xs.length-(intOf i).toNat)
 case atStart=>exact ⟨0,Nat.zero_le _,Nat.zero_le _,rfl,HR⟩
 case round=>
  obtain ⟨k,hk1,hk2,rfl,HK⟩:=hrel
  by_cases hx:k<xs.length
  ·obtain ⟨b1,o1,rfl,_,q1⟩:=uQ H1 (fun e=>by rw[e]at hx;simp at hx)
   have x1:=q1 k hx
   have hK:=uQ HK
   rw[List.drop_eq_getElem_cons hx]at hK
   clear q1 H1 HK HR
   generalize xs[k]=x at *
   by_cases hy:k<ys.length
   ·obtain ⟨b2,o2,rfl,_,q2⟩:=uQ H2 (fun e=>by rw[e]at hy;simp at hy)
    have y1:=q2 k hy
    rw[List.drop_eq_getElem_cons hy]at hK
    clear q2 H2
    generalize ys[k]=y at *
    simp only[cL]at hK
    have hc:=fun w=>q5z x y w
    by_cases h0:Lib.compareInt x y=0
    ·rw[if_pos h0]at hK
     simp only[h0]at hc
     have HC:=hZq hc
     have HK:=hZq hK
     clear hc hK h0
     go_wp2_with fail
     refine (uQ HC _).mono ?_
     rintro e w1 ⟨rfl,rfl⟩
     go_wp2
     go_round
     case rel=>exact ⟨k+1,by omega,by omega,by go_num,HK⟩
     case measure=>simp[intOf];omega
    ·rw[if_neg h0]at hK
     rw[hK]at hc h0
     have g:(R != 0)=true:=by rw[bne_iff_ne];exact h0
     have HC:=hZq hc
     clear hc hK h0
     go_wp2_with fail
     refine (uQ HC _).mono ?_
     rintro e w1 ⟨rfl,rfl⟩
     go_wp2
     go_ret
     exact ⟨rfl,rfl⟩
   ·have hd:ys.drop k=[]:=List.drop_of_length_le (by omega)
    rw[hd]at hK
    simp only[cL]at hK
    subst hK
    clear H2 hd
    go_wp2
    go_ret
    exact ⟨rfl,rfl⟩
  ·have hK:=uQ HK
   rw[List.drop_of_length_le (by omega)]at hK
   clear HK HR H1 H2
   by_cases hy:k<ys.length
   ·rw[List.drop_eq_getElem_cons hy]at hK
    simp only[cL]at hK
    subst hK
    have hlt:(xs.length:Int)<(ys.length:Int):=by omega
    go_wp2
    go_ret
    exact ⟨rfl,rfl⟩
   ·rw[List.drop_of_length_le (by omega)]at hK
    simp only[cL]at hK
    subst hK
    have hlt: ¬ ((xs.length:Int)<(ys.length:Int)):=by omega
    go_wp2
    go_ret
    exact ⟨rfl,rfl⟩
theorem q3Q (a1 a2:Option Addr)(c1 c2:Nat)(xs ys:List (List Int))(w:World)(hl1:xs.length<=9223372036854775807)(_hl2:ys.length<=9223372036854775807)(hp1: ∀p∈xs,p.length<=9223372036854775807)(hp2: ∀p∈ys,p.length<=9223372036854775807)(h1:StagesAt w a1 xs)(h2:StagesAt w a2 ys):
  Calls Tryz.prog 64 #[.slice a1 xs.length c1, .slice a2 ys.length c2, .func (.func 65) #[] #[]] w fun e w'=>e= .returned (.int .i64 (cL (cL Lib.compareInt) xs ys))/\w'=w:=by
 generalize hR:cL (cL Lib.compareInt) xs ys=R
 have HR:=hZq hR
 have H1:=hZq h1
 have H2:=hZq h2
 have P1:=hZq hp1
 have P2:=hZq hp2
 clear hR h1 h2 hp1 hp2
 go_enter Tryz.func64,Tryz.ntmps64
 go_wp2
 go_loop [13] (fun i=> ∃k:Nat,k<=xs.length/\k<=ys.length/\i= .int .i64 (k:Int)/\Hid (cL (cL Lib.compareInt) (xs.drop k) (ys.drop k)=R)) (fun i=>xs.length-(intOf i).toNat)
 case atStart=>exact ⟨0,Nat.zero_le _,Nat.zero_le _,rfl,HR⟩
 case round=>
  obtain ⟨k,hk1,hk2,rfl,HK⟩:=hrel
  by_cases hx:k<xs.length
  ·obtain ⟨b1,o1,rfl,_,q1⟩:=uQ H1 (fun e=>by rw[e]at hx;simp at hx)
   obtain ⟨p1,m1,x1,i1⟩:=q1 k hx
   have l1:=uQ P1 xs[k] (List.getElem_mem hx)
   have hK:=uQ HK
   rw[List.drop_eq_getElem_cons hx]at hK
   clear q1 H1 HK HR P1
   generalize xs[k]=x at *
   by_cases hy:k<ys.length
   ·obtain ⟨b2,o2,rfl,_,q2⟩:=uQ H2 (fun e=>by rw[e]at hy;simp at hy)
    obtain ⟨p2,m2,y1,i2⟩:=q2 k hy
    have l2:=uQ P2 ys[k] (List.getElem_mem hy)
    rw[List.drop_eq_getElem_cons hy]at hK
    clear q2 H2 P2
    generalize ys[k]=y at *
    simp only[cL]at hK
    have hc:=q6w p1 p2 m1 m2 x y w l1 l2 i1 i2
    by_cases h0:cL Lib.compareInt x y=0
    ·rw[if_pos h0]at hK
     rw[h0]at hc
     have HC:=hZq hc
     have HK:=hZq hK
     clear hc hK h0 i1 i2
     generalize x.length=nx at *
     generalize y.length=ny at *
     go_wp2_with fail
     refine (uQ HC).mono ?_
     rintro e w1 ⟨rfl,rfl⟩
     go_wp2
     go_round
     case rel=>exact ⟨k+1,by omega,by omega,by go_num,HK⟩
     case measure=>simp[intOf];omega
    ·rw[if_neg h0]at hK
     rw[hK]at hc h0
     have g:(R != 0)=true:=by rw[bne_iff_ne];exact h0
     have HC:=hZq hc
     clear hc hK h0 i1 i2
     generalize x.length=nx at *
     generalize y.length=ny at *
     go_wp2_with fail
     refine (uQ HC).mono ?_
     rintro e w1 ⟨rfl,rfl⟩
     go_wp2
     go_ret
     exact ⟨rfl,rfl⟩
   ·have hd:ys.drop k=[]:=List.drop_of_length_le (by omega)
    rw[hd]at hK
    simp only[cL]at hK
    subst hK
    clear H2 hd i1 P2
    generalize x.length=nx at *
    go_wp2
    go_ret
    exact ⟨rfl,rfl⟩
  ·have hK:=uQ HK
   rw[List.drop_of_length_le (by omega)]at hK
   clear HK HR H1 H2 P1 P2
   by_cases hy:k<ys.length
   ·rw[List.drop_eq_getElem_cons hy]at hK
    simp only[cL]at hK
    subst hK
    have hlt:(xs.length:Int)<(ys.length:Int):=by omega
    go_wp2
    go_ret
    exact ⟨rfl,rfl⟩
   ·rw[List.drop_of_length_le (by omega)]at hK
    simp only[cL]at hK
    subst hK
    have hlt: ¬ ((xs.length:Int)<(ys.length:Int)):=by omega
    go_wp2
    go_ret
    exact ⟨rfl,rfl⟩
def orL:List Int->Int
 |[]=>0
 |x::r=>if x=0 then orL r else x
theorem qe3 (a1:Option Addr)(c1:Nat)(xs:List Int)(w:World)(hl1:xs.length<=9223372036854775807)(h1:IntsAt w a1 xs):
  Calls Tryz.prog 61 #[.slice a1 xs.length c1] w fun e w'=>e= .returned (.int .i64 (orL xs))/\w'=w:=by
 generalize hR:orL xs=R
 have HR:=hZq hR
 have H1:=hZq h1
 clear hR h1
 go_enter Tryz.func61,Tryz.ntmps61
 go_wp2
 go_loop [8] (fun i=> ∃k:Nat,k<=xs.length/\i= .int .i64 (k:Int)/\Hid (orL (xs.drop k)=R)) (fun i=>xs.length-(intOf i).toNat)
 case atStart=>exact ⟨0,Nat.zero_le _,rfl,HR⟩
 case round=>
  obtain ⟨k,hk1,rfl,HK⟩:=hrel
  by_cases hx:k<xs.length
  ·obtain ⟨b1,o1,rfl,_,q1⟩:=uQ H1 (fun e=>by rw[e]at hx;simp at hx)
   have x1:=q1 k hx
   have hK:=uQ HK
   rw[List.drop_eq_getElem_cons hx,orL]at hK
   clear q1 H1 HK HR
   generalize xs[k]=x at *
   by_cases h0:x=0
   ·rw[if_pos h0]at hK
    subst h0
    have HK:=hZq hK
    clear hK
    go_wp2
    go_round
    case rel=>exact ⟨k+1,by omega,by go_num,HK⟩
    case measure=>simp[intOf];omega
   ·rw[if_neg h0]at hK
    subst hK
    have g:(x != 0)=true:=by rw[bne_iff_ne];exact h0
    clear h0
    go_wp2
    go_ret
    exact ⟨rfl,rfl⟩
  ·have hK:=uQ HK
   rw[List.drop_of_length_le (by omega),orL]at hK
   subst hK
   clear HK HR H1
   go_wp2
   go_ret
   exact ⟨rfl,rfl⟩
def cM (k1:ByteArray)(s1:List (List Int))(k2:ByteArray)(s2:List (List Int)):Int:=
 orI (Lib.compareInt (q0T s1) (q0T s2)) (orI (cL (cL Lib.compareInt) s1 s2) (Lib.compareBytes k1.data.toList k2.data.toList))
def cmpE (k1:ByteArray)(s1:List (List Int))(k2:ByteArray)(s2:List (List Int)):Int:=if mayM k1 s1=true/\mayM k2 s2=true then 0 else 20
def cmpV (k1:ByteArray)(s1:List (List Int))(k2:ByteArray)(s2:List (List Int)):Int:=if mayM k1 s1=true/\mayM k2 s2=true then cM k1 s1 k2 s2 else 0
def MBox (g:Nat)(k:ByteArray)(ad:Option Addr)(n cap:Nat)(w:World):Prop:=w.heap[g]?=some (.cells #[.string k, .slice ad n cap] 44 (0,0))
theorem MBox.cells {g:Nat}{k:ByteArray}{ad:Option Addr}{n cap:Nat}{w:World}(h:MBox g k ad n cap w):w.cell? ⟨g,0,none⟩=some (.string k)/\w.cell? ⟨g,1,none⟩=some (.slice ad n cap):=by
 unfold MBox at h
 simp[World.cell?,h]
theorem MBox.lt {g:Nat}{k:ByteArray}{ad:Option Addr}{n cap:Nat}{w:World}(h:MBox g k ad n cap w):g<w.heap.size:=by
 unfold MBox at h
 rcases Nat.lt_or_ge g w.heap.size with h1|h1
 ·exact h1
 ·rw[Array.getElem?_eq_none h1]at h;cases h
theorem MBox.alloc {g:Nat}{k:ByteArray}{ad:Option Addr}{n cap:Nat}{w:World}(h:MBox g k ad n cap w)(o:Obj):MBox g k ad n cap (w.alloc o):=(Below.heap_alloc _ _ _ h.lt).trans h
theorem q8d {w W:World}(h: ∃q os,W=Go.Sort.grow (w.drewN q) os): ∃q os,W.drew=Go.Sort.grow (w.drewN q) os:=by
 obtain ⟨q,os,rfl⟩:=h
 exact ⟨q+1,os,rfl⟩
theorem q16 {w W:World}(h: ∃q os,W=Go.Sort.grow (w.drewN q) os)(o:Obj): ∃q os,W.alloc o=Go.Sort.grow (w.drewN q) os:=by
 obtain ⟨q,os,rfl⟩:=h
 exact ⟨q,os++#[o],by rw[Go.Sort.alloc_eq_grow,Go.Sort.grow_grow]⟩
theorem q44 (w:World): ∃q os,w=Go.Sort.grow (w.drewN q) os:=⟨0,#[],by rw[Go.Sort.grow_empty];rfl⟩
theorem q6U {a b c:World}(h: ∃q os,b=Go.Sort.grow (a.drewN q) os)(k: ∃q os,c=Go.Sort.grow (b.drewN q) os): ∃q os,c=Go.Sort.grow (a.drewN q) os:=by
 obtain ⟨q,os,rfl⟩:=h
 obtain ⟨p,os',rfl⟩:=k
 refine ⟨q+p,os++os',?_⟩
 have e:(Go.Sort.grow (a.drewN q) os).drewN p=Go.Sort.grow (a.drewN (q+p)) os:=by
  rw[<-World.drewN_drewN];rfl
 rw[e,Go.Sort.grow_grow]
structure CmpS (w:World)(g1 g2:Nat)(k1:ByteArray)(a1:Option Addr)(n1 c1:Nat)(k2:ByteArray)(a2:Option Addr)(n2 c2:Nat)(W:World):Prop where
 bel:Below w.heap.size w W
 b1:MBox g1 k1 a1 n1 c1 W
 b2:MBox g2 k2 a2 n2 c2 W
section
variable {w:World} {g1 g2:Nat} {k1:ByteArray} {a1:Option Addr} {n1 c1:Nat} {k2:ByteArray} {a2:Option Addr} {n2 c2:Nat} {W:World}
theorem CmpS.full (h:CmpS w g1 g2 k1 a1 n1 c1 k2 a2 n2 c2 W):CmpS w g1 g2 k1 a1 n1 c1 k2 a2 n2 c2 W/\W.cell? ⟨g1,0,none⟩=some (.string k1)/\W.cell? ⟨g1,1,none⟩=some (.slice a1 n1 c1)/\W.cell? ⟨g2,0,none⟩=some (.string k2)/\W.cell? ⟨g2,1,none⟩=some (.slice a2 n2 c2):=
 ⟨h,h.b1.cells.1,h.b1.cells.2,h.b2.cells.1,h.b2.cells.2⟩
end
structure CmpG (w:World)(g1 g2:Nat)(k1:ByteArray)(a1:Option Addr)(n1 c1:Nat)(k2:ByteArray)(a2:Option Addr)(n2 c2:Nat)(W:World):Prop where
 bel:Below w.heap.size w W
 gr: ∃q os,W=Go.Sort.grow (w.drewN q) os
 b1:MBox g1 k1 a1 n1 c1 W
 b2:MBox g2 k2 a2 n2 c2 W
section
variable {w:World} {g1 g2:Nat} {k1:ByteArray} {a1:Option Addr} {n1 c1:Nat} {k2:ByteArray} {a2:Option Addr} {n2 c2:Nat} {W:World}
theorem CmpG.drew (h:CmpG w g1 g2 k1 a1 n1 c1 k2 a2 n2 c2 W):CmpG w g1 g2 k1 a1 n1 c1 k2 a2 n2 c2 W.drew:=⟨h.bel.drew,q8d h.gr,h.b1,h.b2⟩
theorem CmpG.alloc (h:CmpG w g1 g2 k1 a1 n1 c1 k2 a2 n2 c2 W)(o:Obj):CmpG w g1 g2 k1 a1 n1 c1 k2 a2 n2 c2 (W.alloc o):=⟨h.bel.alloc h.bel.size o,q16 h.gr o,h.b1.alloc o,h.b2.alloc o⟩
theorem CmpG.full (h:CmpG w g1 g2 k1 a1 n1 c1 k2 a2 n2 c2 W):CmpG w g1 g2 k1 a1 n1 c1 k2 a2 n2 c2 W/\W.cell? ⟨g1,0,none⟩=some (.string k1)/\W.cell? ⟨g1,1,none⟩=some (.slice a1 n1 c1)/\W.cell? ⟨g2,0,none⟩=some (.string k2)/\W.cell? ⟨g2,1,none⟩=some (.slice a2 n2 c2):=
 ⟨h,h.b1.cells.1,h.b1.cells.2,h.b2.cells.1,h.b2.cells.2⟩
end
theorem orL3 (a b c:Int):orL [a,b,c]=orI a (orI b c):=by
 unfold orI
 simp only[orL]
 split
 ·split
  ·split <;> omega
  ·rfl
 ·rfl
theorem qeN (W:World)(a b c:Int)(t:TypeId):IntsAt (W.alloc (.cells #[.int .i64 a, .int .i64 b, .int .i64 c] t)) (some ⟨W.heap.size,0,none⟩) [a,b,c]:=fun _=>by
 refine ⟨W.heap.size,0,rfl,by simp,fun i hi=>?_⟩
 match i,hi with
 |0,_=>simp
 |1,_=>simp
 |2,_=>simp
theorem q5C (k1:ByteArray)(a1:Option Addr)(c1:Nat)(s1:List (List Int))(k2:ByteArray)(a2:Option Addr)(c2:Nat)(s2:List (List Int))(w:World)(ok1:MtOk k1 s1)(ok2:MtOk k2 s2)(h1:StagesAt w a1 s1)(h2:StagesAt w a2 s2):
  Calls Tryz.prog 33 #[.agg #[.string k1, .slice a1 s1.length c1], .agg #[.string k2, .slice a2 s2.length c2]] w fun e w'=>e= .returned (.tuple #[.int .i64 (cmpV k1 s1 k2 s2), .int .i64 (cmpE k1 s1 k2 s2)])/\Below w.heap.size w w'/\ ∃q os,w'=Go.Sort.grow (w.drewN q) os:=by
 have s0:CmpG w w.heap.size (w.heap.size+1) k1 a1 s1.length c1 k2 a2 s2.length c2 ((w.alloc (.cells #[.string k1, .slice a1 s1.length c1] 44)).alloc (.cells #[.string k2, .slice a2 s2.length c2] 44)):=by
  refine ⟨((Below.refl _ _).alloc (Nat.le_refl _) _).alloc (by simp) _,q16 (q16 (q44 w) _) _,MBox.alloc (heap_alloc_new w _) _,?_⟩
  have:=heap_alloc_new (w.alloc (.cells #[.string k1, .slice a1 s1.length c1] 44)) (.cells #[.string k2, .slice a2 s2.length c2] 44)
  unfold MBox
  simpa using this
 have ck1:=fun W (hW:Below w.heap.size w W)=>q2r k1 a1 c1 s1 W ok1 (h1.below hW (Nat.le_refl _))
 have ck2:=fun W (hW:Below w.heap.size w W)=>q2r k2 a2 c2 s2 W ok2 (h2.below hW (Nat.le_refl _))
 have lp1:=fun W (hW:Below w.heap.size w W) (hm:mayM k1 s1=true)=>q31 k1 a1 c1 s1 W ok1 hm (h1.below hW (Nat.le_refl _))
 have lp2:=fun W (hW:Below w.heap.size w W) (hm:mayM k2 s2=true)=>q31 k2 a2 c2 s2 W ok2 hm (h2.below hW (Nat.le_refl _))
 have cf:=fun W (hW:Below w.heap.size w W)=>q3Q a1 a2 c1 c2 s1 s2 W ok1.2.1 ok2.2.1 ok1.2.2 ok2.2.2 (h1.below hW (Nat.le_refl _)) (h2.below hW (Nat.le_refl _))
 have sc:=fun W=>Tryz.strings_Compare k1 k2 W
 clear h1 h2
 have CK1:=hZq ck1
 have CK2:=hZq ck2
 have LP1:=hZq lp1
 have LP2:=hZq lp2
 have CF:=hZq cf
 have SC:=hZq sc
 clear ck1 ck2 lp1 lp2 cf sc
 unfold cmpV cmpE
 by_cases m1:mayM k1 s1=true
 ·have e1:chkM k1 s1=0:=if_pos m1
  by_cases m2:mayM k2 s2=true
  ·have e2:chkM k2 s2=0:=if_pos m2
   rw[if_pos ⟨m1,m2⟩,if_pos ⟨m1,m2⟩]
   rw[e1]at CK1
   rw[e2]at CK2
   unfold cM
   rw[<-orL3]
   have LQ1:Hid (∀W,Below w.heap.size w W->_):=hZq (fun W hW=>uQ LP1 W hW m1)
   have LQ2:Hid (∀W,Below w.heap.size w W->_):=hZq (fun W hW=>uQ LP2 W hW m2)
   have cc:=fun W=>q5z (q0T s1) (q0T s2) W
   have CC:=hZq cc
   clear LP1 LP2 e1 e2 m1 m2 cc
   generalize Lib.compareInt (q0T s1) (q0T s2)=X at *
   generalize cL (cL Lib.compareInt) s1 s2=Y at *
   generalize Lib.compareBytes k1.data.toList k2.data.toList=Z at *
   generalize q0T s1=L1 at *
   generalize q0T s2=L2 at *
   have oc:=fun W=>qe3 (some ⟨W.heap.size,0,none⟩) 3 [X,Y,Z] (W.alloc (.cells #[.int .i64 X, .int .i64 Y, .int .i64 Z] 3)) (by simp) (qeN W X Y Z _)
   generalize orL [X,Y,Z]=T at *
   have OC:=hZq oc
   clear oc ok1 ok2
   generalize s1.length=n1 at *
   generalize s2.length=n2 at *
   go_enter Tryz.func33,Tryz.ntmps33
   go_wp2_with fail
   generalize ((w.alloc (.cells #[.string k1, .slice a1 n1 c1] 44)).alloc (.cells #[.string k2, .slice a2 n2 c2] 44))=W0 at *
   have f0:=s0.full.2
   refine (uQ CK1 W0 s0.bel).mono ?_
   rintro e w1 ⟨rfl,rfl⟩
   have s1:=s0.alloc (.cells #[.string k1, .slice a1 n1 c1] 44)
   generalize (W0.alloc (.cells #[.string k1, .slice a1 n1 c1] 44))=W1 at *
   clear f0 s0
   have f1:=s1.full.2
   go_wp2_with fail
   refine (uQ CK2 W1 s1.bel).mono ?_
   rintro e w2 ⟨rfl,rfl⟩
   have s2:=s1.alloc (.cells #[.string k2, .slice a2 n2 c2] 44)
   generalize (W1.alloc (.cells #[.string k2, .slice a2 n2 c2] 44))=W2 at *
   clear f1 s1
   have f2:=s2.full.2
   go_wp2_with fail
   have ls1: ∀W,CmpG w w.heap.size (w.heap.size+1) k1 a1 n1 c1 k2 a2 n2 c2 W->Calls Tryz.prog 63 #[.agg #[.string k1, .slice a1 n1 c1]] W fun e w'=>e= .returned (.int .i64 L1)/\CmpG w w.heap.size (w.heap.size+1) k1 a1 n1 c1 k2 a2 n2 c2 w':=
    fun W hS=>(uQ LQ1 W hS.bel).mono (fun e w' h=>⟨h.1,h.2 ▸ hS.alloc _⟩)
   have ls2: ∀W,CmpG w w.heap.size (w.heap.size+1) k1 a1 n1 c1 k2 a2 n2 c2 W->Calls Tryz.prog 63 #[.agg #[.string k2, .slice a2 n2 c2]] W fun e w'=>e= .returned (.int .i64 L2)/\CmpG w w.heap.size (w.heap.size+1) k1 a1 n1 c1 k2 a2 n2 c2 w':=
    fun W hS=>(uQ LQ2 W hS.bel).mono (fun e w' h=>⟨h.1,h.2 ▸ hS.alloc _⟩)
   have LS1:=hZq ls1
   have LS2:=hZq ls2
   clear ls1 ls2 LQ1 LQ2 CK1 CK2
   go_region_held3 (fun W=>CmpG w w.heap.size (w.heap.size+1) k1 a1 n1 c1 k2 a2 n2 c2 W/\W.cell? ⟨w.heap.size,0,none⟩=some (.string k1)/\W.cell? ⟨w.heap.size,1,none⟩=some (.slice a1 n1 c1)/\W.cell? ⟨w.heap.size+1,0,none⟩=some (.string k2)/\W.cell? ⟨w.heap.size+1,1,none⟩=some (.slice a2 n2 c2)) (first|exact s2.full|exact s2.drew.full|exact s3.full|exact s4.full|exact (s4.alloc _).full)
    (first
     |(go_at_call 63;refine (uQ LS2 _ s3).mono ?_;rintro e w4 ⟨rfl,s4⟩)
     |(go_at_call 63;refine (uQ LS1 _ s2.drew).mono ?_;rintro e w3 ⟨rfl,s3⟩)
     |(go_at_call 62;refine (uQ CC _).mono ?_;rintro e w5 ⟨rfl,rfl⟩)
     |(go_at_call 64;refine (uQ CF _ s4.bel).mono ?_;rintro e w6 ⟨rfl,rfl⟩)
     |(go_at_call 66;refine (uQ SC _).mono ?_;rintro e w7 ⟨rfl,rfl⟩)
     |(go_at_call 61;refine (uQ OC _).mono ?_;rintro e w8 ⟨rfl,rfl⟩))
   go_wp2
   go_ret2
   exact ⟨rfl,(s4.alloc _).bel,(s4.alloc _).gr⟩
  ·have e2:chkM k2 s2=20:=if_neg m2
   rw[if_neg (fun h=>m2 h.2),if_neg (fun h=>m2 h.2)]
   rw[e1]at CK1
   rw[e2]at CK2
   clear LP1 LP2 e1 e2 m1 m2 CF SC ok1 ok2
   generalize s1.length=n1 at *
   generalize s2.length=n2 at *
   go_enter Tryz.func33,Tryz.ntmps33
   go_wp2_with fail
   generalize ((w.alloc (.cells #[.string k1, .slice a1 n1 c1] 44)).alloc (.cells #[.string k2, .slice a2 n2 c2] 44))=W0 at *
   have f0:=s0.full.2
   refine (uQ CK1 W0 s0.bel).mono ?_
   rintro e w1 ⟨rfl,rfl⟩
   have s1:=s0.alloc (.cells #[.string k1, .slice a1 n1 c1] 44)
   generalize (W0.alloc (.cells #[.string k1, .slice a1 n1 c1] 44))=W1 at *
   clear f0 s0
   have f1:=s1.full.2
   go_wp2_with fail
   refine (uQ CK2 W1 s1.bel).mono ?_
   rintro e w2 ⟨rfl,rfl⟩
   go_wp2
   go_ret2
   exact ⟨rfl,(s1.alloc _).bel,(s1.alloc _).gr⟩
 ·have e1:chkM k1 s1=20:=if_neg m1
  rw[if_neg (fun h=>m1 h.1),if_neg (fun h=>m1 h.1)]
  rw[e1]at CK1
  clear LP1 LP2 e1 m1 CF SC ok1 ok2 CK2
  generalize s1.length=n1 at *
  generalize s2.length=n2 at *
  go_enter Tryz.func33,Tryz.ntmps33
  go_wp2_with fail
  generalize ((w.alloc (.cells #[.string k1, .slice a1 n1 c1] 44)).alloc (.cells #[.string k2, .slice a2 n2 c2] 44))=W0 at *
  have f0:=s0.full.2
  refine (uQ CK1 W0 s0.bel).mono ?_
  rintro e w1 ⟨rfl,rfl⟩
  go_wp2
  go_ret2
  exact ⟨rfl,(s0.alloc _).bel,(s0.alloc _).gr⟩
open Go.RowKit Go.Shelf
theorem q5T (k1:ByteArray)(a1:Option Addr)(c1:Nat)(s1:List (List Int))(k2:ByteArray)(a2:Option Addr)(c2:Nat)(s2:List (List Int))(w:World)(ok1:MtOk k1 s1)(ok2:MtOk k2 s2)(h1: ∀W,Kp [] w W->StagesAt W a1 s1)(h2: ∀W,Kp [] w W->StagesAt W a2 s2):
  Calls Tryz.prog 16 #[.agg #[.string k1, .slice a1 s1.length c1], .agg #[.string k2, .slice a2 s2.length c2]] w fun e w'=>e= .returned (.int .i64 (cmpV k1 s1 k2 s2))/\Kp [] w w'/\ ∃q os,w'=Go.Sort.grow (w.drewN q) os:=by
 have ka:=Kp.alloc w (.cells #[.string k1, .slice a1 s1.length c1] 44)
 have pa:=CBox.new w #[.string k1, .slice a1 s1.length c1] 44
 have hza:(w.alloc (.cells #[.string k1, .slice a1 s1.length c1] 44)).heap.size=w.heap.size+1:=by simp
 have kb:=Kp.alloc (w.alloc (.cells #[.string k1, .slice a1 s1.length c1] 44)) (.cells #[.string k2, .slice a2 s2.length c2] 44)
 have pb:=CBox.new (w.alloc (.cells #[.string k1, .slice a1 s1.length c1] 44)) #[.string k2, .slice a2 s2.length c2] 44
 rw[hza]at pb
 have pa2:=pa.kp kb (by simp)
 have x0:=pa2.cell (i:=0) (v:= .string k1) rfl
 have x1:=pa2.cell (i:=1) (v:= .slice a1 s1.length c1) rfl
 have y0:=pb.cell (i:=0) (v:= .string k2) rfl
 have y1:=pb.cell (i:=1) (v:= .slice a2 s2.length c2) rfl
 have kab:=ka.trans kb (by simp)
 have CM:=hZq (q5C k1 a1 c1 s1 k2 a2 c2 s2 _ ok1 ok2 (h1 _ kab) (h2 _ kab))
 have HK:=hZq kab
 have HG:=hZq (q16 (q16 (q44 w) (.cells #[.string k1, .slice a1 s1.length c1] 44)) (.cells #[.string k2, .slice a2 s2.length c2] 44))
 generalize s1.length=n1 at *
 generalize s2.length=n2 at *
 generalize cmpV k1 s1 k2 s2=V at *
 generalize cmpE k1 s1 k2 s2=E at *
 clear ka pa hza kb pb pa2 kab h1 h2 ok1 ok2
 go_enter Tryz.func16,Tryz.ntmps16
 go_wp2_with fail
 refine (uQ CM).mono ?_
 rintro e w2 ⟨rfl,hb,hg⟩
 have HKF:=hZq ((uQ HK).trans (Kp.ofBelow hb) (by simp))
 have HGF:=hZq (q6U (uQ HG) hg)
 clear CM hb HK HG hg
 go_wp2
 go_ret
 exact ⟨rfl,uQ HKF,uQ HGF⟩
theorem cM_pre:Pre fun x y:ByteArray × List (List Int)=>cM x.1 x.2 y.1 y.2:=
 (pre_int.on fun x:ByteArray × List (List Int)=>q0T x.2).or (((q3N (q3N pre_int)).on fun x:ByteArray × List (List Int)=>x.2).or (pre_bytes.on fun x:ByteArray × List (List Int)=>x.1.data.toList))
theorem q6h (a b:Int):orI a b=0↔a=0/\b=0:=by unfold orI;split <;> omega
theorem qdB {a b:ByteArray}(h:a.data.toList=b.data.toList):a=b:=ByteArray.ext (Array.ext' h)
theorem qcc (k1:ByteArray)(s1:List (List Int))(k2:ByteArray)(s2:List (List Int)):cM k1 s1 k2 s2=0↔k1=k2/\s1=s2:=by
 unfold cM
 rw[q6h,q6h,q3X,q2l (q2l q3X),q2Y]
 exact ⟨fun h=>⟨qdB h.2.2,h.2.1⟩,fun h=>⟨by rw[h.2],h.2,by rw[h.1]⟩⟩
section
open Go.Sort
theorem q7K: ∀(l:List Nat) (a:Int),l.Pairwise (· < ·)->(∀q∈l,a<(q:Int)/\q<=1073741824)->q1r a (l.map Int.ofNat)=true
 |[],_,_,_=>rfl
 |q::r,a,hp,h=>by
  rw[List.pairwise_cons]at hp
  have h1:=h q (by simp)
  rw[List.map_cons,q1r,if_neg (by show ¬ ((q:Int)<=a\/1073741824<(q:Int));omega)]
  exact q7K r _ hp.2 (fun x hx=>⟨by show (q:Int)<x;have:=hp.1 x hx;omega,(h x (by simp[hx])).2⟩)
theorem q9s (m:List Nat):q1M (m.map Int.ofNat)=(Mt.lst m:Int):=by
 rcases List.eq_nil_or_concat m with e|⟨l,x,rfl⟩
 ·subst e;rfl
 ·rw[List.concat_eq_append,Mt.lst_snoc]
  unfold q1M
  simp
theorem q59: ∀(T:List (List Nat)) (left a:Int),(∀l∈T,l≠[])->T.flatten.Pairwise (· < ·)->(∀q∈T.flatten,a<(q:Int)/\q<=1073741824)->(T.flatten.length:Int)<=left->q0y left a (Mt.toZ T)=true
 |[],_,_,_,_,_,_=>rfl
 |l::r,left,a,hn,hp,hq,hl=>by
  have hl0:=hn l (by simp)
  have hpos:=List.length_pos_iff.2 hl0
  rw[List.flatten_cons]at hp hq hl
  rw[List.pairwise_append]at hp
  rw[List.length_append]at hl
  have e:Mt.toZ (l::r)=l.map Int.ofNat::Mt.toZ r:=rfl
  have hr:=q7K l a hp.1 (fun q h=>hq q (by simp[h]))
  rw[e,q0y,List.length_map,if_neg (by rw[hr];rintro (h|h|h) <;> first|omega|cases h),q9s]
  refine q59 r _ _ (fun l h=>hn l (by simp[h])) hp.2.1 (fun q h=>⟨?_,(hq q (by simp only[List.mem_append];exact Or.inr h)).2⟩) (by omega)
  have:=hp.2.2 _ (Mt.lst_mem hl0) q h
  omega
theorem q7z: ∀(l:List Nat) (lo hi:Nat),l.Pairwise (· < ·)->(∀q∈l,lo<=q/\q<=hi)->l.length<=hi+1-lo
 |[],_,_,_,_=>Nat.zero_le _
 |x::r,lo,hi,hp,h=>by
  rw[List.pairwise_cons]at hp
  have h1:=h x (by simp)
  have:=q7z r (x+1) hi hp.2 (fun q hq=>⟨hp.1 q hq,(h q (by simp[hq])).2⟩)
  rw[List.length_cons]
  omega
theorem q96 {T:List (List Nat)}(h0:T≠[])(hn: ∀l∈T,l≠[])(hp:T.flatten.Pairwise (· < ·)): ∀q∈T.flatten,Mt.fstT T<=q/\q<=Mt.endT T:=by
 intro q hq
 constructor
 ·cases T with
  |nil=>exact absurd rfl h0
  |cons l r=>
   cases l with
   |nil=>exact absurd rfl (hn [] (by simp))
   |cons x l=>
    rw[List.flatten_cons,List.cons_append,List.pairwise_cons]at hp
    rw[List.flatten_cons,List.cons_append,List.mem_cons]at hq
    show x<=q
    rcases hq with rfl|hq
    ·exact Nat.le_refl _
    ·exact Nat.le_of_lt (hp.1 q hq)
 ·rcases List.eq_nil_or_concat T with e|⟨A,m,rfl⟩
  ·exact absurd e h0
  ·rw[List.concat_eq_append]at *
   rw[Mt.endT_snoc]
   rw[List.flatten_append,List.pairwise_append]at hp
   rw[List.flatten_append,List.mem_append]at hq
   have e:[m].flatten=m:=by simp
   rw[e]at hp hq
   rcases hq with hq|hq
   ·exact Nat.le_of_lt (hp.2.2 q hq _ (Mt.lst_mem (hn m (by simp))))
   ·exact Mt.le_lst hp.2.1 q hq
theorem q7u {P:Mt.Pm}{wi:Nat}(hwi:1<=wi)(hw:wi<=256)(hN:1<=P.N)(h8:P.N<=8)(hlen:P.len<=4096){k:ByteArray}(hk:q0r k=true){T:List (List Nat)}(h:T∈Mt.fnd P wi):mayM k (Mt.toZ T)=true:=by
 obtain ⟨hr,hl,he⟩:=(Mt.fnd_iff hwi hN T).1 h
 have h0:T≠[]:=fun e=>by rw[e]at hl;simp at hl;omega
 have ha:=hr.asg h0
 have hfe:=q96 h0 hr.full ha.inc
 have hc:=q7z T.flatten (Mt.fstT T) (Mt.endT T) ha.inc hfe
 unfold mayM
 rw[hk,q1V,decide_eq_true (by omega),decide_eq_true (by omega)]
 refine q59 T 256 (-1) hr.full ha.inc (fun q hq=>⟨by omega,?_⟩) (by omega)
 have:=ha.low q hq
 omega
theorem qdv {T U:List (List Nat)}(h:Mt.toZ T=Mt.toZ U):T=U:=by
 unfold Mt.toZ at h
 exact (List.map_inj_right (fun a b e=>(List.map_inj_right (fun x y e=>Int.ofNat.inj e)).1 e)).1 h
def cT (T U:List (List Nat)):Int:=cM ByteArray.empty (Mt.toZ T) ByteArray.empty (Mt.toZ U)
theorem qdD (k:ByteArray)(s t:List (List Int)):cM k s k t=cM ByteArray.empty s ByteArray.empty t:=by
 unfold cM
 rw[(q2Y k.data.toList k.data.toList).2 rfl,(q2Y ByteArray.empty.data.toList ByteArray.empty.data.toList).2 rfl]
theorem cT_pre:Pre cT:=(cM_pre.on fun T:List (List Nat)=>(ByteArray.empty,Mt.toZ T))
theorem q4w (T U:List (List Nat)):cT T U=0↔T=U:=by
 unfold cT
 rw[qcc]
 exact ⟨fun h=>qdv h.2,fun h=>⟨rfl,by rw[h]⟩⟩
theorem qdt {α:Type}{c:α->α->Int}(h:Pre c):SWO (Go.Proofs.ltOf c) where
 irrefl x:=by
  have:=h.anti x x
  unfold Go.Proofs.ltOf
  exact decide_eq_false (by omega)
 trans x y z h1 h2:=by
  unfold Go.Proofs.ltOf at *
  rw[decide_eq_true_eq]at *
  have t:=h.trans x y z (by omega) (by omega)
  have:c x z≠0:=fun e=>by have:=(t.2 e).1;omega
  omega
 ntrans x y z h1 h2:=by
  unfold Go.Proofs.ltOf at *
  rw[decide_eq_false_iff_not]at *
  have a1:=h.anti x y
  have a2:=h.anti y z
  have a3:=h.anti x z
  have t:=h.trans z y x (by omega) (by omega)
  omega
def Srt (l:List (List (List Nat))):Prop:=l.Pairwise fun a b=>cT a b<0
theorem q4O: ∀{l m:List (List (List Nat))},Srt l->Srt m->l.Perm m->l=m
 |[],m,_,_,hp=>(List.nil_perm.1 hp).symm
 |a::l,m,h1,h2,hp=>by
  cases m with
  |nil=>exact absurd (List.perm_nil.1 hp) (by simp)
  |cons b m=>
   have h1':=List.pairwise_cons.1 h1
   have h2':=List.pairwise_cons.1 h2
   have hb:b∈a::l:=hp.symm.subset (by simp)
   have ha:a∈b::m:=hp.subset (by simp)
   have e:a=b:=by
    rcases List.mem_cons.1 hb with e|hb
    ·exact e.symm
    ·rcases List.mem_cons.1 ha with e|ha
     ·exact e
     ·have x1:=h1'.1 b hb
      have x2:=h2'.1 a ha
      have:=cT_pre.anti a b
      omega
   subst e
   rw[q4O h1'.2 h2'.2 (List.Perm.cons_inv hp)]
def fdS (P:Mt.Pm)(wi:Nat):List (List (List Nat)):=(Mt.fnd P wi).mergeSort fun a b=>decide (cT a b<=0)
theorem qa5 {l:List (List (List Nat))}(hn:l.Nodup):Srt (l.mergeSort fun a b=>decide (cT a b<=0)):=by
 have hs:=List.pairwise_mergeSort (le:=fun a b=>decide (cT a b<=0)) (fun a b c h1 h2=>by
  simp only[decide_eq_true_eq]at *
  exact (cT_pre.trans a b c h1 h2).1) (fun a b=>by
  have:=cT_pre.anti a b
  simp only[Bool.or_eq_true,decide_eq_true_eq]
  omega) l
 have hd:(l.mergeSort fun a b=>decide (cT a b<=0)).Nodup:=(List.mergeSort_perm l _).nodup_iff.2 hn
 unfold Srt
 refine List.Pairwise.imp₂ (fun a b h1 h2=>?_) hs hd
 have h1:cT a b<=0:=by simpa using h1
 have h3:cT a b≠0:=fun e=>h2 ((q4w a b).1 e)
 omega
theorem q1Y (P:Mt.Pm)(wi:Nat):(fdS P wi).Perm (Mt.fnd P wi):=List.mergeSort_perm _ _
theorem q4y (P:Mt.Pm)(wi:Nat):Srt (fdS P wi):=qa5 (Mt.fnd_nodup P wi)
theorem qcp {P:Mt.Pm}{wi:Nat}(hwi:1<=wi)(hN:1<=P.N)(X:List (List Nat)):X∈fdS P wi↔Mt.Rgt P X/\X.length=P.N/\Mt.endT X<Mt.fstT X+wi:=by rw[(q1Y P wi).mem_iff,Mt.fnd_iff hwi hN]
theorem q7s (P:Mt.Pm)(wi:Nat):(fdS P wi).length=(Mt.fnd P wi).length:=(q1Y P wi).length_eq
end
theorem q7S: ∀{l m:List (List (List Nat))},Srt l->Srt m->(∀x,x∈l↔x∈m)->l=m
 |[],m,_,_,hp=>by
  cases m with
  |nil=>rfl
  |cons b m=>exact absurd ((hp b).2 (by simp)) (by simp)
 |a::l,m,h1,h2,hp=>by
  cases m with
  |nil=>exact absurd ((hp a).1 (by simp)) (by simp)
  |cons b m=>
   have h1':=List.pairwise_cons.1 h1
   have h2':=List.pairwise_cons.1 h2
   have hself: ∀x, ¬ cT x x<0:=fun x=>by have:=(q4w x x).2 rfl;omega
   have e:a=b:=by
    rcases List.mem_cons.1 ((hp b).2 (by simp))with e|hb
    ·exact e.symm
    ·rcases List.mem_cons.1 ((hp a).1 (by simp))with e|ha
     ·exact e
     ·have x1:=h1'.1 b hb
      have x2:=h2'.1 a ha
      have:=cT_pre.anti a b
      omega
   subst e
   rw[q7S h1'.2 h2'.2 (fun x=>?_)]
   constructor
   ·intro hx
    rcases List.mem_cons.1 ((hp x).1 (by simp[hx]))with e|h
    ·subst e;exact absurd (h1'.1 x hx) (hself x)
    ·exact h
   ·intro hx
    rcases List.mem_cons.1 ((hp x).2 (by simp[hx]))with e|h
    ·subst e;exact absurd (h2'.1 x hx) (hself x)
    ·exact h
namespace Mt
end Mt
theorem q9A {P:Mt.Pm}(hN:1<=P.N){X:List (List Nat)}(h:X.length=P.N):X≠[]:=fun e=>by rw[e]at h;simp at h;omega
namespace Mt
end Mt
open Go.RowKit Go.Shelf
theorem q91 {w:World}{b off:Nat}{l:List Ev}(h:EvsAt w (some ⟨b,off,none⟩) l): ∀j u,(l.flatMap evW)[j]?=some u->w.cell? ((⟨b,off,none⟩:Addr).add j)=some u:=by
 intro j u hj
 have hlt:j<l.length * 7:=by
  have:=(List.getElem?_eq_some_iff.1 hj).1
  rw[q0N evW 7 q1g]at this
  exact this
 have hi:j / 7<l.length:=by omega
 have e:j / 7 * 7+j % 7=j:=by omega
 have hf:=q1S evW 7 q1g l (j / 7) (j % 7) hi (by omega)
 rw[e,hj]at hf
 obtain ⟨b',off',e2,_,hc⟩:=h (fun e=>by rw[e]at hi;simp at hi)
 cases e2
 have:=hc (j / 7) l[j / 7] (List.getElem?_eq_getElem hi) (j % 7) u (by
  rw[hf]
  unfold evW Ev.c
  simp)
 rw[Go.WideShapes.add_plain]
 rw[Nat.add_assoc,e]at this
 exact this
theorem qcl (l:List Ev): ∀u∈l.flatMap evW,u.oneCell'=true:=fun u hu=>by
 rw[List.mem_flatMap]at hu
 obtain ⟨e,_,hu⟩:=hu
 unfold evW at hu
 simp only[List.mem_cons,List.not_mem_nil,or_false]at hu
 rcases hu with rfl|rfl|rfl|rfl|rfl|rfl|rfl <;> rfl
theorem OwnsX.empty (w:World):OwnsX w.heap.size (w.alloc (.cells #[] 29)) (.slice (some ⟨w.heap.size,0,none⟩) 0 0) []:=
 ⟨rfl,Or.inr ⟨w.heap.size,0,#[],rfl,Nat.le_refl _,CBox.new w _ _,Nat.le_refl _,by unfold maxLen;omega,rfl,rfl⟩⟩
theorem q6u {w:World}{ad:Option Addr}{c:Nat}{l:List Ev}(h:EvsAt w ad l)(ha:ad=none->c=0)(hl:l.length<=1000000)(ty:TypeId):
  ∃g cap w',(Builtin.append_ #[25,25] ty #[.slice (some ⟨w.heap.size,0,none⟩) 0 0, .slice ad l.length c]).run Tryz.prog (w.alloc (.cells #[] 29))= .ok (.slice (some ⟨g,0,none⟩) l.length cap) w'/\OwnsX w.heap.size w' (.slice (some ⟨g,0,none⟩) l.length cap) l/\Kp [] w w':=by
 obtain ⟨i0,hi,hz0,hz1,hz2⟩:=info_parts q3H
 have ho:=OwnsX.empty w
 have k0:=Kp.alloc w (.cells #[] 29)
 have hz:(w.alloc (.cells #[] 29)).heap.size=w.heap.size+1:=by simp
 have h':=h.kp k0 (by simp)
 have ho0:(w.alloc (.cells #[] 29)).ownsRow 0 29 7 (.slice (some ⟨w.heap.size,0,none⟩) 0 0) 0 []:=by
  obtain ⟨h1,⟨e,_⟩|⟨g',c',cur,e,_,r⟩⟩:=ho
  ·cases e
  ·exact ⟨h1,Or.inr ⟨g',c',cur,e,Nat.zero_le _,r⟩⟩
 by_cases h0:l=[]
 ·subst h0
  cases ad with
  |none=>
   obtain rfl:=ha rfl
   exact ⟨w.heap.size,0,_,by simpa using run_append_owned_none (P:=Tryz.prog) (w:=w.alloc (.cells #[] 29)) w.heap.size _ ty 29 i0 7 Tryz.underlying25 hi _ _ _ ho,ho,k0⟩
  |some a=>
   have:=run_append_room_cells (P:=Tryz.prog) (w:=w.alloc (.cells #[] 29)) 25 ty 29 i0 Tryz.underlying25 hi w.heap.size 0 0 0 a 0 c [] (by simp) (fun j u hj=>by simp at hj) (fun u hu=>by cases hu) (by omega) (fun j hj=>absurd hj (by simp)) (fun j hj=>absurd hj (by simp))
   exact ⟨w.heap.size,0,_,by simpa [World.setCells] using this,ho,k0⟩
 ·obtain ⟨b,off,rfl,_⟩:=id (h h0)
  obtain ⟨g,cap,w',hr,r1,r2,r3⟩:=q2o (P:=Tryz.prog) (w:=w.alloc (.cells #[] 29)) 25 ty 29 i0 _ 7 80 Tryz.underlying25 hi hz0 hz1 hz2 rfl (by decide) ho0 (some ⟨b,off,none⟩) l.length c (l.flatMap evW) (q0N evW 7 q1g l) (fun e=>by cases e) (fun a e=>by cases e;rfl) (fun a e j u hj=>by
   cases e
   exact q91 h' j u hj) (qcl l) (by unfold maxLen;omega) (by omega)
  rw[Nat.zero_add]at hr r1
  have hg:w.heap.size<=g:=by rcases r3 with e|e <;> omega
  refine ⟨g,cap,w',hr,?_,k0.trans (Kp.of r2) (fun y hy=>Or.inr (by simp at hy;omega))⟩
  rw[List.nil_append]at r1
  obtain ⟨h1,⟨e,_⟩|⟨g',c',cur,e,_,r⟩⟩:=r1
  ·cases e
  ·cases e
   exact ⟨h1,Or.inr ⟨_,_,cur,rfl,hg,r⟩⟩
theorem qdc {w:World}{B e sz g n cap:Nat}{xs:List Value}(h:w.ownsRow B e sz (.slice (some ⟨g,0,none⟩) n cap) n xs)(i:Nat)(v:Value):(w.setCell ⟨g,i,none⟩ v).ownsRow B e sz (.slice (some ⟨g,0,none⟩) n cap) n (xs.set i v):=by
 obtain ⟨h1,⟨e2,_⟩|⟨g',c',cur,e2,h3,h4,h5,h6,h7,h8⟩⟩:=h
 ·cases e2
 ·cases e2
  refine ⟨by rw[List.length_set];exact h1,Or.inr ⟨g,cap,cur.setIfInBounds i v,rfl,h3,CBox.set (show CBox g cur e w from h4) i v,h5,h6,by rw[Array.size_setIfInBounds];exact h7,?_⟩⟩
  rw[Array.toList_setIfInBounds,List.take_set,h8]
def q1I (k:ByteArray)(e:Ev):Ev:={ e with k:=k }
theorem q7q (k:ByteArray): ∀(l:List Ev) (i:Nat) (h:i<l.length),(l.flatMap evW).set (i * 7) (.string k)=(l.set i (q1I k l[i])).flatMap evW
 |e::r,0,_=>by simp[evW,q1I]
 |e::r,i+1,h=>by
  have ih:=q7q k r i (by simpa using h)
  rw[List.flatMap_cons,List.set_append_right _ _ (by rw[q1g];omega),q1g,show (i+1) * 7-7=i * 7 by omega,ih]
  rfl
def evJ (k:ByteArray)(l:List Ev)(j:Nat):List Ev:=(l.take j).map (q1I k)++l.drop j
theorem q1R (k:ByteArray)(l:List Ev)(j:Nat):(evJ k l j).length=l.length:=by
 unfold evJ
 rw[List.length_append,List.length_map,List.length_take,List.length_drop]
 omega
theorem qaC (k:ByteArray)(l:List Ev)(j:Nat)(h:j<l.length):evJ k l (j+1)=(evJ k l j).set j (q1I k ((evJ k l j)[j]'(by rw[q1R];exact h))):=by
 have hl:((l.take j).map (q1I k)).length=j:=by rw[List.length_map,List.length_take];omega
 have e1:(evJ k l j)[j]'(by rw[q1R];exact h)=l[j]:=by
  unfold evJ
  rw[List.getElem_append_right (by rw[hl];exact Nat.le_refl _),List.getElem_drop]
  congr 1
  omega
 rw[e1]
 unfold evJ
 rw[List.set_append_right _ _ (by rw[hl];exact Nat.le_refl _),hl,Nat.sub_self,List.drop_eq_getElem_cons h,List.set_cons_zero,List.take_succ_eq_append_getElem h,List.map_append,List.append_assoc]
 rfl
theorem qck (k:ByteArray)(l:List Ev):evJ k l l.length=l.map (q1I k):=by
 unfold evJ
 rw[List.take_length,List.drop_length,List.append_nil]
theorem qaD (k:ByteArray)(l:List Ev):evJ k l 0=l:=rfl
theorem OwnsX.key {B g n cap:Nat}{w:World}{k:ByteArray}{l:List Ev}{j:Nat}(h:OwnsX B w (.slice (some ⟨g,0,none⟩) n cap) (evJ k l j))(hn:n=l.length)(hj:j<l.length):OwnsX B (w.setCell ⟨g,j * 7,none⟩ (.string k)) (.slice (some ⟨g,0,none⟩) n cap) (evJ k l (j+1)):=by
 subst hn
 unfold OwnsX at *
 rw[q1R]at *
 rw[qaC k l j hj, <-q7q]
 exact qdc h (j * 7) (.string k)
def mtE (key:ByteArray)(x:Cp):List Value:=[.string key,x.v]
theorem q15 (key:ByteArray)(x:Cp):(mtE key x).length=2:=rfl
structure FdC where
 L:Nat
 D:Nat
 r:Loop
 kb:Nat
 rb:Nat
 eb:Nat
 ob:Nat
 key:ByteArray
structure FdT (c:FdC)(n0:Nat)(xs:List Cp)(w:World):Prop where
 lo:w.heap[c.L]?=some (.loop c.r)
 dm:w.heap[c.D]?=some (.deferred (some []))
 bk:CBox c.kb #[.string c.key] 9 w
 br:CBox c.rb #[.slice none 0 0] 34 w
 be:CBox c.eb #[.int .i64 0] 35 w
 ow: ∃v,CBox c.ob #[v] 34 w/\w.ownsRow n0 44 2 v xs.length (xs.flatMap (mtE c.key))
 ln:xs.length<=4096
 sz:n0<=w.heap.size
 ne:c.rb≠c.ob
structure FdF (c:FdC)(xs:List Cp)(w:World):Prop where
 lo:w.heap[c.L]?=some (.loop { c.r with state:= .done,pending:=some .ret })
 dm:w.heap[c.D]?=some (.deferred (some []))
 br:CBox c.rb #[.slice none 0 0] 34 w
 be:CBox c.eb #[.int .i64 140] 35 w
 ln:xs.length=4097
def FdJ (c:FdC)(n0:Nat)(go:Bool)(xs:List Cp)(w:World):Prop:=(go=true/\FdT c n0 xs w)\/(go=false/\FdF c xs w)
theorem q6i {w:World}{b:Nat}{o:Obj}(h:Ow w b)(ho:w.heap[b]?=some o):(∃es c,o= .map es c)\/ ∃cs t,o= .cells cs t (0,0)/\t∉fgT:=by
 rcases h with ⟨es,c,h⟩|⟨cs,t,h,h2⟩
 ·rw[ho]at h
  cases h
  exact Or.inl ⟨es,c,rfl⟩
 ·unfold CBox at h
  rw[ho]at h
  cases h
  exact Or.inr ⟨cs,t,rfl,h2⟩
theorem CBox.fg {F:List Nat}{w w':World}{b:Nat}{cs:Array Value}{t:TypeId}(h:CBox b cs t w)(hk:Kp F w w')(hF: ∀b∈F,Ow w b)(ht:t∈fgT):CBox b cs t w':=h.kp hk (fun hm=>by
 rcases q6i (hF b hm) h with ⟨_,_,e⟩|⟨_,_,e,hn⟩
 ·cases e
 ·cases e
  exact hn ht)
theorem q49 {F:List Nat}{w w':World}{b:Nat}{o:Obj}(h:w.heap[b]?=some o)(hk:Kp F w w')(hF: ∀b∈F,Ow w b)(ho: ∀cs t f,o≠ .cells cs t f)(hm: ∀es c,o≠ .map es c):w'.heap[b]?=some o:=
 (hk.block b (Array.getElem?_eq_some_iff.1 h).1 (fun hb=>by
  rcases q6i (hF b hb) h with ⟨es,c,e⟩|⟨cs,t,e,_⟩
  ·exact hm es c e
  ·exact ho cs t _ e)).trans h
theorem FdJ.keep {c:FdC}{n0:Nat}{go:Bool}{xs:List Cp}{w w':World}{F:List Nat}(h:FdJ c n0 go xs w)(hk:Kp F w w')(hF: ∀b∈F,Ow w b):FdJ c n0 go xs w':=by
 rcases h with ⟨rfl,h⟩|⟨rfl,h⟩
 ·refine Or.inl ⟨rfl,q49 h.lo hk hF (by simp) (by simp),q49 h.dm hk hF (by simp) (by simp),h.bk.fg hk hF (by decide),h.br.fg hk hF (by decide),h.be.fg hk hF (by decide),?_,h.ln,Nat.le_trans h.sz hk.size,h.ne⟩
  obtain ⟨v,hb,hr⟩:=h.ow
  refine ⟨v,hb.fg hk hF (by decide),q03 hr hk (fun g hg hm=>?_)⟩
  obtain ⟨cs,hc⟩:=q08 hr hg
  rcases q6i (hF g hm) hc with ⟨_,_,e⟩|⟨_,_,e,hn⟩
  ·cases e
  ·cases e
   exact hn (by decide)
 ·exact Or.inr ⟨rfl,q49 h.lo hk hF (by simp) (by simp),q49 h.dm hk hF (by simp) (by simp),h.br.fg hk hF (by decide),h.be.fg hk hF (by decide),h.ln⟩
theorem FdJ.len {c:FdC}{n0:Nat}{go:Bool}{xs:List Cp}{w:World}(h:FdJ c n0 go xs w):xs.length<=100000:=by
 rcases h with ⟨_,h⟩|⟨_,h⟩
 ·have:=h.ln;omega
 ·have:=h.ln;omega
theorem qcX:(Tryz.prog.info? 44).map (fun i=>(i.zero,i.size,i.bytes))=some (some (.agg #[.string ⟨#[]⟩, .slice none 0 0]),2,40):=by kernel_rfl
theorem FdT.push {c:FdC}{n0:Nat}{xs:List Cp}{w W:World}{x:Cp}(h:FdT c n0 xs w)(hk:Kp [c.L] w W)(hl:W.heap[c.L]?=some (.loop { c.r with state:= .busy })){g:Nat}(hg:CBox g #[.string c.key,x.v] 44 W)(hlt:xs.length<4096){v:Value}(hv:CBox c.ob #[v] 34 w):
  ∃g' cap w6,(Builtin.append_ #[34,34] 34 #[v, .slice (some ⟨g,0,none⟩) 1 1]).run Tryz.prog W= .ok (.slice (some ⟨g',0,none⟩) (xs.length+1) cap) w6/\CBox c.ob #[v] 34 w6/\CBox c.kb #[.string c.key] 9 w6/\
   (w6.setCell ⟨c.ob,0,none⟩ (.slice (some ⟨g',0,none⟩) (xs.length+1) cap)).heap[c.L]?=some (.loop { c.r with state:= .busy })/\
   Kp (c.L::c.ob::v.ownBlock.toList) w (w6.setCell ⟨c.ob,0,none⟩ (.slice (some ⟨g',0,none⟩) (xs.length+1) cap))/\(∀b∈v.ownBlock,Yw w b/\n0<=b)/\
   ∀w7,w7=(w6.setCell ⟨c.ob,0,none⟩ (.slice (some ⟨g',0,none⟩) (xs.length+1) cap)).putObj c.L (.loop { c.r with state:= .ready,pending:=none })->c.r.state= .ready->c.r.pending=none->FdT c n0 (xs++[x]) w7:=by
 obtain ⟨i0,hi,hz0,hz1,hz2⟩:=info_parts qcX
 obtain ⟨v',hv',hrow⟩:=h.ow
 have e:v'=v:=by
  unfold CBox at hv hv'
  rw[hv]at hv'
  cases hv'
  rfl
 subst e
 have hnl: ∀{b:Nat} {cs:Array Value} {t:TypeId},CBox b cs t w->b≠c.L:=fun hb e=>by
  subst e
  unfold CBox at hb
  rw[h.lo]at hb
  cases hb
 have hkv: ∀{b:Nat} {cs:Array Value} {t:TypeId},CBox b cs t w->CBox b cs t W:=fun hb=>hb.kp hk (by simpa using hnl hb)
 have hrW:=q03 hrow hk (fun b hb hm=>by
  obtain ⟨cs,hc⟩:=q08 hrow hb
  exact hnl hc (by simpa using hm))
 obtain ⟨g',cap,w6,hrun,r1,r2,r3,_⟩:=run_append_lies (P:=Tryz.prog) (w:=W) 34 34 n0 44 i0 _ 2 40 Tryz.underlying34 hi hz0 hz1 hz2 rfl (by decide) v' xs.length (xs.flatMap (mtE c.key)) hrW ⟨g,0,none⟩ 1 1 (mtE c.key x) rfl (fun j u hj=>by
  rw[Go.WideShapes.add_plain,Nat.zero_add]
  refine hg.cell ?_
  unfold mtE at hj
  simpa using hj) (fun u hu=>by
   unfold mtE Cp.v at hu
   simp only[List.mem_cons,List.not_mem_nil,or_false]at hu
   rcases hu with rfl|rfl <;> rfl) (by omega) (by unfold maxLen;omega) (by omega) (Nat.le_trans h.sz hk.size) _ rfl
 have k6:=Kp.of r2
 have ks:=Kp.set w6 c.ob 0 (.slice (some ⟨g',0,none⟩) (xs.length+1) cap)
 have hnr: ∀{b:Nat} {cs:Array Value} {t:TypeId},CBox b cs t w->t≠44->b∉v'.ownBlock.toList:=fun hb ht hm=>q0d hrow hb ht (by simpa using hm)
 have hno: ∀{b:Nat} {cs:Array Value} {t:TypeId},CBox b cs t w->t≠34->b≠c.ob:=fun hb ht=>q0q hb hv' ht
 have hb6: ∀{b:Nat} {cs:Array Value} {t:TypeId},CBox b cs t w->t≠44->CBox b cs t w6:=fun hb ht=>(hkv hb).kp k6 (hnr hb ht)
 have hlo: ∀{b:Nat} {o:Obj},W.heap[b]?=some o->(∀cs t f,o≠ .cells cs t f)->(w6.setCell ⟨c.ob,0,none⟩ (.slice (some ⟨g',0,none⟩) (xs.length+1) cap)).heap[b]?=some o:=fun {b o} hb ho=>by
  have h1:w6.heap[b]?=some o:=(k6.block b (Array.getElem?_eq_some_iff.1 hb).1 (fun hm=>by
   obtain ⟨cs,hc⟩:=q08 hrW (by simpa using hm)
   unfold CBox at hc
   rw[hb]at hc
   cases hc
   exact ho _ _ _ rfl)).trans hb
  refine (ks.block b (Array.getElem?_eq_some_iff.1 h1).1 (fun hm=>?_)).trans h1
  rw[List.mem_singleton]at hm
  have:=hb6 hv' (by decide)
  unfold CBox at this
  rw[<-hm,h1]at this
  cases this
  exact ho _ _ _ rfl
 have hdW:W.heap[c.D]?=some (.deferred (some [])):=(hk.block _ (Array.getElem?_eq_some_iff.1 h.dm).1 (fun hm=>by
  rw[List.mem_singleton]at hm
  have:=h.dm
  rw[hm,h.lo]at this
  cases this)).trans h.dm
 have hL7:=hlo hl (by simp)
 refine ⟨g',cap,w6,hrun,hb6 hv' (by decide),hb6 h.bk (by decide),hL7,((hk.mono (by simp)).trans k6 (fun b hb=>Or.inl (by simp[hb]))).trans ks (by simp),fun b hb=>?_,fun w7 e7 hst hpn=>?_⟩
 ·have hb:v'.ownBlock=some b:=by simpa using hb
  obtain ⟨cs,hc⟩:=q08 hrow hb
  exact ⟨Or.inr ⟨cs,_,hc,by simp⟩,(hrow.lt b hb).1⟩
 ·have kp:Kp [c.L] (w6.setCell ⟨c.ob,0,none⟩ (.slice (some ⟨g',0,none⟩) (xs.length+1) cap)) w7:=by
   rw[e7]
   exact ⟨rfl,rfl,rfl,by simp,fun k _ hn=>World.putObj_heap_other (by simpa using hn)⟩
  have c7: ∀{b:Nat} {cs:Array Value} {t:TypeId},CBox b cs t w->t≠44->b≠c.ob->CBox b cs t w7:=fun hb ht hn=>((hb6 hb ht).kp ks (by simpa using hn)).kp kp (by simpa using hnl hb)
  have hLr:({ c.r with state:= .ready,pending:=none }:Loop)=c.r:=by
   rw[<-hst, <-hpn]
  have hlt7:c.L<(w6.setCell ⟨c.ob,0,none⟩ (.slice (some ⟨g',0,none⟩) (xs.length+1) cap)).heap.size:=(Array.getElem?_eq_some_iff.1 hL7).1
  have ob7:=((hb6 hv' (by decide)).set 0 (.slice (some ⟨g',0,none⟩) (xs.length+1) cap)).kp kp (by simpa using hnl hv')
  have hne:=h.ne
  refine ⟨?_,?_,c7 h.bk (by decide) (hno h.bk (by decide)),c7 h.br (by decide) hne,c7 h.be (by decide) (hno h.be (by decide)),⟨_,ob7,?_⟩,by simp;omega,?_,hne⟩
  ·rw[e7,hLr]
   exact World.putObj_heap_same hlt7
  ·refine (kp.block _ (Array.getElem?_eq_some_iff.1 (hlo hdW (by simp))).1 (fun hm=>?_)).trans (hlo hdW (by simp))
   rw[List.mem_singleton]at hm
   have:=h.dm
   rw[hm,h.lo]at this
   cases this
  ·rw[List.length_append,List.flatMap_append]
   refine q03 (F:=[c.ob,c.L]) (W:=w6) ?_ ((ks.mono (by simp)).trans kp (by simp)) (fun b hb hm=>?_)
   ·simpa [mtE] using r1
   ·obtain ⟨cs,hc⟩:=q08 r1 hb
    rw[List.mem_cons,List.mem_singleton]at hm
    rcases hm with hm|hm
    ·exact q0q hc (hb6 hv' (by decide)) (by decide) hm
    ·subst hm
     have h1:w6.heap[c.L]?=some (.loop { c.r with state:= .busy }):=(k6.block c.L (Array.getElem?_eq_some_iff.1 hl).1 (fun hm=>by
      obtain ⟨cs,hc⟩:=q08 hrW (by simpa using hm)
      unfold CBox at hc
      rw[hl]at hc
      cases hc)).trans hl
     unfold CBox at hc
     rw[h1]at hc
     cases hc
  ·have h1:=h.sz
   have h2:=hk.size
   have h3:=k6.size
   have h4:=Nat.le_trans ks.size kp.size
   omega
end Go.Proofs.YtaklhcidojhnfaaGreatDoor
namespace Go.Proofs
open Go.Shelf
def Tryz.sortM_ren:Go.Shelf.Ren:=⟨fun|6=>15|15=>32|14=>31|28=>58|29=>59|20=>50|21=>51|22=>52|23=>53|24=>54|25=>55|26=>56|27=>57|46=>88|47=>89|48=>90|49=>91|50=>92|57=>117|n=>n,fun|22=>34|24=>44|25=>60|3=>3|39=>80|0=>0|53=>119|55=>121|4=>4|46=>112|45=>111|50=>116|5=>5|9=>9|66=>154|70=>158|76=>203|77=>204|n=>n,fun|n=>n⟩
theorem Tryz.sortM:Go.Proofs.SlLaysF0.n6 Tryz.prog Tryz.sortM_ren:={
 mixed:=by kernel_rfl
 f6:=⟨Tryz.f15.name,by decide,Tryz.func15.trans (congrArg some (by kernel_rfl))⟩
 f14:=⟨Tryz.f31.name,by decide,Tryz.func31.trans (congrArg some (by kernel_rfl))⟩
 f15:=Tryz.func32.trans (congrArg some (by kernel_rfl))
 f20:=⟨Tryz.f50.name,by decide,Tryz.func50.trans (congrArg some (by kernel_rfl))⟩
 f21:=⟨Tryz.f51.name,by decide,Tryz.func51.trans (congrArg some (by kernel_rfl))⟩
 f22:=⟨Tryz.f52.name,by decide,Tryz.func52.trans (congrArg some (by kernel_rfl))⟩
 f23:=⟨Tryz.f53.name,by decide,Tryz.func53.trans (congrArg some (by kernel_rfl))⟩
 f24:=⟨Tryz.f54.name,by decide,Tryz.func54.trans (congrArg some (by kernel_rfl))⟩
 f25:=⟨Tryz.f55.name,by decide,Tryz.func55.trans (congrArg some (by kernel_rfl))⟩
 f26:=⟨Tryz.f56.name,by decide,Tryz.func56.trans (congrArg some (by kernel_rfl))⟩
 f27:=⟨Tryz.f57.name,by decide,Tryz.func57.trans (congrArg some (by kernel_rfl))⟩
 f28:=Tryz.func58.trans (congrArg some (by kernel_rfl))
 f29:=Tryz.func59.trans (congrArg some (by kernel_rfl))
 f46:=⟨Tryz.f88.name,by decide,Tryz.func88.trans (congrArg some (by kernel_rfl))⟩
 f47:=Tryz.func89.trans (congrArg some (by kernel_rfl))
 f48:=Tryz.func90.trans (congrArg some (by kernel_rfl))
 f49:=⟨Tryz.f91.name,by decide,Tryz.func91.trans (congrArg some (by kernel_rfl))⟩
 f50:=⟨Tryz.f92.name,by decide,Tryz.func92.trans (congrArg some (by kernel_rfl))⟩
 f57:=⟨Tryz.f117.name,by decide,Tryz.func117.trans (congrArg some (by kernel_rfl))⟩
 t0:=Tryz.underlying0
 a0:=Tryz.isAgg0
 z0:=Tryz.sizeOf0
 v0:=Tryz.zeroValue0
 t3:=Tryz.underlying3
 a3:=Tryz.isAgg3
 z3:=Tryz.sizeOf3
 v3:=Tryz.zeroValue3
 t4:=Tryz.underlying4
 a4:=Tryz.isAgg4
 z4:=Tryz.sizeOf4
 v4:=Tryz.zeroValue4
 t5:=Tryz.underlying5
 a5:=Tryz.isAgg5
 z5:=Tryz.sizeOf5
 v5:=Tryz.zeroValue5
 t9:=Tryz.underlying9
 a9:=Tryz.isAgg9
 z9:=Tryz.sizeOf9
 v9:=Tryz.zeroValue9
 t22:=Tryz.underlying34
 a22:=Tryz.isAgg34
 z22:=Tryz.sizeOf34
 v22:=Tryz.zeroValue34
 t25:=Tryz.underlying60
 a25:=Tryz.isAgg60
 z25:=Tryz.sizeOf60
 v25:=Tryz.zeroValue60
 t39:=Tryz.underlying80
 a39:=Tryz.isAgg80
 z39:=Tryz.sizeOf80
 v39:=Tryz.zeroValue80
 t45:=Tryz.underlying111
 a45:=Tryz.isAgg111
 z45:=Tryz.sizeOf111
 v45:=Tryz.zeroValue111
 t46:=Tryz.underlying112
 a46:=Tryz.isAgg112
 z46:=Tryz.sizeOf112
 v46:=Tryz.zeroValue112
 t50:=Tryz.underlying116
 a50:=Tryz.isAgg116
 z50:=Tryz.sizeOf116
 v50:=Tryz.zeroValue116
 t53:=Tryz.underlying119
 a53:=Tryz.isAgg119
 z53:=Tryz.sizeOf119
 v53:=Tryz.zeroValue119
 t55:=Tryz.underlying121
 a55:=Tryz.isAgg121
 z55:=Tryz.sizeOf121
 v55:=Tryz.zeroValue121
 t66:=Tryz.underlying154
 a66:=Tryz.isAgg154
 z66:=Tryz.sizeOf154
 v66:=Tryz.zeroValue154
 t70:=Tryz.underlying158
 a70:=Tryz.isAgg158
 z70:=Tryz.sizeOf158
 v70:=Tryz.zeroValue158
 t76:=Tryz.underlying203
 a76:=Tryz.isAgg203
 z76:=Tryz.sizeOf203
 v76:=Tryz.zeroValue203
 t77:=Tryz.underlying204
 a77:=Tryz.isAgg204
 z77:=Tryz.sizeOf204
 v77:=Tryz.zeroValue204 }
end Go.Proofs
namespace Go.Proofs.YtaklhcidojhnfaaGreatDoor
section
open Go.RowKit Go.Shelf Go.Lib Go.Sort
theorem CpAt.stages {w:World}{x:Cp}(h:CpAt w x):StagesAt w (some ⟨x.g,0,none⟩) (Mt.toZ x.T):=fun _=>by
 refine ⟨x.g,0,rfl,h.lt x.g (by unfold Cp.B;simp),fun i hi=>?_⟩
 have hv:i<x.vs.length:=by rw[h.ins.1];exact hi
 have hr:=h.ins.2 i _ _ (List.getElem?_eq_getElem hv) (List.getElem?_eq_getElem hi)
 obtain ⟨a,c,e,hI⟩:=hr.at
 refine ⟨a,c,?_,hI⟩
 rw[Nat.zero_add, <-e]
 exact h.row.cell (by simp[hv])
section
variable {α:Type} [Inhabited α] (enc:α->List Value) (w:World) (g m:Nat) (d:Array α) (os:Array Obj)
theorem q7O:Kp [g] w (sortWorldK enc 2 w g 0 m d os):=by
 refine ⟨rfl,rfl,rfl,size_sortWorldK_c enc 2 w g 0 m d os,fun k hk hn=>?_⟩
 have hn:k≠g:=by simpa using hn
 show ((putRowK enc 2 (Sort.ahead w m) g 0 d).heap++os)[k]?=_
 rw[Array.getElem?_append_left (by unfold putRowK;rw[size_putRow];exact hk)]
 unfold putRowK putRow mapBlock
 rw[Array.getElem?_modify,if_neg (Ne.symm hn)]
 rfl
theorem q8E {cur:Array Value}{e:TypeId}(h:w.heap[g]?=some (.cells cur e (0,0))): ∃cur':Array Value,(sortWorldK enc 2 w g 0 m d os).heap[g]?=some (.cells cur' e (0,0))/\cur'.size=cur.size:=by
 have hlt:g<w.heap.size:=(Array.getElem?_eq_some_iff.1 h).1
 refine ⟨putCells id 0 (flatK enc 2 d) cur,?_,by simp[putCells]⟩
 show ((putRowK enc 2 (Sort.ahead w m) g 0 d).heap++os)[g]?=_
 rw[Array.getElem?_append_left (by unfold putRowK;rw[size_putRow];exact hlt)]
 unfold putRowK putRow mapBlock
 rw[Array.getElem?_modify,if_pos rfl,show (Sort.ahead w m).heap[g]?=w.heap[g]? from rfl,h]
 rfl
end
theorem q9U {w:World}{n0 g cap:Nat}{key:ByteArray}{ys:List Cp}(hrow:w.ownsRow n0 44 2 (.slice (some ⟨g,0,none⟩) ys.length cap) ys.length (ys.flatMap (mtE key))) [Inhabited (Fin ys.length)]:
  HoldsK (fun i:Fin ys.length=>mtE key ys[i]) 2 w g 0 (Array.ofFn fun i:Fin ys.length=>i):=by
 intro t ht
 rw[size_flatK,Array.size_ofFn]at ht
 rw[get_flatK _ _ _ _ (by rw[Array.size_ofFn];exact ht)]
 have hj:t / 2<ys.length:=by omega
 have hi:t % 2<2:=Nat.mod_lt _ (by omega)
 have hc:=q0o (enc:=mtE key) (sz:=2) (q15 key) hrow (t / 2) (t % 2) hj hi
 have e:t / 2 * 2+t % 2=t:=by omega
 rw[e]at hc
 obtain ⟨_,⟨e2,_⟩|⟨g',c',cur,e2,_,hb,_⟩⟩:=hrow
 ·cases e2
 ·cases e2
  have hget:(Array.ofFn fun i:Fin ys.length=>i)[t / 2]! =⟨t / 2,hj⟩:=by
   rw[getElem!_pos _ _ (by rw[Array.size_ofFn];exact hj),Array.getElem_ofFn]
  rw[hget,Nat.zero_add]
  refine ⟨?_,(show CBox g cur 44 w from hb).froz t⟩
  rw[hc]
  show (mtE key ys[t / 2])[t % 2]?=some ((mtE key ys[t / 2])[t % 2]!)
  have hl:t % 2<(mtE key ys[t / 2]).length:=by rw[q15];exact hi
  rw[List.getElem?_eq_getElem hl,getElem!_pos (mtE key ys[t / 2]) (t % 2) hl]
theorem q8F {w:World}{n0 g cap:Nat}{key:ByteArray}{ys:List Cp}(hrow:w.ownsRow n0 44 2 (.slice (some ⟨g,0,none⟩) ys.length cap) ys.length (ys.flatMap (mtE key)))(hcp: ∀x∈ys,CpAt w x)(hmay: ∀x∈ys,mayM key (Mt.toZ x.T)=true)(hok: ∀x∈ys,MtOk key (Mt.toZ x.T))(hnd:(ys.map (·.T)).Nodup)(hpos:0<ys.length)(hlen:ys.length<=4096):
  Calls Tryz.prog 15 #[.slice (some ⟨g,0,none⟩) ys.length cap, .func (.func 16) #[] #[]] w fun e w'=>e= .returned (.tuple #[])/\Kp [g] w w'/\ ∃zs:List Cp,zs.Perm ys/\Srt (zs.map (·.T))/\w'.ownsRow n0 44 2 (.slice (some ⟨g,0,none⟩) ys.length cap) ys.length (zs.flatMap (mtE key)):=by
 letI:Inhabited (Fin ys.length):=⟨⟨0,hpos⟩⟩
 have hH:=q9U hrow
 have hds:(Array.ofFn fun i:Fin ys.length=>i).size=ys.length:=Array.size_ofFn
 obtain ⟨hrl,⟨e2,_⟩|⟨g',c',cur,e2,hn0,hb,hnc,hcm,hcs,htk⟩⟩:=hrow
 ·cases e2
 cases e2
 have hblk:g<w.heap.size:=(Array.getElem?_eq_some_iff.1 hb).1
 have hpre:Pre fun i j:Fin ys.length=>cT ys[i].T ys[j].T:=cT_pre.on fun i:Fin ys.length=>ys[i].T
 have eg: ∀args w,(callFunc 16 args).run Tryz.prog w= .ok (.enter 16 args) w:=enters_of Tryz.func16 (by kernel_rfl) rfl
 have hcmp:CmpLays Tryz.prog 16 #[] (fun i:Fin ys.length=>mtE key ys[i]) 2 (fun i j:Fin ys.length=>cT ys[i].T ys[j].T) g 0 (Array.ofFn fun i:Fin ys.length=>i).size w:=by
  intro m os dk _ x y
  have hk:=q7O (fun i:Fin ys.length=>mtE key ys[i]) w g m dk os
  have st: ∀z∈ys, ∀W,Kp [] (sortWorldK (fun i:Fin ys.length=>mtE key ys[i]) 2 w g 0 m dk os) W->StagesAt W (some ⟨z.g,0,none⟩) (Mt.toZ z.T):=fun z hz W hW=>by
   refine (((hcp z hz).kp hk (fun b hb2 hm=>?_)).kp hW (by simp)).stages
   rw[List.mem_singleton]at hm
   subst hm
   obtain ⟨cs,t,h1,h2⟩:=q29 (hcp z hz) hb2
   unfold CBox at h1
   rw[hb]at h1
   cases h1
   revert h2
   decide
  have hx:ys[x]∈ys:=List.getElem_mem _
  have hy:ys[y]∈ys:=List.getElem_mem _
  have hc:=q5T key (some ⟨ys[x].g,0,none⟩) ys[x].T.length (Mt.toZ ys[x].T) key (some ⟨ys[y].g,0,none⟩) ys[y].T.length (Mt.toZ ys[y].T) _ (hok _ hx) (hok _ hy) (st _ hx) (st _ hy)
  rw[q1V,q1V]at hc
  have hv:cmpV key (Mt.toZ ys[x].T) key (Mt.toZ ys[y].T)=cT ys[x].T ys[y].T:=by
   unfold cmpV
   rw[if_pos ⟨hmay _ hx,hmay _ hy⟩,qdD]
   rfl
  rw[hv]at hc
  exact hc.mono fun e w' h=>⟨h.1,h.2.2⟩
 have hcon:=AnyQ.slices_SortFunc Tryz.sortM 2 (by intro w;kernel_rfl) (by intro w;kernel_rfl) (fun i:Fin ys.length=>mtE key ys[i]) (fun _=>rfl) (fun x v hv=>by
  unfold mtE Cp.v at hv
  simp only[List.mem_cons,List.not_mem_nil,or_false]at hv
  rcases hv with rfl|rfl <;> rfl) (fun i j:Fin ys.length=>cT ys[i].T ys[j].T) (qdt hpre) 16 #[] g 0 cap (Array.ofFn fun i:Fin ys.length=>i) w eg hcmp hH hblk (by rw[hds];omega)
 rw[hds]at hcon
 refine Calls.mono (show Calls Tryz.prog 15 #[.slice (some ⟨g,0,none⟩) ys.length cap, .func (.func 16) #[] #[]] w _ from hcon) ?_
 rintro e w' ⟨rfl,d',n,os,hperm,hsort,rfl⟩
 have hd's:d'.size=ys.length:=by rw[hperm.1,hds]
 have hpl:d'.toList.Perm (Array.ofFn fun i:Fin ys.length=>i).toList:=by
  have:=hperm.2.2
  rw[Array.extract_eq_self_of_le (by rw[hd's];exact Nat.le_refl _),Array.extract_eq_self_of_le (by rw[hds];exact Nat.le_refl _)]at this
  exact this
 have hmapd:(Array.ofFn fun i:Fin ys.length=>i).toList.map (fun i:Fin ys.length=>ys[i])=ys:=by
  apply List.ext_getElem
  ·rw[List.length_map,Array.length_toList,hds]
  ·intro k h1 h2
   rw[List.getElem_map,Array.getElem_toList,Array.getElem_ofFn]
   rfl
 have hzp:(d'.toList.map fun i:Fin ys.length=>ys[i]).Perm ys:=by
  have:=hpl.map (fun i:Fin ys.length=>ys[i])
  rw[hmapd]at this
  exact this
 have hzl:(d'.toList.map fun i:Fin ys.length=>ys[i]).length=ys.length:=hzp.length_eq
 refine ⟨rfl,q7O _ w g n d' os,d'.toList.map (fun i:Fin ys.length=>ys[i]),hzp,?_,?_⟩
 ·have hnd2:((d'.toList.map fun i:Fin ys.length=>ys[i]).map (·.T)).Nodup:=(hzp.map (·.T)).nodup_iff.2 hnd
  unfold Srt
  rw[List.pairwise_iff_getElem]
  intro i j hi hj hij
  have hi':i<d'.size:=by simpa using hi
  have hj':j<d'.size:=by simpa using hj
  have hs:=hsort i j (Nat.zero_le _) hij (by omega)
  rw[getElem!_pos d' j hj',getElem!_pos d' i hi']at hs
  unfold ltOf at hs
  rw[decide_eq_false_iff_not]at hs
  have hs: ¬ cT ys[d'[j]].T ys[d'[i]].T<0:=hs
  have ha:=cT_pre.anti ys[d'[i]].T ys[d'[j]].T
  have hne:cT ys[d'[i]].T ys[d'[j]].T≠0:=fun e=>by
   have e:=(q4w _ _).1 e
   have h1:((d'.toList.map fun i:Fin ys.length=>ys[i]).map (·.T))[i]=((d'.toList.map fun i:Fin ys.length=>ys[i]).map (·.T))[j]:=by simpa using e
   have:=(List.getElem_inj hnd2).1 h1
   omega
  have e1:((d'.toList.map fun i:Fin ys.length=>ys[i]).map (·.T))[i]=ys[d'[i]].T:=by simp
  have e2:((d'.toList.map fun i:Fin ys.length=>ys[i]).map (·.T))[j]=ys[d'[j]].T:=by simp
  rw[e1,e2]
  omega
 ·obtain ⟨cur',hb',hs'⟩:=q8E (fun i:Fin ys.length=>mtE key ys[i]) w g n d' os hb
  have hH':=holdsK_sortWorldK_c (fun i:Fin ys.length=>mtE key ys[i]) 2 w g 0 _ d' n os hH hblk (by rw[hd's,hds])
  have hfl:=q0N (mtE key) 2 (q15 key) (d'.toList.map fun i:Fin ys.length=>ys[i])
  rw[hzl]at hfl
  refine ⟨hfl,Or.inr ⟨g,cap,cur',rfl,hn0,hb',hnc,hcm,by rw[hs',hcs],?_⟩⟩
  apply List.ext_getElem?
  intro t
  by_cases ht:t<ys.length * 2
  ·rw[List.getElem?_take,if_pos ht]
   have hj:t / 2<ys.length:=by omega
   have hi:t % 2<2:=Nat.mod_lt _ (by omega)
   have e:t / 2 * 2+t % 2=t:=by omega
   have hfa:=q1S (mtE key) 2 (q15 key) (d'.toList.map fun i:Fin ys.length=>ys[i]) (t / 2) (t % 2) (by rw[hzl];exact hj) hi
   rw[e]at hfa
   rw[hfa]
   have hc:=(hH'.cell (i:=t / 2) (c:=t % 2) (by rw[hd's];exact hj) hi).1
   rw[Nat.zero_add,e]at hc
   have hcur:cur'[t]?=some ((mtE key ys[d'[t / 2]!])[t % 2]!):=by
    refine Eq.trans ?_ hc
    unfold World.cell?
    dsimp only
    rw[hb']
    simp
   rw[Array.getElem?_toList,hcur]
   have hl:t % 2<(mtE key ys[d'[t / 2]!]).length:=by rw[q15];exact hi
   rw[getElem!_pos (mtE key ys[d'[t / 2]!]) (t % 2) hl, <-List.getElem?_eq_getElem hl]
   have hq:d'[t / 2]! =d'[t / 2]'(by omega):=getElem!_pos _ _ (by omega)
   have hq2:ys[d'[t / 2]!]=(d'.toList.map fun i:Fin ys.length=>ys[i])[t / 2]'(by rw[hzl];exact hj):=by
    rw[List.getElem_map,Array.getElem_toList]
    exact congrArg (fun i:Fin ys.length=>ys[i]) hq
   exact congrArg (fun x=>(mtE key x)[t % 2]?) hq2
  ·rw[List.getElem?_take,if_neg ht,List.getElem?_eq_none (by rw[hfl];omega)]
theorem qbB {w:World}{n0:Nat}{v:Value}{key:ByteArray}{ys:List Cp}(hrow:w.ownsRow n0 44 2 v ys.length (ys.flatMap (mtE key)))(hcp: ∀x∈ys,CpAt w x)(hmay: ∀x∈ys,mayM key (Mt.toZ x.T)=true)(hok: ∀x∈ys,MtOk key (Mt.toZ x.T))(hnd:(ys.map (·.T)).Nodup)(hlen:ys.length<=4096):
  Calls Tryz.prog 15 #[v, .func (.func 16) #[] #[]] w fun e w'=>e= .returned (.tuple #[])/\Kp v.ownBlock.toList w w'/\ ∃zs:List Cp,zs.Perm ys/\Srt (zs.map (·.T))/\w'.ownsRow n0 44 2 v ys.length (zs.flatMap (mtE key)):=by
 rcases Nat.eq_zero_or_pos ys.length with h0|hpos
 ·obtain rfl:=List.eq_nil_of_length_eq_zero h0
  obtain ⟨a,c,rfl⟩: ∃a c,v= .slice a 0 c:=by
   obtain ⟨_,⟨e,_⟩|⟨g,c,cur,e,_⟩⟩:=hrow
   ·exact ⟨_,_,e⟩
   ·exact ⟨_,_,e⟩
  have hn:=AnyF.slices_SortFunc_none Tryz.sortM a c (.func (.func 16) #[] #[]) w
  refine Calls.mono (show Calls Tryz.prog 15 #[.slice a 0 c, .func (.func 16) #[] #[]] w _ from hn) ?_
  rintro e w' ⟨rfl,rfl⟩
  exact ⟨rfl,Kp.refl _ _,[],List.Perm.refl _,List.Pairwise.nil,hrow⟩
 ·obtain ⟨g,c,rfl⟩: ∃g c,v= .slice (some ⟨g,0,none⟩) ys.length c:=by
   obtain ⟨_,⟨_,e⟩|⟨g,c,cur,e,_⟩⟩:=hrow
   ·omega
   ·exact ⟨_,_,e⟩
  refine (q8F hrow hcp hmay hok hnd hpos hlen).mono ?_
  rintro e w' ⟨h1,h2,h3⟩
  exact ⟨h1,h2.mono (by simp[Value.ownBlock]),h3⟩
end
open Go.RowKit Go.Shelf
attribute [local go_sem] Oper.semAt_some
theorem q7E {W:World}{g:Nat}{v:Value}(h:CBox g #[v] 34 W):(loadVar 34 ⟨g,0,none⟩).run Tryz.prog W= .ok v W:=by
 have c:=h.cell (i:=0) (v:=v) rfl
 go_simp
theorem q7D {W:World}{g:Nat}{v:Value}(h:CBox g #[v] 35 W):(loadVar 35 ⟨g,0,none⟩).run Tryz.prog W= .ok v W:=by
 have c:=h.cell (i:=0) (v:=v) rfl
 go_simp
theorem q3C {P:Program}{fn:Func}{p u:Tmp}{ty ty2:TypeId}(h:fn.results=#[.cell p ty, .cell u ty2])(tmps:Array Value)(w:World)(g g2:Nat)(v v2:Value)
  (hp:tmps.getD p undef= .pointer (some ⟨g,0,none⟩)) (h1:(loadVar ty ⟨g,0,none⟩).run P w= .ok v w) (hp2:tmps.getD u undef= .pointer (some ⟨g2,0,none⟩)) (h2:(loadVar ty2 ⟨g2,0,none⟩).run P w= .ok v2 w):
  (results fn tmps).run P w= .ok (.tuple #[v,v2]) w:=by
 have hp':tmps[p]?.getD undef= .pointer (some ⟨g,0,none⟩):=by simpa using hp
 have hp2':tmps[u]?.getD undef= .pointer (some ⟨g2,0,none⟩):=by simpa using hp2
 simp[results,h,hp',hp2',asAddr,h1,h2,Sem.run_bind,Result.andThen]
theorem qcs {n:Nat}{fn:Func}{R:Ending->World->Prop}{tmps:Array Value}{W:World}{b1 b2:Nat}{v v2:Value}(h:fn.results=#[.cell 6 34, .cell 7 35])
  (h6:tmps.getD 6 undef= .pointer (some ⟨b1,0,none⟩)) (h7:tmps.getD 7 undef= .pointer (some ⟨b2,0,none⟩)) (c1:CBox b1 #[v] 34 W) (c2:CBox b2 #[v2] 35 W) (hR:R (.returned (.tuple #[v,v2])) W):
  bodyPostM Fence.wide n Tryz.prog fn R .ret { tmps:=tmps,defers:=[] } W:=
 ⟨_,q3C h tmps W b1 b2 v v2 h6 (q7E c1) h7 (q7D c2),hR⟩
theorem q7t {n:Nat}{fn:Func}{R:Ending->World->Prop}{tmps:Array Value}{W:World}{D b1 b2:Nat}{v v2:Value}(h:fn.results=#[.cell 6 34, .cell 7 35])
  (h6:tmps.getD 6 undef= .pointer (some ⟨b1,0,none⟩)) (h7:tmps.getD 7 undef= .pointer (some ⟨b2,0,none⟩)) (hK:W.heap[D]?=some (.deferred (some []))) (c1:CBox b1 #[v] 34 W) (c2:CBox b2 #[v2] 35 W) (hR:R (.returned (.tuple #[v,v2])) (W.putObj D (.deferred none))):
  bodyPostM Fence.wide n Tryz.prog fn R .ret { tmps:=tmps,defers:=[{ target:= .collected D,args:=#[] }] } W:=by
 refine ⟨by simp, .inl ⟨_,_,rfl,run_takeDeferred hK,?_⟩⟩
 have k1:=c1.putObj (o':= .deferred none) hK rfl
 have k2:=c2.putObj (o':= .deferred none) hK rfl
 exact ⟨_,q3C h tmps _ b1 b2 v v2 h6 (q7E k1) h7 (q7D k2),hR⟩
def fiE (p:Ptn)(key:ByteArray)(es:List Ev):Int:=if mckE p es=0 then (if arE key es=true then (if 4096<(fdS (Mt.pm p es) p.wi.toNat).length then 140 else 0) else 20) else mckE p es
def fiL (p:Ptn)(key:ByteArray)(es:List Ev):List (List (List Nat)):=if fiE p key es=0 then fdS (Mt.pm p es) p.wi.toNat else []
structure FdP (w:World)(key:ByteArray)(L:List (List (List Nat)))(v:Value)(zs:List Cp)(w':World):Prop where
 kp:Kp [] w w'
 ts:zs.map (·.T)=L
 cp: ∀x∈zs,CpAt w' x
 row:w'.ownsRow w.heap.size 44 2 v zs.length (zs.flatMap (mtE key))
theorem FdP.none {w w':World}(key:ByteArray)(h:Kp [] w w'):FdP w key [] (.slice none 0 0) [] w':=⟨h,rfl,by simp,World.ownsRow_nil _ _ _ _⟩
theorem q3D {key:ByteArray}{es:List Ev}(h:arE key es=true):q0r key=true:=by
 unfold arE at h
 split at h
 ·rename_i h0
  unfold chkE mayE at h0
  revert h0
  cases q0r key <;> simp
 ·cases h
theorem q2g {w:World}{B e sz n:Nat}{v:Value}{xs:List Value}(h:w.ownsRow B e sz v n xs): ∃a c,v= .slice a n c/\(0<n-> ∃g,a=some ⟨g,0,none⟩):=by
 obtain ⟨_,⟨e,h0⟩|⟨g,c,cur,e,_⟩⟩:=h
 ·exact ⟨none,0,by rw[e,h0],fun h=>by omega⟩
 ·exact ⟨_,c,e,fun _=>⟨g,rfl⟩⟩
theorem q5L {n:Nat}{fn:Func}{tmps:Array Value}{w W3:World}{b1 b2:Nat}{key:ByteArray}{E FE:Int}{FL:List (List (List Nat))}(h:fn.results=#[.cell 6 34, .cell 7 35])
  (h6:tmps.getD 6 undef= .pointer (some ⟨b1,0,none⟩)) (h7:tmps.getD 7 undef= .pointer (some ⟨b2,0,none⟩)) (c1:CBox b1 #[.slice none 0 0] 34 W3) (c2:CBox b2 #[.int .i64 0] 35 W3) (hk:Kp [] w W3) (hb1:w.heap.size<=b1) (hb2:w.heap.size<=b2) (hE:FE=E) (hL:FL=[]):
  bodyPostM Fence.wide n Tryz.prog fn (fun e w'=> ∃v zs,e= .returned (.tuple #[v, .int .i64 FE])/\FdP w key FL v zs w') .ret { tmps:=tmps,defers:=[] } ((W3.setCell ⟨b1,0,none⟩ (.slice none 0 0)).setCell ⟨b2,0,none⟩ (.int .i64 E)):=by
 subst hE hL
 have hne:b1≠b2:=q0q c1 c2 (by decide)
 have k1:=Kp.set W3 b1 0 (.slice none 0 0)
 have k2:=Kp.set (W3.setCell ⟨b1,0,none⟩ (.slice none 0 0)) b2 0 (.int .i64 FE)
 have d1:CBox b1 #[.slice none 0 0] 34 (W3.setCell ⟨b1,0,none⟩ (.slice none 0 0)):=c1.set 0 (.slice none 0 0)
 have d2:CBox b2 #[.int .i64 FE] 35 ((W3.setCell ⟨b1,0,none⟩ (.slice none 0 0)).setCell ⟨b2,0,none⟩ (.int .i64 FE)):=(c2.kp k1 (by simpa using hne.symm)).set 0 (.int .i64 FE)
 refine qcs h h6 h7 (d1.kp k2 (by simpa using hne)) d2 ⟨_,[],rfl,FdP.none key ((hk.trans k1 (fun x hx=>Or.inr ?_)).trans k2 (fun x hx=>Or.inr ?_))⟩
 ·rw[List.mem_singleton]at hx;omega
 ·rw[List.mem_singleton]at hx;omega
theorem q2q: ∀(x a:Int) (ss:List (List Int)),q0y x a ss=true-> ∀p∈ss,(p.length:Int)<=x
 |_,_,[],_,p,hp=>by cases hp
 |x,a,q::r,h,p,hp=>by
  rw[q0y]at h
  split at h
  ·cases h
  ·rename_i hn
   have h2: ¬ x<(q.length:Int):=fun h=>hn (Or.inr (Or.inl h))
   rcases List.mem_cons.1 hp with rfl|hp
   ·omega
   ·have:=q2q _ _ r h p hp
    omega
theorem q9D (w:World)(o:Obj){b:Nat}{p:Obj}(h:w.heap[b]?=some p):(w.alloc o).heap[b]?=some p:=(Below.heap_alloc _ _ _ (Array.getElem?_eq_some_iff.1 h).1).trans h
theorem qaG {w W1 w3 w5:World}{key:ByteArray}{r:Loop}{ps es:Obj}(b1:CBox (w.heap.size+1) #[.string key] 9 W1)(b2:CBox (w.heap.size+1+1) #[.slice none 0 0] 34 W1)(b3:CBox (w.heap.size+1+1+1) #[.int .i64 0] 35 W1)(hz:W1.heap.size=w.heap.size+1+1+1+1)(hk:Kp [] W1 w3)
  (h5:w5=((w3.alloc (.cells #[.slice none 0 0] 34)).alloc ps).alloc es) {w0:World} (h0:Kp [] ((w5.alloc (.deferred (some []))).alloc (.loop r)) w0):
  FdT ⟨w5.heap.size+1,w5.heap.size,r,w.heap.size+1,w.heap.size+1+1,w.heap.size+1+1+1,w3.heap.size,key⟩ w0.heap.size [] w0:=by
 have k5:Kp [] w3 w5:=by rw[h5];exact ((Kp.alloc _ _).trans (Kp.alloc _ _) (by simp)).trans (Kp.alloc _ _) (by simp)
 have kL:Kp [] w5 ((w5.alloc (.deferred (some []))).alloc (.loop r)):=(Kp.alloc _ _).trans (Kp.alloc _ _) (by simp)
 have kW:Kp [] W1 w0:=((hk.trans k5 (by simp)).trans kL (by simp)).trans h0 (by simp)
 have ob:CBox w3.heap.size #[.slice none 0 0] 34 w5:=by
  rw[h5]
  exact (CBox.new w3 _ _).kp ((Kp.alloc _ _).trans (Kp.alloc _ _) (by simp)) (by simp)
 have hD:(w5.alloc (.deferred (some []))).heap[w5.heap.size]?=some (.deferred (some [])):=heap_alloc_new _ _
 have hL:((w5.alloc (.deferred (some []))).alloc (.loop r)).heap[w5.heap.size+1]?=some (.loop r):=by
  have:=heap_alloc_new (w5.alloc (.deferred (some []))) (.loop r)
  simpa using this
 have hD2:=q9D _ (.loop r) hD
 have s3:=hk.size
 refine ⟨(h0.block _ (Array.getElem?_eq_some_iff.1 hL).1 (by simp)).trans hL,(h0.block _ (Array.getElem?_eq_some_iff.1 hD2).1 (by simp)).trans hD2,b1.kp kW (by simp),b2.kp kW (by simp),b3.kp kW (by simp),⟨_,ob.kp (kL.trans h0 (by simp)) (by simp),World.ownsRow_nil _ _ _ _⟩,by simp,Nat.le_refl _,by show w.heap.size+1+1≠w3.heap.size;omega⟩
theorem FdT.stop {c:FdC}{n0:Nat}{xs:List Cp}{w W:World}(h:FdT c n0 xs w)(hlen:xs.length=4096)(x:Cp)(hW:W=((w.putObj c.L (.loop { c.r with state:= .busy })).setCell ⟨c.rb,0,none⟩ (.slice none 0 0)).setCell ⟨c.eb,0,none⟩ (.int .i64 140)):
  W.heap[c.L]?=some (.loop { c.r with state:= .busy })/\Kp [c.L,c.rb,c.eb] w (W.putObj c.L (.loop { c.r with state:= .done,pending:=some .ret }))/\FdF c (xs++[x]) (W.putObj c.L (.loop { c.r with state:= .done,pending:=some .ret })):=by
 have hnl: ∀{b:Nat} {cs:Array Value} {t:TypeId},CBox b cs t w->b≠c.L:=fun hb e=>by
  subst e
  unfold CBox at hb
  rw[h.lo]at hb
  cases hb
 have kp: ∀(V:World) (o:Obj),Kp [c.L] V (V.putObj c.L o):=fun V o=>⟨rfl,rfl,rfl,by simp,fun k _ hn=>World.putObj_heap_other (by simpa using hn)⟩
 have hlt:c.L<w.heap.size:=(Array.getElem?_eq_some_iff.1 h.lo).1
 have k1:=kp w (.loop { c.r with state:= .busy })
 have k2:=Kp.set (w.putObj c.L (.loop { c.r with state:= .busy })) c.rb 0 (.slice none 0 0)
 have k3:=Kp.set ((w.putObj c.L (.loop { c.r with state:= .busy })).setCell ⟨c.rb,0,none⟩ (.slice none 0 0)) c.eb 0 (.int .i64 140)
 rw[<-hW]at k3
 have hre:c.rb≠c.eb:=q0q h.br h.be (by decide)
 have hL1:(w.putObj c.L (.loop { c.r with state:= .busy })).heap[c.L]?=some (.loop { c.r with state:= .busy }):=World.putObj_heap_same hlt
 have hL2:=(k2.block c.L (Array.getElem?_eq_some_iff.1 hL1).1 (by simpa using (hnl h.br).symm)).trans hL1
 have hL3:=(k3.block c.L (Array.getElem?_eq_some_iff.1 hL2).1 (by simpa using (hnl h.be).symm)).trans hL2
 have k4:=kp W (.loop { c.r with state:= .done,pending:=some .ret })
 have kA:Kp [c.L,c.rb,c.eb] w (W.putObj c.L (.loop { c.r with state:= .done,pending:=some .ret })):=(((k1.mono (by simp)).trans k2 (by simp)).trans k3 (by simp)).trans k4 (by simp)
 have r1:=h.br.kp k1 (by simpa using hnl h.br)
 have r2:CBox c.rb #[.slice none 0 0] 34 ((w.putObj c.L (.loop { c.r with state:= .busy })).setCell ⟨c.rb,0,none⟩ (.slice none 0 0)):=r1.set 0 (.slice none 0 0)
 have r3:=r2.kp k3 (by simpa using hre)
 have e2:=(h.be.kp k1 (by simpa using hnl h.be)).kp k2 (by simpa using hre.symm)
 have e3:CBox c.eb #[.int .i64 140] 35 W:=by
  rw[hW]
  exact e2.set 0 (.int .i64 140)
 refine ⟨hL3,kA,⟨World.putObj_heap_same (Array.getElem?_eq_some_iff.1 hL3).1,?_,r3.kp k4 (by simpa using hnl h.br),e3.kp k4 (by simpa using hnl h.be),by simp[hlen]⟩⟩
 refine (kA.block _ (Array.getElem?_eq_some_iff.1 h.dm).1 (fun hm=>?_)).trans h.dm
 have hd:=h.dm
 simp only[List.mem_cons,List.not_mem_nil,or_false]at hm
 rcases hm with hm|hm|hm
 ·rw[hm,h.lo]at hd
  cases hd
 ·have:=h.br
  unfold CBox at this
  rw[hm,this]at hd
  cases hd
 ·have:=h.be
  unfold CBox at this
  rw[hm,this]at hd
  cases hd
theorem q5M {c:FdC}{n0:Nat}{ys:List Cp}{W' V:World}{o:Obj}{v:Value}(hT:FdT c n0 ys W')(hV:V=W'.putObj c.L o)(hrow:W'.ownsRow n0 44 2 v ys.length (ys.flatMap (mtE c.key))){b:Nat}{cs:Array Value}{t:TypeId}(hb:CBox b cs t W')(ht:t≠44):CBox b cs t V/\ ∀w8,Kp v.ownBlock.toList V w8->CBox b cs t w8:=by
 have h1:CBox b cs t V:=by rw[hV];exact hb.putObj hT.lo rfl
 exact ⟨h1,fun w8 hk=>h1.kp hk (fun hm=>q0d hrow hb ht (by simpa using hm))⟩
theorem q1i (W:World)(L:Nat)(o:Obj):Kp [L] W (W.putObj L o):=⟨rfl,rfl,rfl,by simp,fun k _ hn=>World.putObj_heap_other (by simpa using hn)⟩
theorem q3r {w:World}{x:Cp}(h:CpAt w x){b:Nat}(hb:b∈x.B){o:Obj}(ho:w.heap[b]?=some o): ∃cs t,o= .cells cs t (0,0)/\t∈[40,3]:=by
 obtain ⟨cs,t,h1,h2⟩:=q29 h hb
 unfold CBox at h1
 rw[ho]at h1
 cases h1
 exact ⟨cs,t,rfl,h2⟩
theorem qcq {n:Nat}{fn:Func}{tmps:Array Value}{w W W' V w8:World}{c:FdC}{n0:Nat}{ys zs:List Cp}{v:Value}{o:Obj}{FE:Int}{FL:List (List (List Nat))}(h:fn.results=#[.cell 6 34, .cell 7 35])
  (h6:tmps.getD 6 undef= .pointer (some ⟨c.rb,0,none⟩)) (h7:tmps.getD 7 undef= .pointer (some ⟨c.eb,0,none⟩)) (hT:FdT c n0 ys W') (kW:Kp [] w W) (kF:Kp [c.L,c.rb,c.eb,c.ob] W W') (g1:w.heap.size<=c.L/\w.heap.size<=c.rb/\w.heap.size<=c.eb/\w.heap.size<=c.ob/\w.heap.size<=c.D) (hn0:w.heap.size<=n0)
  (hV:V=W'.putObj c.L o) (hk8:Kp v.ownBlock.toList V w8) (_hob:CBox c.ob #[v] 34 W') (hrow:W'.ownsRow n0 44 2 v ys.length (ys.flatMap (mtE c.key))) (hcp: ∀x∈ys,CpAt W' x) (hperm:zs.Perm ys) (hrow8:w8.ownsRow n0 44 2 v ys.length (zs.flatMap (mtE c.key))) (hts:zs.map (·.T)=FL) (hE:FE=0):
  bodyPostM Fence.wide n Tryz.prog fn (fun e w'=> ∃v zs,e= .returned (.tuple #[v, .int .i64 FE])/\FdP w c.key FL v zs w') .ret { tmps:=tmps,defers:=[{ target:= .collected c.D,args:=#[] }] } ((w8.setCell ⟨c.rb,0,none⟩ v).setCell ⟨c.eb,0,none⟩ (.int .i64 0)):=by
 subst hE hts
 obtain ⟨gL,gr,ge,go,gD⟩:=g1
 have r8:=(q5M hT hV hrow hT.br (by decide)).2 w8 hk8
 have e8:=(q5M hT hV hrow hT.be (by decide)).2 w8 hk8
 have hre:c.rb≠c.eb:=q0q hT.br hT.be (by decide)
 have k1:=Kp.set w8 c.rb 0 v
 have k2:=Kp.set (w8.setCell ⟨c.rb,0,none⟩ v) c.eb 0 (.int .i64 0)
 have r9:CBox c.rb #[v] 34 (w8.setCell ⟨c.rb,0,none⟩ v):=r8.set 0 v
 have r10:=r9.kp k2 (by simpa using hre)
 have e10:CBox c.eb #[.int .i64 0] 35 ((w8.setCell ⟨c.rb,0,none⟩ v).setCell ⟨c.eb,0,none⟩ (.int .i64 0)):=(e8.kp k1 (by simpa using hre.symm)).set 0 (.int .i64 0)
 have kV:Kp [c.L] W' V:=by rw[hV];exact q1i _ _ _
 have hDL:c.D≠c.L:=fun e=>by
  have:=hT.dm
  rw[e,hT.lo]at this
  cases this
 have hD8:w8.heap[c.D]?=some (.deferred (some [])):=by
  have hDV:=(kV.block _ (Array.getElem?_eq_some_iff.1 hT.dm).1 (by simpa using hDL)).trans hT.dm
  refine (hk8.block _ (Array.getElem?_eq_some_iff.1 hDV).1 (fun hm=>?_)).trans hDV
  obtain ⟨cs,hc⟩:=q08 hrow (by simpa using hm)
  unfold CBox at hc
  rw[hT.dm]at hc
  cases hc
 have nb: ∀{b:Nat} {cs:Array Value} {t:TypeId},CBox b cs t w8->c.D≠b:=fun hb e=>by
  subst e
  unfold CBox at hb
  rw[hD8]at hb
  cases hb
 have hD9:=(k1.block _ (Array.getElem?_eq_some_iff.1 hD8).1 (by simpa using nb r8)).trans hD8
 have hD10:=(k2.block _ (Array.getElem?_eq_some_iff.1 hD9).1 (by simpa using nb e8)).trans hD9
 have k3:=q1i ((w8.setCell ⟨c.rb,0,none⟩ v).setCell ⟨c.eb,0,none⟩ (.int .i64 0)) c.D (.deferred none)
 have own: ∀b∈v.ownBlock.toList,w.heap.size<=b:=fun b hb=>by
  have:=(hrow.lt b (by simpa using hb)).1
  omega
 have K1:Kp [] w W':=kW.trans kF (fun b hb=>Or.inr (by
  simp only[List.mem_cons,List.not_mem_nil,or_false]at hb
  rcases hb with rfl|rfl|rfl|rfl <;> assumption))
 have K2:Kp [] w w8:=(K1.trans kV (fun b hb=>Or.inr (by rw[List.mem_singleton]at hb;omega))).trans hk8 (fun b hb=>Or.inr (own b hb))
 have K3:Kp [] w (((w8.setCell ⟨c.rb,0,none⟩ v).setCell ⟨c.eb,0,none⟩ (.int .i64 0)).putObj c.D (.deferred none)):=((K2.trans k1 (fun b hb=>Or.inr (by rw[List.mem_singleton]at hb;omega))).trans k2 (fun b hb=>Or.inr (by rw[List.mem_singleton]at hb;omega))).trans k3 (fun b hb=>Or.inr (by rw[List.mem_singleton]at hb;omega))
 have k8:Kp [c.rb,c.eb,c.D] w8 (((w8.setCell ⟨c.rb,0,none⟩ v).setCell ⟨c.eb,0,none⟩ (.int .i64 0)).putObj c.D (.deferred none)):=((k1.mono (by simp)).trans k2 (by simp)).trans k3 (by simp)
 have hlz:zs.length=ys.length:=hperm.length_eq
 refine q7t h h6 h7 hD10 r10 e10 ⟨v,zs,rfl,K3,rfl,fun x hx=>?_,?_⟩
 ·have hxy:=hcp x (hperm.subset hx)
  have hxV:=hxy.kp kV (fun b hb hm=>by
   rw[List.mem_singleton]at hm
   subst hm
   obtain ⟨_,_,e,_⟩:=q3r hxy hb hT.lo
   cases e)
  have hx8:=hxV.kp hk8 (fun b hb hm=>by
   obtain ⟨cs,hc⟩:=q08 hrow (by simpa using hm)
   obtain ⟨cs',t,e,ht⟩:=q3r hxy hb hc
   cases e
   revert ht
   decide)
  refine hx8.kp k8 (fun b hb hm=>?_)
  simp only[List.mem_cons,List.not_mem_nil,or_false]at hm
  rcases hm with rfl|rfl|rfl
  ·obtain ⟨_,_,e,ht⟩:=q3r hx8 hb r8
   cases e
   revert ht
   decide
  ·obtain ⟨_,_,e,ht⟩:=q3r hx8 hb e8
   cases e
   revert ht
   decide
  ·obtain ⟨_,_,e,_⟩:=q3r hx8 hb hD8
   cases e
 ·rw[hlz]
  have hf:=q03 hrow8 k8 (fun b hb hm=>by
   obtain ⟨cs,hc⟩:=q08 hrow8 hb
   simp only[List.mem_cons,List.not_mem_nil,or_false]at hm
   rcases hm with rfl|rfl|rfl
   ·exact q0q hc r8 (by decide) rfl
   ·exact q0q hc e8 (by decide) rfl
   ·unfold CBox at hc
    rw[hD8]at hc
    cases hc)
  obtain ⟨h1,h2|⟨g,cap,cur,h2,h3,h4⟩⟩:=hf
  ·exact ⟨h1,Or.inl h2⟩
  ·exact ⟨h1,Or.inr ⟨g,cap,cur,h2,Nat.le_trans hn0 h3,h4⟩⟩
theorem qcr {n:Nat}{fn:Func}{tmps:Array Value}{w W W':World}{c:FdC}{ys:List Cp}{o:Obj}{FE:Int}{FL:List (List (List Nat))}(h:fn.results=#[.cell 6 34, .cell 7 35])
  (h6:tmps.getD 6 undef= .pointer (some ⟨c.rb,0,none⟩)) (h7:tmps.getD 7 undef= .pointer (some ⟨c.eb,0,none⟩)) (hT:FdF c ys W') (kW:Kp [] w W) (kF:Kp [c.L,c.rb,c.eb,c.ob] W W') (g1:w.heap.size<=c.L/\w.heap.size<=c.rb/\w.heap.size<=c.eb/\w.heap.size<=c.ob/\w.heap.size<=c.D) (hts:FL=[]) (hE:FE=140):
  bodyPostM Fence.wide n Tryz.prog fn (fun e w'=> ∃v zs,e= .returned (.tuple #[v, .int .i64 FE])/\FdP w c.key FL v zs w') .ret { tmps:=tmps,defers:=[{ target:= .collected c.D,args:=#[] }] } (W'.putObj c.L o):=by
 subst hE hts
 obtain ⟨gL,gr,ge,go,gD⟩:=g1
 have kV:=q1i W' c.L o
 have hDL:c.D≠c.L:=fun e=>by
  have:=hT.dm
  rw[e,hT.lo]at this
  cases this
 have hDV:=(kV.block _ (Array.getElem?_eq_some_iff.1 hT.dm).1 (by simpa using hDL)).trans hT.dm
 have k3:=q1i (W'.putObj c.L o) c.D (.deferred none)
 have K1:Kp [] w W':=kW.trans kF (fun b hb=>Or.inr (by
  simp only[List.mem_cons,List.not_mem_nil,or_false]at hb
  rcases hb with rfl|rfl|rfl|rfl <;> assumption))
 exact q7t h h6 h7 hDV (hT.br.putObj hT.lo rfl) (hT.be.putObj hT.lo rfl) ⟨_,[],rfl,FdP.none c.key ((K1.trans kV (fun b hb=>Or.inr (by rw[List.mem_singleton]at hb;omega))).trans k3 (fun b hb=>Or.inr (by rw[List.mem_singleton]at hb;omega)))⟩
end Go.Proofs.YtaklhcidojhnfaaGreatDoor
namespace Go.Proofs.YtaklhcidojhnfaaGreatDoor
open Go.RowKit Go.Shelf
attribute [local go_sem] Oper.semAt_some
theorem qcv (n:Nat)(sa:Option Addr)(sc:Nat)(l:List SR)(wi:Int)(ea:Option Addr)(ec:Nat)(es:List Ev)(key:ByteArray)(w:World)(hst:StsAt w sa l)(hev:EvsAt w ea es)(htb:TbE w)(hok: ∀r∈l,r.s.ok)(hfit: ∀r∈l, ∀q∈r.s.cd,q.fit)(hsc:l.length<=sc)(hl:l.length<=9223372036854775807)(hes:es.length<=9223372036854775807)(hsz: ∀e∈es,evSz e)(hks:key.size<=9223372036854775807):
  CallsIn Fence.wide n Tryz.prog 6 #[.agg #[.slice sa l.length sc, .int .i64 wi], .string key, .slice ea es.length ec] w fun e w'=> ∃v zs,e= .returned (.tuple #[v, .int .i64 (fiE ⟨stgs l,wi⟩ key es)])/\FdP w key (fiL ⟨stgs l,wi⟩ key es) v zs w':=by
 obtain ⟨W1,hW1⟩: ∃W1,W1=(((w.alloc (.cells #[.slice sa l.length sc, .int .i64 wi] 24)).alloc (.cells #[.string key] 9)).alloc (.cells #[.slice none 0 0] 34)).alloc (.cells #[.int .i64 0] 35):=⟨_,rfl⟩
 have k1:Kp [] w W1:=by rw[hW1];exact (((Kp.alloc _ _).trans (Kp.alloc _ _) (by simp)).trans (Kp.alloc _ _) (by simp)).trans (Kp.alloc _ _) (by simp)
 have b0:CBox w.heap.size #[.slice sa l.length sc, .int .i64 wi] 24 W1:=by
  rw[hW1]
  exact (CBox.new w _ _).kp (((Kp.alloc _ _).trans (Kp.alloc _ _) (by simp)).trans (Kp.alloc _ _) (by simp)) (by simp)
 have b1:CBox (w.heap.size+1) #[.string key] 9 W1:=by
  have:=(CBox.new (w.alloc (.cells #[.slice sa l.length sc, .int .i64 wi] 24)) #[.string key] 9).kp ((Kp.alloc _ (.cells #[.slice none 0 0] 34)).trans (Kp.alloc _ (.cells #[.int .i64 0] 35)) (by simp)) (by simp)
  simp only[World.size_alloc]at this
  rw[hW1]
  exact this
 have b2:CBox (w.heap.size+1+1) #[.slice none 0 0] 34 W1:=by
  have:=(CBox.new ((w.alloc (.cells #[.slice sa l.length sc, .int .i64 wi] 24)).alloc (.cells #[.string key] 9)) #[.slice none 0 0] 34).kp (Kp.alloc _ (.cells #[.int .i64 0] 35)) (by simp)
  simp only[World.size_alloc]at this
  rw[hW1]
  exact this
 have b3:CBox (w.heap.size+1+1+1) #[.int .i64 0] 35 W1:=by
  have:=CBox.new (((w.alloc (.cells #[.slice sa l.length sc, .int .i64 wi] 24)).alloc (.cells #[.string key] 9)).alloc (.cells #[.slice none 0 0] 34)) #[.int .i64 0] 35
  simp only[World.size_alloc]at this
  rw[hW1]
  exact this
 have hz1:W1.heap.size=w.heap.size+1+1+1+1:=by rw[hW1];simp
 have CK:=hZq ((callsIn_wide (n:=n-1)).2 (q47 sa sc l wi ea ec es W1 (hst.kp k1) (hev.kp k1 (by simp)) (htb.kp k1 (by simp)) hok hl hes hsz))
 have AR:=hZq (fun W (hk:Kp [] w W)=>(callsIn_wide (n:=n-1)).2 (q8N ea ec es key W (hev.kp hk (by simp)) hes hks))
 have MI:=hZq (fun (WI:Nat) hp hw hw1 hel wB W hk h1 h2 h3=>q63 wB W sa sc l WI ea ec es hk h1 h2 h3 hp hok hfit hsc hw hw1 hel)
 have p0:=b0.cell (i:=0) (v:= .slice sa l.length sc) rfl
 have p1:=b0.cell (i:=1) (v:= .int .i64 wi) rfl
 have HB:=hZq (And.intro b0 (And.intro b1 (And.intro b2 (And.intro b3 (And.intro k1 hz1)))))
 have HIN:=hZq (And.intro hst (And.intro hev htb))
 have HKS:=hZq hks
 obtain ⟨CE,hCE⟩: ∃CE,CE=mckE ⟨stgs l,wi⟩ es:=⟨_,rfl⟩
 have HCE:=hZq hCE
 rw[<-hCE]at CK
 obtain ⟨FE,hFE⟩: ∃FE,FE=fiE ⟨stgs l,wi⟩ key es:=⟨_,rfl⟩
 have HFE:=hZq hFE
 rw[<-hFE]
 obtain ⟨FL,hFL⟩: ∃FL,FL=fiL ⟨stgs l,wi⟩ key es:=⟨_,rfl⟩
 have HFL:=hZq hFL
 rw[<-hFL]
 obtain ⟨ln,hln⟩: ∃ln,ln=l.length:=⟨_,rfl⟩
 have HLN:=hZq hln
 rw[<-hln]at hW1 p0 CK hl hsc ⊢
 obtain ⟨en,hen⟩: ∃en,en=es.length:=⟨_,rfl⟩
 have HEN:=hZq hen
 rw[<-hen]at CK AR hes ⊢
 clear hst hev htb hok hfit hsz hks b0 b1 b2 b3 k1 hz1 hCE hFE hFL hln hen
 refine callsIn_of_wp_marks Tryz.func6 rfl trivial ?_ rfl
 simp only[Tryz.ntmps6,List.size_toArray,List.length_cons,List.length_nil,Nat.reduceAdd,Nat.reduceSub,Array.replicate_succ,Array.replicate_zero,List.push_toArray,List.append_toArray,List.nil_append,List.cons_append]
 gi_wp2_with fail
 refine ⟨trivial,(fun h=>by cases h),?_⟩
 rw[<-hW1]
 refine (uQ CK).mono ?_
 rintro e w2 ⟨rfl,hk2⟩
 have HK2:=hZq hk2
 obtain ⟨b0,b1,b2,b3,k1,hz1⟩:=uQ HB
 have q1:=(b1.kp hk2 (by simp)).cell (i:=0) (v:= .string key) rfl
 have q2:=(b2.kp hk2 (by simp)).cell (i:=0) (v:= .slice none 0 0) rfl
 have q3:=(b3.kp hk2 (by simp)).cell (i:=0) (v:= .int .i64 0) rfl
 have f2:=(b2.kp hk2 (by simp)).froz
 have f3:=(b3.kp hk2 (by simp)).froz
 clear CK hW1 p0 p1 hk2 b0 b1 b2 b3 k1 hz1
 by_cases h0:CE=0
 ·have HEE:Hid (FE=if arE key es=true then (if 4096<(fdS (Mt.pm ⟨stgs l,wi⟩ es) wi.toNat).length then 140 else 0) else 20):=hZq (by
   rw[uQ HFE]
   unfold fiE
   rw[<-uQ HCE,if_pos h0])
  have A1:=hZq (uQ AR w2 ((uQ HB).2.2.2.2.1.trans (uQ HK2) (by simp)))
  obtain ⟨AE,hAE⟩: ∃AE,AE=arE key es:=⟨_,rfl⟩
  rw[<-hAE]at A1 HEE
  have HAE:=hZq hAE
  clear AR hAE
  gi_wp2_with fail
  refine ⟨trivial,(fun h=>by cases h),?_⟩
  refine (uQ A1).mono ?_
  rintro e w3 ⟨rfl,hk3⟩
  have HK3:=hZq ((uQ HK2).trans hk3 (by simp))
  obtain ⟨b0,b1,b2,b3,k1,hz1⟩:=uQ HB
  have r0:=b0.kp (uQ HK3) (by simp)
  have q0:=r0.cell (i:=0) (v:= .slice sa l.length sc) rfl
  have q4:=r0.cell (i:=1) (v:= .int .i64 wi) rfl
  have q1:=(b1.kp (uQ HK3) (by simp)).cell (i:=0) (v:= .string key) rfl
  have q2:=(b2.kp (uQ HK3) (by simp)).cell (i:=0) (v:= .slice none 0 0) rfl
  have q3:=(b3.kp (uQ HK3) (by simp)).cell (i:=0) (v:= .int .i64 0) rfl
  have f2:=(b2.kp (uQ HK3) (by simp)).froz
  have f3:=(b3.kp (uQ HK3) (by simp)).froz
  rw[<-uQ HLN]at q0
  clear A1 hk3 b0 b1 b2 b3 k1 hz1 r0 HK2
  cases AE with
  |true=>
   have z0:=((uQ HB).1.kp ((uQ HK3).trans (Kp.alloc w3 (.cells #[.slice none 0 0] 34)) (by simp)) (by simp)).cell (i:=0) (v:= .slice sa l.length sc) rfl
   have z1:=((uQ HB).1.kp ((uQ HK3).trans (Kp.alloc w3 (.cells #[.slice none 0 0] 34)) (by simp)) (by simp)).cell (i:=1) (v:= .int .i64 wi) rfl
   rw[<-uQ HLN]at z0
   clear q0 q1 q2 q3 q4 f2 f3
   have MT:=hZq (fun W=>(callsIn_wide (n:=n-1)).2 (q71 sa ln sc wi ea en ec W))
   gi_wp2_with fail
   refine ⟨trivial,(fun h=>by cases h),?_⟩
   refine (uQ MT _).mono ?_
   rintro e w5 ⟨rfl,hw5⟩
   gi_wp2_with fail
   rw[<-hw5]
   have HW5:=hZq hw5
   clear MT hw5 z0 z1
   refine qbr (gf:=27) (lb:=#[.pointer (some ⟨w3.heap.size+1,0,none⟩), .pointer (some ⟨w3.heap.size+1+1,0,none⟩)]) rfl (enters_of Tryz.func27 (by kernel_rfl) rfl) ?_
   intro fn r hr
   have hrs:r.state= .ready:=by rw[hr]
   have hrp:r.pending=none:=by rw[hr]
   have hrq:=hrp
   have hpm:r.params=#[24]:=by rw[hr]
   have htm:=congrArg Loop.tmps hr
   have has:=congrArg Loop.assign hr
   have hbd:=congrArg Loop.body hr
   dsimp only at htm has hbd
   clear hr
   obtain ⟨c,hc⟩: ∃c:FdC,c=⟨w5.heap.size+1,w5.heap.size,r,w.heap.size+1,w.heap.size+1+1,w.heap.size+1+1+1,w3.heap.size,key⟩:=⟨_,rfl⟩
   have hname:q0r key=true:=q3D (uQ HAE).symm
   have hk32:key.size<=32:=by
    unfold q0r at hname
    simp only[Bool.and_eq_true,decide_eq_true_eq]at hname
    omega
   have HY:Hid (∀n0,((w5.alloc (.deferred (some []))).alloc (.loop r)).heap.size<=n0-> ∀(m:Nat) (xs:List Cp) (wy:World) (x:Cp),FdJ c n0 true xs wy->CpAt wy x->x.T.length<=8->(∀l∈x.T,l≠[]/\l.length<=4096)->YieldAt Fence.wide m Tryz.prog (w5.heap.size+1) #[x.v] wy fun e w'=> ∃F go,e= .returned (.bool go)/\Kp F wy w'/\(∀b∈F,Yw wy b/\(b∈[c.L,c.rb,c.eb,c.ob]\/n0<=b))/\FdJ c n0 go (xs++[x]) w'):=hZq (by
    intro n0 hn0 m xs wy x hJ _ _ _
    have hT:FdT c n0 xs wy:=by
     rcases hJ with ⟨_,hT⟩|⟨h,_⟩
     ·exact hT
     ·cases h
    obtain ⟨t1,ht1⟩: ∃t1,t1=(r.tmps.setIfInBounds 24 x.v).setIfInBounds 10 x.v:=⟨_,rfl⟩
    have hL:c.L=w5.heap.size+1:=by rw[hc]
    have hcr:c.r=r:=by rw[hc]
    rw[<-hL]
    have hlo:=hT.lo
    rw[hcr]at hlo
    obtain ⟨Q0,hQ0⟩: ∃Q0:Exit->Act->World->Prop,Q0=fun e _ W'=>W'.heap[c.L]?=some (.loop { r with state:= .busy })/\((e= .normal/\(fun (e:Ending) (w':World)=> ∃F go,e= .returned (.bool go)/\Kp F wy w'/\(∀b∈F,Yw wy b/\(b∈[c.L,c.rb,c.eb,c.ob]\/n0<=b))/\FdJ c n0 go (xs++[x]) w') (.returned (.bool true)) (W'.putObj c.L (.loop { r with state:= .ready,pending:=none })))\/(e= .ret/\(fun (e:Ending) (w':World)=> ∃F go,e= .returned (.bool go)/\Kp F wy w'/\(∀b∈F,Yw wy b/\(b∈[c.L,c.rb,c.eb,c.ob]\/n0<=b))/\FdJ c n0 go (xs++[x]) w') (.returned (.bool false)) (W'.putObj c.L (.loop { r with state:= .done,pending:=some .ret })))):=⟨_,rfl⟩
    have HQ0:=hZq hQ0
    have HQP: ∀c a a' w,Q0 (.panic c) a w->Q0 (.panic c) a' w:=by rw[hQ0];exact fun _ _ _ _ h=>h
    refine q7g hlo hrs (by rw[hpm];rfl) { tmps:=t1,defers:=[] } (Q:=Q0) ?_ ?_ (by rw[hQ0];exact fun _ _ _ h=>h)
    ·intro K hK
     rw[has,hpm,htm]
     rw[ht1,htm]at hK
     unfold Cp.v at hK ⊢
     simp only[List.setIfInBounds_toArray,List.set_cons_zero,List.set_cons_succ]at hK
     clear ht1 htm has hbd MI
     gi_wp2
     exact hK
    ·obtain ⟨V,hV⟩: ∃V,V=wy.putObj c.L (.loop { r with state:= .busy }):=⟨_,rfl⟩
     rw[<-hV,hbd]
     rw[htm]at ht1
     unfold Cp.v at ht1
     simp only[List.setIfInBounds_toArray,List.set_cons_zero,List.set_cons_succ]at ht1
     subst ht1
     clear htm has hbd hlo hrp hQ0
     obtain ⟨v,hob,hrow⟩:=hT.ow
     obtain ⟨oa,oc,rfl,_⟩:=q2g hrow
     have hrs':c.r.state= .ready:=by rw[hcr];exact hrs
     have hrp':c.r.pending=none:=by rw[hcr];exact hrq
     have e4:c.kb=w.heap.size+1:=by rw[hc]
     have e6:c.rb=w.heap.size+1+1:=by rw[hc]
     have e7:c.eb=w.heap.size+1+1+1:=by rw[hc]
     have e9:c.ob=w3.heap.size:=by rw[hc]
     have ek:c.key=key:=by rw[hc]
     have hp:Kp [c.L] wy V:=by rw[hV];exact ⟨rfl,rfl,rfl,by simp,fun k _ hn=>World.putObj_heap_other (by simpa using hn)⟩
     have cb: ∀{b:Nat} {cs:Array Value} {t:TypeId},CBox b cs t wy->CBox b cs t V:=fun h=>by rw[hV];exact h.putObj hT.lo rfl
     have hLV:V.heap[c.L]?=some (.loop { c.r with state:= .busy }):=by rw[hV,hcr];exact World.putObj_heap_same (Array.getElem?_eq_some_iff.1 hT.lo).1
     have o9:=cb hob
     have o4:=cb hT.bk
     have o6:=cb hT.br
     have o7:=cb hT.be
     have HSTO:=hZq (fun W (h4:xs.length=4096) (hW:W=((wy.putObj c.L (.loop { c.r with state:= .busy })).setCell ⟨c.rb,0,none⟩ (.slice none 0 0)).setCell ⟨c.eb,0,none⟩ (.int .i64 140))=>hT.stop h4 x hW)
     have HPU0:=hZq (fun W g hk hl hg hlt=>hT.push (W:=W) (x:=x) hk hl (g:=g) hg hlt hob)
     have HYW:Hid (Yw wy c.L/\Yw wy c.rb/\Yw wy c.eb/\Yw wy c.ob):=hZq ⟨Or.inl ⟨_,hT.lo⟩,Or.inr ⟨_,_,hT.br,by simp⟩,Or.inr ⟨_,_,hT.be,by simp⟩,Or.inr ⟨_,_,hob,by simp⟩⟩
     have HLN4:=hZq hT.ln
     rw[ek]at o4 HPU0
     rw[hcr]at HSTO HPU0 hLV
     have HHP:=hZq hp
     have HHL:=hZq hLV
     rw[<-hV]at HSTO
     have x9:=o9.cell (i:=0) (v:= .slice oa xs.length oc) rfl
     have x4:=o4.cell (i:=0) (v:= .string key) rfl
     have x6:=o6.cell (i:=0) (v:= .slice none 0 0) rfl
     have x7:=o7.cell (i:=0) (v:= .int .i64 0) rfl
     have f6:=o6.froz
     have f7:=o7.froz
     have HO4:=hZq o4
     have HO9:=hZq o9
     rw[e9]at x9
     rw[e4]at x4
     rw[e6]at x6 f6
     rw[e7]at x7 f7
     clear hT hob hrow hp cb hLV o9 o4 o6 o7 hV MI
     by_cases h4:xs.length=4096
     ·have h4i:(xs.length:Int)=4096:=by omega
      have HS:=hZq (uQ HSTO _ h4 rfl)
      clear HSTO HPU0 HO4 HO9
      rw[e6,e7]at HS
      gi_wp2
      obtain ⟨s1,s2,s3⟩:=uQ HS
      show Q0 _ _ _
      rw[uQ HQ0]
      refine ⟨s1,Or.inr ⟨rfl,_,false,rfl,s2,fun b hb=>?_,Or.inr ⟨rfl,s3⟩⟩⟩
      obtain ⟨y1,y2,y3,y4⟩:=uQ HYW
      simp only[List.mem_cons,List.not_mem_nil,or_false]at hb
      rcases hb with rfl|rfl|rfl
      ·exact ⟨y1,Or.inl (by simp)⟩
      ·rw[<-e6];exact ⟨y2,Or.inl (by simp)⟩
      ·rw[<-e7];exact ⟨y3,Or.inl (by simp)⟩
     ·have h4i:((xs.length:Int)=4096)=False:=by simp;omega
      have hlt:xs.length<4096:=by have:=uQ HLN4;omega
      clear HSTO x6 x7 f6 f7
      gi_wp2_with fail
      refine q0m (fun W'=>W'.cell? ⟨w3.heap.size,0,none⟩=some (.slice oa xs.length oc)/\W'.cell? ⟨w.heap.size+1,0,none⟩=some (.string key)) 7 (by kernel_rfl) (by kernel_rfl) (fun ⟨_,_,h⟩=>by
       have h:Q0 _ _ _:=h
       rw[uQ HQ0]at h
       rcases h with ⟨_,⟨h,_⟩|⟨h,_⟩⟩ <;> cases h) ?_
      obtain ⟨V2,hV2⟩: ∃V2,V2=V.drew:=⟨_,rfl⟩
      rw[<-hV2]
      have hS0:V2.cell? ⟨w3.heap.size,0,none⟩=some (.slice oa xs.length oc)/\V2.cell? ⟨w.heap.size+1,0,none⟩=some (.string key):=by rw[hV2];exact ⟨x9,x4⟩
      have kV2:Kp [] V V2:=by rw[hV2];exact Kp.drew _
      have CL:=hZq (q1E key V2 (by omega))
      have HSV:Hid (∀W,Kp [] V2 W->W.cell? ⟨w3.heap.size,0,none⟩=some (.slice oa xs.length oc)/\W.cell? ⟨w.heap.size+1,0,none⟩=some (.string key)):=hZq (fun W hk=>by
       have h9:=((uQ HO9).kp (kV2.trans hk (by simp)) (by simp)).cell (i:=0) (v:= .slice oa xs.length oc) rfl
       have h4:=((uQ HO4).kp (kV2.trans hk (by simp)) (by simp)).cell (i:=0) (v:= .string key) rfl
       rw[e9]at h9
       rw[e4]at h4
       exact ⟨h9,h4⟩)
      have HPU:Hid (∀w6,Below V2.heap.size V2 w6-> ∃g' cap w7,(Builtin.append_ #[34,34] 34 #[.slice oa xs.length oc, .slice (some ⟨w6.heap.size,0,none⟩) 1 1]).run Tryz.prog (w6.alloc (.cells #[.string key, .slice (some ⟨x.g,0,none⟩) x.T.length x.T.length] 44))= .ok (.slice (some ⟨g',0,none⟩) (xs.length+1) cap) w7/\CBox w3.heap.size #[.slice oa xs.length oc] 34 w7/\CBox (w.heap.size+1) #[.string key] 9 w7/\Hid (∀a,Q0 .normal a (w7.setCell ⟨w3.heap.size,0,none⟩ (.slice (some ⟨g',0,none⟩) (xs.length+1) cap)))):=hZq (fun w6 hb=>by
       have ka:=Kp.alloc w6 (.cells #[.string key, .slice (some ⟨x.g,0,none⟩) x.T.length x.T.length] 44)
       have kv:=(kV2.trans (Kp.ofBelow hb) (by simp)).trans ka (by simp)
       obtain ⟨g',cap,w7,hrun,h9,h4,hL7,kp7,yw7,fin⟩:=uQ HPU0 _ w6.heap.size ((uQ HHP).trans kv (by simp)) ((kv.block _ (Array.getElem?_eq_some_iff.1 (uQ HHL)).1 (by simp)).trans (uQ HHL)) (CBox.new w6 _ _) hlt
       rw[e9]at h9 hL7 kp7 fin
       rw[e4]at h4
       refine ⟨g',cap,w7,hrun,h9,h4,hZq (fun a=>?_)⟩
       rw[uQ HQ0]
       refine ⟨hL7,Or.inl ⟨rfl,_,true,rfl,kp7.trans (G:=[c.L]) ⟨rfl,rfl,rfl,by simp,fun k _ hn=>World.putObj_heap_other (by simpa using hn)⟩ (by simp),fun b hb=>?_,Or.inl ⟨rfl,fin _ rfl hrs hrq⟩⟩⟩
       obtain ⟨y1,y2,y3,y4⟩:=uQ HYW
       rw[List.mem_cons,List.mem_cons]at hb
       rcases hb with rfl|rfl|hb
       ·exact ⟨y1,Or.inl (by simp)⟩
       ·rw[<-e9];exact ⟨y4,Or.inl (by simp)⟩
       ·have:=yw7 b (by simpa using hb)
        exact ⟨this.1,Or.inr this.2⟩)
      clear HPU0 HO4 HO9 HHP HHL x9 x4 kV2 hV2
      show q09 _ _ _ _ _ _ 8 (Array.replicate 8 false) _ _
      refine zzL (i:=0) (v:=?_) rfl (Or.inl ⟨by rfl,?_⟩) hS0 ?_ (hQ:=fun _ _ _ h=>HQP _ _ _ _ h)
      rotate_left
      ·intro w0 s9;(try dsimp only at s9);go_simp;(try with_reducible rfl)
      try simp only[Act.put,zz1,zz2,zz3]
      refine zzL (i:=1) (v:=?_) rfl (Or.inl ⟨by rfl,?_⟩) hS0 ?_ (hQ:=fun _ _ _ h=>HQP _ _ _ _ h)
      rotate_left
      ·intro w0 s9;(try dsimp only at s9);go_simp;(try with_reducible rfl)
      try simp only[Act.put,zz1,zz2,zz3]
      refine zzL (i:=3) (v:=?_) rfl (Or.inl ⟨by rfl,?_⟩) hS0 ?_ (hQ:=fun _ _ _ h=>HQP _ _ _ _ h)
      rotate_left
      ·intro w0 s9;(try dsimp only at s9);go_simp;(try with_reducible rfl)
      try simp only[Act.put,zz1,zz2,zz3]
      refine q01 (i:=2) rfl (by kernel_rfl) (fun K hK=>?_)
      go_simp
      refine (uQ CL).mono ?_
      rintro e w6 ⟨rfl,hb6⟩
      obtain ⟨g',cap,w7,hrun,hb7,hk7,HPP⟩:=uQ HPU w6 hb6
      have hS5:=uQ HSV w6 (Kp.ofBelow hb6)
      have hS6:=uQ HSV _ ((Kp.ofBelow hb6).trans (Kp.alloc w6 (.cells #[.string key, .slice (some ⟨x.g,0,none⟩) x.T.length x.T.length] 44)) (by simp))
      have hS7:w7.cell? ⟨w3.heap.size,0,none⟩=some (.slice oa xs.length oc)/\w7.cell? ⟨w.heap.size+1,0,none⟩=some (.string key):=⟨hb7.cell rfl,hk7.cell rfl⟩
      have f7:=hb7.froz
      clear CL HPU HSV hb6 hb7 hk7
      refine hK _ _ (Or.inr hS5) ?_
      clear hK K
      try simp only[Act.put,zz1,zz2,zz3]
      refine zzL (i:=4) (v:=?_) rfl (Or.inl ⟨by rfl,?_⟩) hS5 ?_ (hQ:=fun _ _ _ h=>HQP _ _ _ _ h)
      rotate_left
      ·intro w0 s9;(try dsimp only at s9);go_simp;(try with_reducible rfl)
      try simp only[Act.put,zz1,zz2,zz3]
      refine q01 (i:=5) rfl (by kernel_rfl) (fun K hK=>?_)
      go_simp
      refine hK _ _ (Or.inr hS6) ?_
      clear hK K
      try simp only[Act.put,zz1,zz2,zz3]
      refine q01 (i:=6) rfl (by kernel_rfl) (fun K hK=>?_)
      refine q11 rfl (.tmp 28) (.tmp 33) 34 rfl rfl rfl hrun ?_
      refine hK _ _ (Or.inr hS7) ?_
      clear hK K
      try simp only[Act.put,zz1,zz2,zz3]
      refine q01 (i:=7) rfl (by kernel_rfl) (fun K hK=>?_)
      go_simp
      refine hK _ _ (Or.inl rfl) ?_
      clear hK K
      try simp only[Act.put,zz1,zz2,zz3]
      refine q0b (by kernel_rfl) ?_ _
      exact uQ HPP _)
   obtain ⟨b0,b1,b2,b3,k1,hz1⟩:=uQ HB
   have hce:mckE ⟨stgs l,wi⟩ es=0:=by rw[<-uQ HCE];exact h0
   have hpc:(pcR ⟨stgs l,wi⟩).2=0:=by
    unfold mckE at hce
    by_cases hh:(pcR ⟨stgs l,wi⟩).2=0
    ·exact hh
    ·rw[if_neg hh]at hce
     exact absurd hce hh
   have hel:es.length<=4096:=by
    unfold mckE at hce
    rw[if_pos hpc]at hce
    by_cases hh:4096<es.length
    ·rw[if_pos hh]at hce
     cases hce
    ·omega
   have hpo:=q1a hpc
   obtain ⟨hN1,hN8,hwb,_⟩:=hpo
   have hN1:1<=(Mt.pm ⟨stgs l,wi⟩ es).N:=hN1
   have hN8:(Mt.pm ⟨stgs l,wi⟩ es).N<=8:=hN8
   have hwb:1<=wi/\wi<=256:=hwb
   obtain ⟨WI,hWI⟩: ∃WI:Nat,wi=(WI:Int):=⟨wi.toNat,by omega⟩
   have hw5:=uQ HW5
   have k5:Kp [] w3 w5:=by rw[hw5];exact ((Kp.alloc _ _).trans (Kp.alloc _ _) (by simp)).trans (Kp.alloc _ _) (by simp)
   have kL:Kp [] w5 ((w5.alloc (.deferred (some []))).alloc (.loop r)):=(Kp.alloc _ _).trans (Kp.alloc _ _) (by simp)
   have kW:Kp [] w ((w5.alloc (.deferred (some []))).alloc (.loop r)):=((k1.trans (uQ HK3) (by simp)).trans k5 (by simp)).trans kL (by simp)
   have hz5:w5.heap.size=w3.heap.size+1+1+1:=by rw[hw5];simp
   have hzW:((w5.alloc (.deferred (some []))).alloc (.loop r)).heap.size=w5.heap.size+1+1:=by simp
   have hz3:=(uQ HK3).size
   have pb:CBox (w3.heap.size+1) #[.slice sa l.length sc, .int .i64 (WI:Int)] 24 ((w5.alloc (.deferred (some []))).alloc (.loop r)):=by
    refine CBox.kp ?_ kL (by simp)
    have:=(CBox.new (w3.alloc (.cells #[.slice none 0 0] 34)) #[.slice sa ln sc, .int .i64 wi] 24).kp (Kp.alloc _ (.cells #[.slice ea en ec] 25)) (by simp)
    rw[<-hw5]at this
    simp only[World.size_alloc]at this
    rw[<-hWI, <-uQ HLN]
    exact this
   have eb:CBox (w3.heap.size+1+1) #[.slice ea es.length ec] 25 ((w5.alloc (.deferred (some []))).alloc (.loop r)):=by
    refine CBox.kp ?_ kL (by simp)
    have:=CBox.new ((w3.alloc (.cells #[.slice none 0 0] 34)).alloc (.cells #[.slice sa ln sc, .int .i64 wi] 24)) #[.slice ea en ec] 25
    rw[<-hw5]at this
    simp only[World.size_alloc]at this
    rw[<-uQ HEN]
    exact this
   have hge:w.heap.size<=c.L/\w.heap.size<=c.rb/\w.heap.size<=c.eb/\w.heap.size<=c.ob/\w.heap.size<=c.D:=by
    rw[hc]
    dsimp only
    omega
   have hlt:c.L<w5.heap.size+1+1/\c.rb<w5.heap.size+1+1/\c.eb<w5.heap.size+1+1/\c.ob<w5.heap.size+1+1:=by
    rw[hc]
    dsimp only
    omega
   have hst0: ∀w0,Kp [] ((w5.alloc (.deferred (some []))).alloc (.loop r)) w0->FdT c w0.heap.size [] w0:=fun w0 h0=>by
    rw[hc]
    exact qaG b1 b2 b3 hz1 (uQ HK3) hw5 h0
   have hpc':(pcR ⟨stgs l,(WI:Int)⟩).2=0:=by rw[<-hWI];exact hpc
   have hcall:=uQ MI WI hpc' (by omega) (by omega) hel w _ kW (uQ HIN).1 (uQ HIN).2.1 (uQ HIN).2.2 _ _ pb eb [c.L,c.rb,c.eb,c.ob] (fun b hb=>by
    rw[hzW]
    simp only[List.mem_cons,List.not_mem_nil,or_false]at hb
    rcases hb with rfl|rfl|rfl|rfl <;> omega) (fun b hb=>by
    simp only[List.mem_cons,List.not_mem_nil,or_false]at hb
    rcases hb with rfl|rfl|rfl|rfl <;> omega)
    (fun n0 go xs w'=>((w5.alloc (.deferred (some []))).alloc (.loop r)).heap.size<=n0/\FdJ c n0 go xs w') (fun n0 go xs w w' F h hk hF=>⟨h.1,h.2.keep hk hF⟩) (fun n0 go xs w h=>h.2.len) (fun w0 h0=>⟨h0.size,Or.inl ⟨rfl,hst0 w0 h0⟩⟩)
    (w5.heap.size+1) (fun n0 hn m xs wy x h1 h2 h3 h4=>by
     obtain ⟨fn,tmps,assign,body,hy,hR⟩:=uQ HY n0 hn m xs wy x h1.2 h2 h3 h4
     refine ⟨fn,tmps,assign,body,hy,hR.mono ?_⟩
     rintro e w' ⟨F,go,a1,a2,a3,a4⟩
     exact ⟨F,go,a1,a2,a3,h1.1,a4⟩)
   refine CallsIn.mono (callsIn_wide.2 hcall) ?_
   rw[<-hWI]
   have HGE:=hZq hge
   have HKW:=hZq kW
   have HN:=hZq (And.intro hN1 (And.intro hN8 hwb))
   have HZW:Hid (w.heap.size<=((w5.alloc (.deferred (some []))).alloc (.loop r)).heap.size):=hZq kW.size
   have hWt:wi.toNat=WI:=by omega
   have HWT:=hZq hWt
   have HEL:=hZq hel
   have HHN:=hZq hname
   have e6:c.rb=w.heap.size+1+1:=by rw[hc]
   have e7:c.eb=w.heap.size+1+1+1:=by rw[hc]
   have e9:c.ob=w3.heap.size:=by rw[hc]
   have eD:c.D=w5.heap.size:=by rw[hc]
   have eL:c.L=w5.heap.size+1:=by rw[hc]
   have ek:c.key=key:=by rw[hc]
   have er:c.r=r:=by rw[hc]
   clear hcall MI HY hst0 hlt pb eb hz3 hz5 hzW kW kL k5 hw5 hWI hN1 hN8 hwb hpc hpc' hel hce b0 b1 b2 b3 k1 hz1 hge htm has hbd hc hrs hrp hrq hpm hWt
   rintro e W' ⟨hv,n0,go,ys,⟨hn0,hJ⟩,hcp,hpr,hkF⟩
   refine ⟨hv,?_⟩
   rcases hJ with ⟨rfl,hT⟩|⟨rfl,hF⟩
   ·have hfn:ys.map (·.T)=Mt.fnd (Mt.pm ⟨stgs l,wi⟩ es) WI:=by
     rcases hpr with ⟨_,h⟩|⟨h,_⟩
     ·exact h
     ·cases h
    have hlo:=hT.lo
    rw[er,eL]at hlo
    refine Or.inl ⟨hlo,?_⟩
    obtain ⟨V,hV⟩: ∃V,V=W'.putObj (w5.heap.size+1) (.loop { r with state:= .exhausted }):=⟨_,rfl⟩
    rw[<-hV]
    rw[<-eL]at hV
    obtain ⟨v,hob,hrow⟩:=hT.ow
    obtain ⟨va,vc,rfl,_⟩:=q2g hrow
    have hmem: ∀x∈ys,x.T∈Mt.fnd (Mt.pm ⟨stgs l,wi⟩ es) WI:=fun x hx=>by
     rw[<-hfn]
     exact List.mem_map_of_mem hx
    have hmay: ∀x∈ys,mayM key (Mt.toZ x.T)=true:=fun x hx=>by
     obtain ⟨n1,n2,n3⟩:=uQ HN
     have hw:=uQ HWT
     exact q7u (by omega) (by omega) n1 n2 (uQ HEL) (uQ HHN) (hmem x hx)
    have hok2: ∀x∈ys,MtOk key (Mt.toZ x.T):=fun x hx=>by
     obtain ⟨m1,m2,m3⟩:=q4D (hmay x hx)
     refine ⟨uQ HKS,by omega,fun p hp=>?_⟩
     have hm:=hmay x hx
     unfold mayM at hm
     simp only[Bool.and_eq_true]at hm
     have:=q2q _ _ _ hm.2 p hp
     omega
    have hrowV:V.ownsRow n0 44 2 (.slice va ys.length vc) ys.length (ys.flatMap (mtE key)):=by
     rw[hV, <-ek]
     exact q03 hrow (q1i _ _ _) (fun b hb hm=>by
      obtain ⟨cs,hcc⟩:=q08 hrow hb
      rw[List.mem_singleton]at hm
      subst hm
      unfold CBox at hcc
      rw[hT.lo]at hcc
      cases hcc)
    have hcpV: ∀x∈ys,CpAt V x:=fun x hx=>by
     rw[hV]
     exact (hcp x hx).kp (q1i _ _ _) (fun b hb hm=>by
      rw[List.mem_singleton]at hm
      subst hm
      obtain ⟨_,_,e,_⟩:=q3r (hcp x hx) hb hT.lo
      cases e)
    have SORT:=hZq ((callsIn_wide (n:=n-1)).2 (qbB hrowV hcpV hmay hok2 (by rw[hfn];exact Mt.fnd_nodup _ _) hT.ln))
    have HMID:=hZq (fun (b:Nat) (cs:Array Value) (t:TypeId) (hb:CBox b cs t W') (ht:t≠44)=>q5M (o:= .loop { r with state:= .exhausted }) hT hV hrow hb ht)
    have x9:=(uQ HMID _ _ _ hob (by decide)).1.cell (i:=0) (v:= .slice va ys.length vc) rfl
    have HOB:=hZq hob
    have HBR:=hZq hT.br
    have HBE:=hZq hT.be
    have HDONE:=hZq (fun (tmps:Array Value) (w8:World) zs h6 h7 hk8 hperm hrow8 hts hE=>qcq (n:=n) (fn:=Tryz.f6) (tmps:=tmps) (zs:=zs) (FE:=FE) (FL:=FL) rfl h6 h7 hT (uQ HKW) hkF (uQ HGE) (Nat.le_trans (uQ HZW) hn0) hV (w8:=w8) hk8 hob hrow hcp hperm hrow8 hts hE)
    have HFIN:Hid (FE=0/\ ∀zs:List Cp,zs.Perm ys->Srt (zs.map (·.T))->zs.map (·.T)=FL):=hZq (by
     have hl:(fdS (Mt.pm ⟨stgs l,wi⟩ es) wi.toNat).length=ys.length:=by
      rw[q7s,uQ HWT, <-hfn,List.length_map]
     have hln:=hT.ln
     have hE:FE=0:=by
      rw[uQ HEE,if_pos trivial,if_neg (by rw[hl];omega)]
     refine ⟨hE,fun zs hp hs=>?_⟩
     rw[uQ HFL]
     unfold fiL
     rw[<-uQ HFE,if_pos hE]
     dsimp only
     rw[uQ HWT]
     refine q4O hs (q4y _ _) ?_
     exact (hp.map _).trans (by rw[hfn];exact (q1Y _ _).symm))
    rw[e9]at x9
    clear hlo hT hrow hob hmem hmay hok2 hrowV hcpV hcp hpr hkF hfn hV hn0 hv
    obtain ⟨yn,hyn⟩: ∃yn,yn=ys.length:=⟨_,rfl⟩
    rw[<-hyn]at SORT HMID x9 HOB HDONE
    clear hyn
    gi_wp2_with fail
    refine ⟨trivial,(fun h=>by cases h),?_⟩
    refine (uQ SORT).mono ?_
    rintro e w8 ⟨rfl,hk8,zs,hperm,hsrt,hrow8⟩
    have q9:=((uQ HMID _ _ _ (uQ HOB) (by decide)).2 w8 hk8).cell (i:=0) (v:= .slice va yn vc) rfl
    have c6:=(uQ HMID _ _ _ (uQ HBR) (by decide)).2 w8 hk8
    have c7:=(uQ HMID _ _ _ (uQ HBE) (by decide)).2 w8 hk8
    have q6:=c6.cell (i:=0) (v:= .slice none 0 0) rfl
    have q7:=c7.cell (i:=0) (v:= .int .i64 0) rfl
    have f6:=c6.froz
    have f7:=c7.froz
    rw[e9]at q9
    rw[e6]at q6 f6
    rw[e7]at q7 f7
    have HEND:=hZq (fun tmps h6 h7=>uQ HDONE tmps w8 zs h6 h7 hk8 hperm (by rw[ek];exact hrow8) ((uQ HFIN).2 zs hperm hsrt) (uQ HFIN).1)
    rw[e6,e7,eD,ek]at HEND
    clear SORT HMID hk8 hperm hsrt hrow8 c6 c7 HDONE x9
    gi_wp2
    exact uQ HEND _ rfl rfl
   ·have hlo:=hF.lo
    rw[er,eL]at hlo
    refine Or.inr ⟨hlo,?_⟩
    have HFIN:Hid (FL=[]/\FE=140):=hZq (by
     obtain ⟨z,hz⟩: ∃z,Mt.fnd (Mt.pm ⟨stgs l,wi⟩ es) WI=ys.map (·.T)++z:=by
      rcases hpr with ⟨h,_⟩|⟨_,h⟩
      ·cases h
      ·exact h
     have hl:4097<=(fdS (Mt.pm ⟨stgs l,wi⟩ es) wi.toNat).length:=by
      rw[q7s,uQ HWT,hz,List.length_append,List.length_map,hF.ln]
      omega
     have hE:FE=140:=by rw[uQ HEE,if_pos trivial,if_pos (by omega)]
     refine ⟨?_,hE⟩
     rw[uQ HFL]
     unfold fiL
     rw[<-uQ HFE,hE]
     rfl)
    have HEND:=hZq (fun tmps h6 h7=>qcr (n:=n) (fn:=Tryz.f6) (tmps:=tmps) (FE:=FE) (FL:=FL) (o:= .loop { r with state:= .exhausted,pending:=some .ret }) rfl h6 h7 hF (uQ HKW) hkF (uQ HGE) (uQ HFIN).1 (uQ HFIN).2)
    rw[e6,e7,eD,ek,eL]at HEND
    clear hlo hF hcp hpr hkF hn0 hv
    refine wpIn_ret ?_
    exact uQ HEND _ rfl rfl
  |false=>
   have HE2:Hid (FE=20):=hZq (by rw[uQ HEE];rfl)
   have HL2:Hid (FL=[]):=hZq (by rw[uQ HFL];unfold fiL;rw[<-uQ HFE,uQ HE2];rfl)
   obtain ⟨b0,b1,b2,b3,k1,hz1⟩:=uQ HB
   have HC2:=hZq (b2.kp (uQ HK3) (by simp))
   have HC3:=hZq (b3.kp (uQ HK3) (by simp))
   have HKW:=hZq (k1.trans (uQ HK3) (by simp))
   have HZ:=hZq hz1
   clear MI HEE b0 b1 b2 b3 k1 hz1 HB HK3
   gi_wp2
   exact q5L rfl rfl rfl (uQ HC2) (uQ HC3) (uQ HKW) (by omega) (by omega) (uQ HE2) (uQ HL2)
 ·have HE2:Hid (FE=CE):=hZq (by
   rw[uQ HFE]
   unfold fiE
   rw[<-uQ HCE,if_neg h0])
  have HL2:Hid (FL=[]):=hZq (by rw[uQ HFL];unfold fiL;rw[<-uQ HFE,uQ HE2,if_neg h0])
  obtain ⟨b0,b1,b2,b3,k1,hz1⟩:=uQ HB
  have HC2:=hZq (b2.kp (uQ HK2) (by simp))
  have HC3:=hZq (b3.kp (uQ HK2) (by simp))
  have HKW:=hZq (k1.trans (uQ HK2) (by simp))
  clear MI AR b0 b1 b2 b3 k1 hz1 HB HK2
  gi_wp2
  exact q5L rfl rfl rfl (uQ HC2) (uQ HC3) (uQ HKW) (by omega) (by omega) (uQ HE2) (uQ HL2)
theorem q5P (sa:Option Addr)(sc:Nat)(l:List SR)(wi:Int)(ea:Option Addr)(ec:Nat)(es:List Ev)(key:ByteArray)(w:World)(hst:StsAt w sa l)(hev:EvsAt w ea es)(htb:TbE w)(hok: ∀r∈l,r.s.ok)(hfit: ∀r∈l, ∀q∈r.s.cd,q.fit)(hsc:l.length<=sc)(hl:l.length<=9223372036854775807)(hes:es.length<=9223372036854775807)(hsz: ∀e∈es,evSz e)(hks:key.size<=9223372036854775807):
  Calls Tryz.prog 6 #[.agg #[.slice sa l.length sc, .int .i64 wi], .string key, .slice ea es.length ec] w fun e w'=> ∃v zs,e= .returned (.tuple #[v, .int .i64 (fiE ⟨stgs l,wi⟩ key es)])/\FdP w key (fiL ⟨stgs l,wi⟩ key es) v zs w':=callsIn_wide.1 (qcv 0 sa sc l wi ea ec es key w hst hev htb hok hfit hsc hl hes hsz hks)
end Go.Proofs.YtaklhcidojhnfaaGreatDoor
namespace Go.Proofs.YtaklhcidojhnfaaGreatDoor
open Go.RowKit Go.Shelf
theorem qcu {p:Ptn}{k:ByteArray}{es:List Ev}(h:fiE p k es≠0):fiL p k es=[]:=by unfold fiL;rw[if_neg h]
theorem qdM {p:Ptn}{k:ByteArray}{es:List Ev}:(fiL p k es).length<=4096:=by
 unfold fiL
 split
 ·rename_i h
  unfold fiE at h
  split at h
  ·split at h
   ·split at h
    ·cases h
    ·omega
   ·cases h
  ·rename_i h0
   exact absurd h h0
 ·simp
theorem qct {p:Ptn}{k:ByteArray}{es:List Ev}{T:List (List Nat)}(h:T∈fiL p k es):T≠[]/\(∀l∈T,l≠[])/\MtOk k (Mt.toZ T)/\mayM k (Mt.toZ T)=true:=by
 unfold fiL at h
 split at h
 rotate_left
 ·cases h
 rename_i h0
 have hck:mckE p es=0:=by
  unfold fiE at h0
  by_cases h1:mckE p es=0
  ·exact h1
  ·rw[if_neg h1]at h0
   exact absurd h0 h1
 have har:arE k es=true:=by
  unfold fiE at h0
  rw[if_pos hck]at h0
  by_cases h1:arE k es=true
  ·exact h1
  ·rw[if_neg h1]at h0
   cases h0
 have hpc:(pcR p).2=0:=by
  unfold mckE at hck
  by_cases h1:(pcR p).2=0
  ·exact h1
  ·rw[if_neg h1]at hck
   exact absurd hck h1
 obtain ⟨hN,hN8,hwb,_⟩:=q1a hpc
 have hel:es.length<=4096:=by
  unfold mckE at hck
  rw[if_pos hpc]at hck
  by_cases hh:4096<es.length
  ·rw[if_pos hh]at hck
   cases hck
  ·omega
 have hm:=(q1Y _ _).mem_iff.1 h
 obtain ⟨hr,hl,_⟩:=(Mt.fnd_iff (by omega) hN T).1 hm
 have hmay:=q7u (by omega) (by omega) hN hN8 hel (q3D har) hm
 obtain ⟨m1,m2,m3⟩:=q4D hmay
 have hk:=q3D har
 refine ⟨q9A hN hl,hr.full,⟨?_,by omega,fun q hq=>?_⟩,hmay⟩
 ·unfold q0r at hk
  simp only[Bool.and_eq_true,decide_eq_true_eq]at hk
  omega
 ·unfold mayM at hmay
  simp only[Bool.and_eq_true]at hmay
  have:=q2q _ _ _ hmay.2 q hq
  omega
theorem OwnsP.zero (w:World):OwnsP w.heap.size (w.alloc (.cells #[] 180)) (.slice (some ⟨w.heap.size,0,none⟩) 0 0) []:=
 ⟨rfl,Or.inr ⟨w.heap.size,0,#[],rfl,Nat.le_refl _,CBox.new w _ _,Nat.le_refl _,by unfold maxLen;omega,rfl,rfl⟩⟩
theorem q9Y {w:World}{ad:Option Addr}{c:Nat}{x:List Pt}(h:PtsAt w ad x)(ha:ad=none->c=0)(hl:x.length * 56<=140737488351232)(ty:TypeId):
  ∃g cap w',(Builtin.append_ #[31,31] ty #[.slice (some ⟨w.heap.size,0,none⟩) 0 0, .slice ad x.length c]).run Tryz.prog (w.alloc (.cells #[] 180))= .ok (.slice (some ⟨g,0,none⟩) x.length cap) w'/\OwnsP w.heap.size w' (.slice (some ⟨g,0,none⟩) x.length cap) x/\Kp [] w w':=by
 obtain ⟨i0,hi,hz0,hz1,hz2⟩:=info_parts qcV
 have ho:=OwnsP.zero w
 have k0:=Kp.alloc w (.cells #[] 180)
 have hz:(w.alloc (.cells #[] 180)).heap.size=w.heap.size+1:=by simp
 cases ad with
 |none=>
  obtain rfl:=ha rfl
  obtain rfl:x=[]:=by
   rcases x with _|⟨p,r⟩
   ·rfl
   ·obtain ⟨b,off,e,_⟩:=h (by simp)
    cases e
  exact ⟨w.heap.size,0,_,by simpa using run_append_owned_none (P:=Tryz.prog) (w:=w.alloc (.cells #[] 180)) w.heap.size _ ty 180 i0 5 Tryz.underlying31 hi _ _ _ ho,ho,k0⟩
 |some a=>
  by_cases h0:x=[]
  ·subst h0
   have:=run_append_room_cells (P:=Tryz.prog) (w:=w.alloc (.cells #[] 180)) 31 ty 180 i0 Tryz.underlying31 hi w.heap.size 0 0 0 a 0 c [] (by simp) (fun j u hj=>by simp at hj) (fun u hu=>by cases hu) (by omega) (fun j hj=>absurd hj (by simp)) (fun j hj=>absurd hj (by simp))
   exact ⟨w.heap.size,0,_,by simpa [World.setCells] using this,ho,k0⟩
  ·obtain ⟨b,off,e,_⟩:=id (h h0)
   cases e
   have h':=h.kp k0
   have ho0:(w.alloc (.cells #[] 180)).ownsRow 0 180 5 (.slice (some ⟨w.heap.size,0,none⟩) 0 0) 0 []:=ho.mono (Nat.zero_le _)
   obtain ⟨g,cap,w',hr,r1,r2,r3⟩:=q2o (P:=Tryz.prog) (w:=w.alloc (.cells #[] 180)) 31 ty 180 i0 (.agg #[.int .i64 0, .int .i64 0, .string ⟨#[]⟩, .string ⟨#[]⟩, .int .i64 0]) 5 56 Tryz.underlying31 hi hz0 hz1 hz2 rfl (by decide) ho0 (some ⟨b,off,none⟩) x.length c (x.flatMap ptE) (q0N ptE 5 q0x x) (fun h=>by cases h) (fun a h=>by cases h;rfl) (fun a h=>by cases h;exact q9O h') (q1U x) (by unfold maxLen;omega) (by omega)
   rw[Nat.zero_add]at hr r1
   have hg:w.heap.size<=g:=by rcases r3 with e|e <;> omega
   refine ⟨g,cap,w',hr,OwnsP.base (n:=x.length) ?_ hg,k0.trans (Kp.of r2) (fun y hy=>Or.inr (by simp at hy;omega))⟩
   simpa [OwnsP] using r1
theorem q8G {ops:Array Oper}{o:Oper}{a:Act}{w v:World}{K:Act->World->Prop}{Q:Exit->Act->World->Prop}{E:Prop}
  (hg:o.guard=none) (s x:Operand) (hop:o.op=Op.call { callee:=Callee.builtin Builtin.append,args:=#[s,x],argTypes:=#[31,31] })
  {ad:Option Addr} {c m:Nat} {xs:List Pt} (hv:v=w.alloc (.cells #[] 180)) (hs:a.eval s= .slice (some ⟨w.heap.size,0,none⟩) 0 0) (hx:a.eval x= .slice ad m c) (hm:m=xs.length) (h:PtsAt w ad xs) (ha:ad=none->c=0) (hl:xs.length * 56<=140737488351232)
  (hK: ∀g cap w',OwnsP w.heap.size w' (.slice (some ⟨g,0,none⟩) m cap) xs->Kp [] w w'->K (a.put o.dst (.slice (some ⟨g,0,none⟩) m cap)) w'):
  if Region.wanted o (yielded ops a.tmps)=true then Oper.wp Tryz.prog o a v K Q else E:=by
 subst hm hv
 have hw:Region.wanted o (yielded ops a.tmps)=true:=by simp[Region.wanted,hg]
 rw[if_pos hw]
 obtain ⟨g,cap,w',hrun,r1,r2⟩:=q9Y h ha hl o.type
 unfold Oper.wp
 simp[execOp,hop,resolve,invoke,builtin,hs,hx,hrun,Result.andThen]
 exact hK g cap w' r1 r2
theorem qa9 {w:World}{b off:Nat}{l:List SR}(h:StsAt w (some ⟨b,off,none⟩) l): ∀j u,(l.flatMap srE)[j]?=some u->w.cell? ((⟨b,off,none⟩:Addr).add j)=some u:=by
 intro j u hj
 have hl:=q0N srE 4 q1z l
 have hjl:j<l.length * 4:=by
  rw[<-hl]
  exact (List.getElem?_eq_some_iff.1 hj).1
 have h7:=q1S srE 4 q1z l (j / 4) (j % 4) (by omega) (by omega)
 rw[show j / 4 * 4+j % 4=j by omega,hj]at h7
 obtain ⟨b',off',e,_,c0,c1,c2,c3,_⟩:=h.at (j / 4) (by omega)
 cases e
 have ea:(⟨b,off,none⟩:Addr).add j=⟨b,off+j / 4 * 4+j % 4,none⟩:=by rw[Go.WideShapes.add_plain];congr 1;omega
 rw[ea]
 rcases (show j % 4=0\/j % 4=1\/j % 4=2\/j % 4=3 by omega)with e|e|e|e
 all_goals
  rw[e]at h7 ⊢
  cases h7
  assumption
theorem q9X {w:World}{ad:Option Addr}{c:Nat}{x:List SR}(h:StsAt w ad x)(ha:ad=none->c=0)(hl:x.length * 56<=140737488351232)(ty:TypeId):
  ∃g cap w',(Builtin.append_ #[22,22] ty #[.slice (some ⟨w.heap.size,0,none⟩) 0 0, .slice ad x.length c]).run Tryz.prog (w.alloc (.cells #[] 33))= .ok (.slice (some ⟨g,0,none⟩) x.length cap) w'/\w'.ownsRow 0 33 4 (.slice (some ⟨g,0,none⟩) x.length cap) x.length (x.flatMap srE)/\w.heap.size<=g/\Kp [] w w':=by
 obtain ⟨i0,hi,hz0,hz1,hz2⟩:=info_parts q7A
 have ho:(w.alloc (.cells #[] 33)).ownsRow 0 33 4 (.slice (some ⟨w.heap.size,0,none⟩) 0 0) 0 []:=⟨rfl,Or.inr ⟨w.heap.size,0,#[],rfl,Nat.zero_le _,CBox.new w _ _,Nat.le_refl _,by unfold maxLen;omega,rfl,rfl⟩⟩
 have k0:=Kp.alloc w (.cells #[] 33)
 have hz:(w.alloc (.cells #[] 33)).heap.size=w.heap.size+1:=by simp
 cases ad with
 |none=>
  obtain rfl:=ha rfl
  obtain rfl:x=[]:=by
   rcases x with _|⟨p,r⟩
   ·rfl
   ·obtain ⟨b,off,e,_⟩:=h (by simp)
    cases e
  exact ⟨w.heap.size,0,_,by simpa using run_append_owned_none (P:=Tryz.prog) (w:=w.alloc (.cells #[] 33)) 0 _ ty 33 i0 4 Tryz.underlying22 hi _ _ _ ho,by simpa using ho,Nat.le_refl _,k0⟩
 |some a=>
  by_cases h0:x=[]
  ·subst h0
   have:=run_append_room_cells (P:=Tryz.prog) (w:=w.alloc (.cells #[] 33)) 22 ty 33 i0 Tryz.underlying22 hi w.heap.size 0 0 0 a 0 c [] (by simp) (fun j u hj=>by simp at hj) (fun u hu=>by cases hu) (by omega) (fun j hj=>absurd hj (by simp)) (fun j hj=>absurd hj (by simp))
   exact ⟨w.heap.size,0,_,by simpa [World.setCells] using this,by simpa using ho,Nat.le_refl _,k0⟩
  ·obtain ⟨b,off,e,_⟩:=id (h h0)
   cases e
   have h':=h.kp k0
   obtain ⟨g,cap,w',hr,r1,r2,r3⟩:=q2o (P:=Tryz.prog) (w:=w.alloc (.cells #[] 33)) 22 ty 33 i0 (.agg #[.string ⟨#[]⟩, .int .i64 0, .bool false, .slice none 0 0]) 4 56 Tryz.underlying22 hi hz0 hz1 hz2 rfl (by decide) ho (some ⟨b,off,none⟩) x.length c (x.flatMap srE) (q0N srE 4 q1z x) (fun h=>by cases h) (fun a h=>by cases h;rfl) (fun a h=>by cases h;exact qa9 h') (qdr x) (by unfold maxLen;omega) (by omega)
   rw[Nat.zero_add]at hr r1
   have hg:w.heap.size<=g:=by rcases r3 with e|e <;> omega
   exact ⟨g,cap,w',hr,by simpa using r1,hg,k0.trans (Kp.of r2) (fun y hy=>Or.inr (by simp at hy;omega))⟩
theorem PtsAt.kpF {F:List Nat}{w w':World}{ad:Option Addr}{l:List Pt}(h:PtsAt w ad l)(hk:Kp F w w')(hF:l≠[]-> ∀b off,ad=some ⟨b,off,none⟩->b∉F):PtsAt w' ad l:=fun hl=>by
 obtain ⟨b,off,e,hlt,hc⟩:=h hl
 have hb:=hF hl b off e
 refine ⟨b,off,e,Nat.lt_of_lt_of_le hlt hk.size,fun i hi=>?_⟩
 obtain ⟨c0,c1,c2,c3,c4⟩:=hc i hi
 exact ⟨hk.cell c0 hb,hk.cell c1 hb,hk.cell c2 hb,hk.cell c3 hb,hk.cell c4 hb⟩
structure CpG (w:World)(sa:Option Addr)(n sc:Nat)(wi:Int)(l:List SR)(g cap:Nat)(rs:List SR)(wr:World):Prop where
 kp:Kp [] w wr
 b0:CBox w.heap.size #[.slice sa n sc, .int .i64 wi] 24 wr
 b1:CBox (w.heap.size+1) #[.slice none 0 0, .int .i64 0] 24 wr
 b2:CBox (w.heap.size+2) #[.slice (some ⟨g,0,none⟩) n cap, .int .i64 wi] 24 wr
 ge:w.heap.size+3<=g
 len:rs.length=n
 cp:n<=cap
 sg:stgs rs=stgs l
 row: ∃cs,CBox g cs 33 wr/\ ∀i (h:i<rs.length) (j:Nat) (u:Value),(srE rs[i])[j]?=some u->cs[i * 4+j]?=some u
 cds: ∀r∈rs,PtsAt wr r.ad r.s.cd/\(r.s.cd≠[]-> ∀b off,r.ad=some ⟨b,off,none⟩->b≠g/\b≠w.heap.size+1/\(b<w.heap.size-> ∃r0∈l,r0.s.cd≠[]/\r0.ad=some ⟨b,off,none⟩))
theorem CpG.next {w wr w':World}{sa:Option Addr}{n sc g cap:Nat}{wi:Int}{l rs:List SR}(h:CpG w sa n sc wi l g cap rs wr)(hk:Kp [] wr w'):CpG w sa n sc wi l g cap rs w':=
 ⟨h.kp.trans hk (by simp),h.b0.kp hk (by simp),h.b1.kp hk (by simp),h.b2.kp hk (by simp),h.ge,h.len,h.cp,h.sg,let ⟨cs,a,b⟩:=h.row;⟨cs,a.kp hk (by simp),b⟩,fun r hr=>⟨(h.cds r hr).1.kp hk,(h.cds r hr).2⟩⟩
theorem CpG.put {w wr:World}{sa:Option Addr}{n sc g cap:Nat}{wi:Int}{l rs:List SR}(h:CpG w sa n sc wi l g cap rs wr){B:Nat}(hB:g<B){k:Nat}(hk:k<l.length){g5 cap5:Nat}(ho:OwnsP B wr (.slice (some ⟨g5,0,none⟩) l[k].s.cd.length cap5) l[k].s.cd):
  ∃rs',CpG w sa n sc wi l g cap rs' (wr.setCell ⟨g,k * 4+3,none⟩ (.slice (some ⟨g5,0,none⟩) l[k].s.cd.length cap5)):=by
 have hkr:k<rs.length:=by have:=congrArg List.length h.sg;rw[q02,q02]at this;omega
 have hs:rs[k].s=l[k].s:=by
  have h1:=q0J hkr
  have h2:=q0J hk
  rw[<-h1, <-h2]
  simp only[h.sg]
 have ks:=Kp.set wr g (k * 4+3) (.slice (some ⟨g5,0,none⟩) l[k].s.cd.length cap5)
 have hge:=h.ge
 obtain ⟨ad5,c5,e5,hat5,_⟩:=ho.at
 injection e5 with e6 _ _
 subst e6
 have hg5:=(World.ownsRow.lt ho g5 rfl).1
 obtain ⟨cs,hb,hc⟩:=h.row
 refine ⟨rs.set k ⟨l[k].s,some ⟨g5,0,none⟩,cap5⟩,h.kp.trans ks (fun x hx=>Or.inr (by simp at hx;omega)),h.b0.kp ks (by simp;omega),h.b1.kp ks (by simp;omega),h.b2.kp ks (by simp;omega),hge,by rw[List.length_set];exact h.len,h.cp,?_,⟨_,hb.set (k * 4+3) _,fun i hi j u hu=>?_⟩,fun r hr=>?_⟩
 ·rw[<-h.sg]
  unfold stgs
  rw[List.map_set]
  dsimp only
  rw[<-hs]
  apply List.ext_getElem?
  intro i
  rw[List.getElem?_set]
  split
  ·rename_i e
   subst e
   simp[hkr]
  ·rfl
 ·rw[List.length_set]at hi
  have hj:j<4:=by
   have:=(List.getElem?_eq_some_iff.1 hu).1
   rw[q1z]at this
   exact this
  rw[List.getElem_set]at hu
  split at hu
  ·rename_i e
   subst e
   have hcs:k * 4+3<cs.size:=(Array.getElem?_eq_some_iff.1 (hc k hkr 3 _ rfl)).1
   match j,hj,hu with
   |3,_,hu=>
    cases hu
    simp[hcs]
   |0,_,hu=>
    rw[Array.getElem?_setIfInBounds,if_neg (by omega)]
    exact hc k hkr 0 u (by unfold srE;rw[hs];exact hu)
   |1,_,hu=>
    rw[Array.getElem?_setIfInBounds,if_neg (by omega)]
    exact hc k hkr 1 u (by unfold srE;rw[hs];exact hu)
   |2,_,hu=>
    rw[Array.getElem?_setIfInBounds,if_neg (by omega)]
    exact hc k hkr 2 u (by unfold srE;rw[hs];exact hu)
  ·rename_i e
   rw[Array.getElem?_setIfInBounds,if_neg (by omega)]
   exact hc i hi j u hu
 ·rcases List.mem_or_eq_of_mem_set hr with hr|rfl
  ·have:=h.cds r hr
   exact ⟨this.1.kpF ks (fun hne b off e=>by simpa using (this.2 hne b off e).1),this.2⟩
  ·exact ⟨hat5.kpF ks (fun _ b off e=>by cases e;simp;omega),fun _ b off e=>by cases e;exact ⟨by omega,by omega,fun hlt=>by omega⟩⟩
structure RsO (g:Nat)(rs:List SR)(wr:World):Prop where
 row: ∃cs,CBox g cs 33 wr/\ ∀i (h:i<rs.length) (j:Nat) (u:Value),(srE rs[i])[j]?=some u->cs[i * 4+j]?=some u
 cds: ∀r∈rs,PtsAt wr r.ad r.s.cd/\(r.s.cd≠[]-> ∀b off,r.ad=some ⟨b,off,none⟩->b≠g)
theorem q43 (sa:Option Addr)(sc:Nat)(l:List SR)(wi:Int)(w:World)(h:StsAt w sa l)(ha:sa=none->sc=0)(hl:l.length * 56<=140737488351232)(hc: ∀r∈l,(r.ad=none->r.c=0)/\r.s.cd.length * 56<=140737488351232):
  Calls Tryz.prog 5 #[.agg #[.slice sa l.length sc, .int .i64 wi]] w fun e w'=> ∃g cap rs,e= .returned (.agg #[.slice (some ⟨g,0,none⟩) l.length cap, .int .i64 wi])/\StsAt w' (some ⟨g,0,none⟩) (rs:List SR)/\stgs rs=stgs l/\l.length<=cap/\Kp [] w w'/\w.heap.size<=g/\(∀r∈rs,r.s.cd≠[]-> ∀b off,r.ad=some ⟨b,off,none⟩->b<w.heap.size-> ∃r0∈l,r0.s.cd≠[]/\r0.ad=some ⟨b,off,none⟩)/\RsO g rs w':=by
 have k3:Kp [] w (((w.alloc (.cells #[.slice sa l.length sc, .int .i64 wi] 24)).alloc (.cells #[.slice none 0 0, .int .i64 0] 24)).alloc (.cells #[.slice sa l.length sc, .int .i64 wi] 24)):=((Kp.alloc _ _).trans (Kp.alloc _ _) (by simp)).trans (Kp.alloc _ _) (by simp)
 obtain ⟨g,cap,w1,hrun,hrow,hg,k1⟩:=q9X (c:=sc) (h.kp k3) ha hl 22
 have z3:(((w.alloc (.cells #[.slice sa l.length sc, .int .i64 wi] 24)).alloc (.cells #[.slice none 0 0, .int .i64 0] 24)).alloc (.cells #[.slice sa l.length sc, .int .i64 wi] 24)).heap.size=w.heap.size+3:=by simp
 rw[z3]at hg hrun
 have x0:=((q2h w #[.slice sa l.length sc, .int .i64 wi] 24 (.cells #[.slice none 0 0, .int .i64 0] 24)).kp (Kp.alloc _ (.cells #[.slice sa l.length sc, .int .i64 wi] 24)) (by simp)).kp k1 (by simp)
 have x1:=((q3x w #[.slice none 0 0, .int .i64 0] 24 (.cells #[.slice sa l.length sc, .int .i64 wi] 24)).kp (Kp.alloc _ (.cells #[.slice sa l.length sc, .int .i64 wi] 24)) (by simp)).kp k1 (by simp)
 have x2:=CBox.new ((w.alloc (.cells #[.slice sa l.length sc, .int .i64 wi] 24)).alloc (.cells #[.slice none 0 0, .int .i64 0] 24)) #[.slice sa l.length sc, .int .i64 wi] 24
 rw[show ((w.alloc (.cells #[.slice sa l.length sc, .int .i64 wi] 24)).alloc (.cells #[.slice none 0 0, .int .i64 0] 24)).heap.size=w.heap.size+2 by simp]at x2
 have x2':=x2.kp k1 (by simp)
 have k4:=Kp.set w1 (w.heap.size+2) 0 (.slice (some ⟨g,0,none⟩) l.length cap)
 have hS:CpG w sa l.length sc wi l g cap l (w1.setCell ⟨w.heap.size+2,0,none⟩ (.slice (some ⟨g,0,none⟩) l.length cap)):=by
  obtain ⟨_,⟨e,_⟩|⟨g',cp,cur,e,_,hb,hcap,_,_,hcur⟩⟩:=id hrow
  ·cases e
  ·injection e with e1 e2 e3
   cases e1
   subst e3
   refine ⟨(k3.trans k1 (by simp)).trans k4 (fun x hx=>Or.inr (by simp at hx;omega)),x0.kp k4 (by simp),x1.kp k4 (by simp),x2'.set 0 _,hg,rfl,hcap,rfl,⟨cur,CBox.kp (show CBox g cur 33 w1 from hb) k4 (by simp;omega),fun i hi j u hu=>?_⟩,fun r hr=>?_⟩
   ·have hj:j<4:=by
     have:=(List.getElem?_eq_some_iff.1 hu).1
     rw[q1z]at this
     exact this
    have:=q0o q1z hrow i j hi hj
    rw[hu]at this
    simpa [World.cell?,show w1.heap[g]?=_ from hb] using this
   ·obtain ⟨i,hi,rfl⟩:=List.mem_iff_getElem.1 hr
    obtain ⟨_,_,_,_,_,_,_,_,hp⟩:=h.at i hi
    have hp1:=(hp.kp k3).kp k1
    refine ⟨hp1.kpF k4 (fun hne b off e=>?_),fun hne b off e=>?_⟩
    ·obtain ⟨b',off',e',hlt,_⟩:=hp hne
     rw[e]at e'
     cases e'
     simp
     omega
    ·obtain ⟨b',off',e',hlt,_⟩:=hp hne
     rw[e]at e'
     cases e'
     exact ⟨by omega,by omega,fun _=>⟨_,List.getElem_mem hi,hne,e⟩⟩
 have HS0:=hZq hS
 have HRUN:=hZq hrun
 have d0:=x0.cell (i:=0) rfl
 have hz1:w.heap.size+3<=w1.heap.size:=by have:=k1.size;omega
 have f2:=x2'.froz 0
 have e2:=x2'.cell (i:=0) (v:= .slice sa l.length sc) rfl
 have HST:=hZq h
 have HC:=hZq hc
 have y0:=(q2h w #[.slice sa l.length sc, .int .i64 wi] 24 (.cells #[.slice none 0 0, .int .i64 0] 24)).cell (i:=0) (v:= .slice sa l.length sc) rfl
 have y1:=(q2h w #[.slice sa l.length sc, .int .i64 wi] 24 (.cells #[.slice none 0 0, .int .i64 0] 24)).cell (i:=1) (v:= .int .i64 wi) rfl
 clear hS hrun h hc x0 x1 x2 x2' k4 k1 k3 hrow z3
 obtain ⟨n,hn⟩: ∃n,l.length=n:=⟨_,rfl⟩
 have HN:=hZq hn
 rw[hn]at HS0 HRUN hl d0 e2 y0 y1 ⊢
 clear hn
 go_enter Tryz.func5,Tryz.ntmps5
 go_wp2_with (at_builtin;refine q0e rfl _ _ _ rfl rfl rfl (uQ HRUN) ?_)
 go_loopw [4] (fun i wr=> ∃(k:Nat) (rs:List SR),k<=n/\i= .int .i64 (k:Int)/\Hid (CpG w sa n sc wi l g cap rs wr)) (fun i _=>n-(intOf i).toNat)
 case atStart=>exact ⟨0,l,Nat.zero_le _,rfl,HS0⟩
 case round=>
  obtain ⟨k,rs,hk,rfl,HS⟩:=hrel
  clear HS0 d0 f2 e2 y0 y1
  have c2:wr.cell? ⟨w.heap.size+2,0,none⟩=some (.slice (some ⟨g,0,none⟩) n cap):=(uQ HS).b2.cell rfl
  by_cases hlt:k<n
  ·have hli:(k:Int)<(n:Int):=by omega
   have hkx:k<l.length:=by rw[uQ HN];exact hlt
   go_upto_region 6 with fail
   obtain ⟨b,off,rfl,hbl, -, -, -,q3,hpts⟩:=(uQ HST).at k hkx
   have hcr:=uQ HC _ (List.getElem_mem hkx)
   have q3':=(uQ HS).kp.cell q3 (by simp)
   have a0:wr.drew.cell? ⟨w.heap.size+2,0,none⟩=some (.slice (some ⟨g,0,none⟩) n cap)/\wr.drew.cell? ⟨w.heap.size,0,none⟩=some (.slice (some ⟨b,off,none⟩) n sc)/\wr.drew.cell? ⟨b,off+k * 4+3,none⟩=some (.slice l[k].ad l[k].s.cd.length l[k].c):=⟨c2,(uQ HS).b0.cell rfl,q3'⟩
   have RW:=hZq (fun W (hk:Kp [] wr.drew W)=>(show W.cell? ⟨w.heap.size+2,0,none⟩=some (.slice (some ⟨g,0,none⟩) n cap)/\W.cell? ⟨w.heap.size,0,none⟩=some (.slice (some ⟨b,off,none⟩) n sc)/\W.cell? ⟨b,off+k * 4+3,none⟩=some (.slice l[k].ad l[k].s.cd.length l[k].c) from ⟨hk.cell a0.1 (by simp),hk.cell a0.2.1 (by simp),hk.cell a0.2.2 (by simp)⟩))
   have kE:Kp [] wr.drew (wr.drew.alloc (.cells #[] 180)):=Kp.alloc _ _
   have a1:=uQ RW _ kE
   have hpE:=(hpts.kp (uQ HS).kp).kp (Kp.drew wr)
   have HPUT:Hid (∀g5 cap5 w5,OwnsP wr.drew.heap.size w5 (.slice (some ⟨g5,0,none⟩) l[k].s.cd.length cap5) l[k].s.cd->Kp [] wr.drew w5->(∃rs',CpG w (some ⟨b,off,none⟩) n sc wi l g cap rs' (w5.setCell ⟨g,k * 4+3,none⟩ (.slice (some ⟨g5,0,none⟩) l[k].s.cd.length cap5)))/\w5.cell? ⟨g,k * 4+3,none⟩≠none/\w5.frozen? ⟨g,k * 4+3,none⟩=false):=hZq (fun g5 cap5 w5 ho hk5=>by
    have S5:=((uQ HS).next (Kp.drew wr)).next hk5
    obtain ⟨cs,hb,hcs⟩:=(uQ HS).row
    have hgl:g<wr.drew.heap.size:=(Array.getElem?_eq_some_iff.1 hb).1
    refine ⟨S5.put hgl hkx ho,?_,?_⟩
    ·obtain ⟨cs,hb,hcs⟩:=S5.row
     have hkr:k<rs.length:=by rw[S5.len];exact hlt
     rw[hb.cell (hcs k hkr 3 _ rfl)]
     simp
    ·obtain ⟨cs,hb,hcs⟩:=S5.row
     exact hb.froz _)
   clear HST HC hpts q3 q3' hbl
   generalize l[k].s.cd=p at *
   generalize l[k].ad=ad at *
   generalize l[k].c=cc at *
   refine q0i (fun W=>W.cell? ⟨w.heap.size+2,0,none⟩=some (.slice (some ⟨g,0,none⟩) n cap)/\W.cell? ⟨w.heap.size,0,none⟩=some (.slice (some ⟨b,off,none⟩) n sc)/\W.cell? ⟨b,off+k * 4+3,none⟩=some (.slice ad p.length cc)) 13 (by kernel_rfl) ?_
   show q09 _ _ _ _ _ _ 14 (Array.replicate 14 false) _ _
   refine zzL (i:=0) (v:=?_) rfl (Or.inl ⟨by rfl,?_⟩) a0 ?_
   rotate_left
   ·intro w0 s9;(try dsimp only at s9);go_simp;(try with_reducible rfl)
   try simp only[Act.put,zz1,zz2,zz3]
   refine zzL (i:=1) (v:=?_) rfl (Or.inl ⟨by rfl,?_⟩) a0 ?_
   rotate_left
   ·intro w0 s9;(try dsimp only at s9);go_simp;(try with_reducible rfl)
   try simp only[Act.put,zz1,zz2,zz3]
   refine zzL (i:=2) (v:=?_) rfl (Or.inl ⟨by rfl,?_⟩) a0 ?_
   rotate_left
   ·intro w0 s9;(try dsimp only at s9);go_simp;(try with_reducible rfl)
   try simp only[Act.put,zz1,zz2,zz3]
   refine zzL (i:=4) (v:=?_) rfl (Or.inl ⟨by rfl,?_⟩) a0 ?_
   rotate_left
   ·intro w0 s9;(try dsimp only at s9);go_simp;(try with_reducible rfl)
   try simp only[Act.put,zz1,zz2,zz3]
   refine zzL (i:=5) (v:=?_) rfl (Or.inl ⟨by rfl,?_⟩) a0 ?_
   rotate_left
   ·intro w0 s9;(try dsimp only at s9);go_simp;(try with_reducible rfl)
   try simp only[Act.put,zz1,zz2,zz3]
   refine zzL (i:=6) (v:=?_) rfl (Or.inl ⟨by rfl,?_⟩) a0 ?_
   rotate_left
   ·intro w0 s9;(try dsimp only at s9);go_simp;(try with_reducible rfl)
   try simp only[Act.put,zz1,zz2,zz3]
   refine zzL (i:=7) (v:=?_) rfl (Or.inl ⟨by rfl,?_⟩) a0 ?_
   rotate_left
   ·intro w0 s9;(try dsimp only at s9);go_simp;(try with_reducible rfl)
   try simp only[Act.put,zz1,zz2,zz3]
   refine zzL (i:=8) (v:=?_) rfl (Or.inl ⟨by rfl,?_⟩) a0 ?_
   rotate_left
   ·intro w0 s9;(try dsimp only at s9);go_simp;(try with_reducible rfl)
   try simp only[Act.put,zz1,zz2,zz3]
   refine zzL (i:=9) (v:=?_) rfl (Or.inl ⟨by rfl,?_⟩) a0 ?_
   rotate_left
   ·intro w0 s9;(try dsimp only at s9);go_simp;(try with_reducible rfl)
   try simp only[Act.put,zz1,zz2,zz3]
   refine q01 (i:=3) rfl (by kernel_rfl) (fun K hK=>?_)
   go_simp
   refine hK _ _ (Or.inr a1) ?_
   refine q01 (i:=10) rfl (by kernel_rfl) (fun K hK=>?_)
   refine q8G rfl (.tmp 21) (.tmp 27) rfl (w:=wr.drew) rfl rfl rfl rfl hpE hcr.1 hcr.2 ?_
   intro g5 cap5 w5 own5 k5
   have a5:=uQ RW w5 k5
   obtain ⟨⟨rs',S6⟩,hne,hfz⟩:=uQ HPUT g5 cap5 w5 own5 k5
   obtain ⟨u5,hu5⟩:=Option.ne_none_iff_exists'.1 hne
   have HS6:=hZq S6
   clear own5 k5 S6 hne HPUT RW
   refine hK _ _ (Or.inr a5) ?_
   try simp only[Act.put,zz1,zz2,zz3]
   refine q01 (i:=11) rfl (by kernel_rfl) (fun K hK=>?_)
   go_simp
   refine hK _ _ (Or.inr a5) ?_
   refine q01 (i:=12) rfl (by kernel_rfl) (fun K hK=>?_)
   go_simp
   refine hK _ _ (Or.inr a5) ?_
   refine q01 (i:=13) rfl (by kernel_rfl) (fun K hK=>?_)
   go_simp
   refine hK _ _ (Or.inl rfl) ?_
   refine q0b (by kernel_rfl) ?_ _
   clear a0 a1 c2 kE hpE a5
   go_wp2
   go_roundw
   case rel=>exact ⟨k+1,rs',by omega,by go_num,HS6⟩
   case measure=>simp[intOf];omega
  ·have hlt': ¬ ((k:Int)<(n:Int)):=by omega
   obtain rfl:k=n:=by omega
   have x1:wr.cell? ⟨w.heap.size+2,1,none⟩=some (.int .i64 wi):=(uQ HS).b2.cell rfl
   have fR:wr.cell? ⟨w.heap.size+1,0,none⟩=some (.slice none 0 0)/\wr.cell? ⟨w.heap.size+1,1,none⟩=some (.int .i64 0):=⟨(uQ HS).b1.cell rfl,(uQ HS).b1.cell rfl⟩
   have rR:wr.frozen? ⟨w.heap.size+1,0,none⟩=false/\wr.frozen? ⟨w.heap.size+1,1,none⟩=false:=⟨(uQ HS).b1.froz 0,(uQ HS).b1.froz 1⟩
   have k2:=(Kp.set wr (w.heap.size+1) 0 (.slice (some ⟨g,0,none⟩) k cap)).trans (Kp.set _ (w.heap.size+1) 1 (.int .i64 wi)) (fun x hx=>Or.inl hx)
   have hst:StsAt ((wr.setCell ⟨w.heap.size+1,0,none⟩ (.slice (some ⟨g,0,none⟩) k cap)).setCell ⟨w.heap.size+1,1,none⟩ (.int .i64 wi)) (some ⟨g,0,none⟩) rs:=fun _=>by
    obtain ⟨cs,hb,hc⟩:=(uQ HS).row
    have hge:=(uQ HS).ge
    have hb':=hb.kp k2 (by simp;omega)
    refine ⟨g,0,rfl,(Array.getElem?_eq_some_iff.1 hb').1,fun i hi=>?_⟩
    simp only[Nat.zero_add]
    have hcd:=(uQ HS).cds _ (List.getElem_mem hi)
    exact ⟨hb'.cell (hc i hi 0 _ rfl),hb'.cell (hc i hi 1 _ rfl),hb'.cell (hc i hi 2 _ rfl),hb'.cell (hc i hi 3 _ rfl),hcd.1.kpF k2 (fun hne b off e=>by simpa using (hcd.2 hne b off e).2.1)⟩
   have hro:RsO g rs ((wr.setCell ⟨w.heap.size+1,0,none⟩ (.slice (some ⟨g,0,none⟩) k cap)).setCell ⟨w.heap.size+1,1,none⟩ (.int .i64 wi)):=by
    obtain ⟨cs,hb,hc⟩:=(uQ HS).row
    have hge:=(uQ HS).ge
    refine ⟨⟨cs,hb.kp k2 (by simp;omega),hc⟩,fun r hr=>?_⟩
    have hcd:=(uQ HS).cds r hr
    exact ⟨hcd.1.kpF k2 (fun hne b off e=>by simpa using (hcd.2 hne b off e).2.1),fun hne b off e=>(hcd.2 hne b off e).1⟩
   have HF:=hZq (And.intro hst (And.intro (uQ HS).sg (And.intro (uQ HS).cp (And.intro ((uQ HS).kp.trans k2 (fun x hx=>Or.inr (by simp at hx;omega))) (And.intro (show w.heap.size<=g by have:=(uQ HS).ge;omega) (And.intro (fun r hr hne b off e hlt=>((uQ HS).cds r hr).2 hne b off e |>.2.2 hlt) hro))))))
   clear hst hro k2 HS HST HC
   go_wp2
   exact bodyPost_ret (v:= .agg #[.slice (some ⟨g,0,none⟩) k cap, .int .i64 wi]) (by simp[results,Tryz.results5,go_sem,fR]) rfl ⟨g,cap,rfl,rs,uQ HF⟩
theorem RsO.up {g:Nat}{rs:List SR}{wr w':World}(h:RsO g rs wr)(hk:Kp [] wr w'):RsO g rs w':=
 ⟨let ⟨cs,a,b⟩:=h.row;⟨cs,a.kp hk (by simp),b⟩,fun r hr=>⟨(h.cds r hr).1.kp hk,(h.cds r hr).2⟩⟩
end Go.Proofs.YtaklhcidojhnfaaGreatDoor
