/-
  Walks.
-/
import Derived.Test.YtfgkikeeadlcfaaGreatDoorMs09
import Derived.Sort.Grow
import Derived.Shelf.SlSortCmp.Insertion
import Derived.Shelf.SlSortCmp.NoneTotal
import Derived.Ground.SlsfProg
set_option maxRecDepth 100000
set_option maxHeartbeats 8000000
set_option linter.unusedSimpArgs false
namespace Go.Proofs.YtfgkikeeadlcfaaGreatDoor
open Go.RowKit
def StagesAt (w:World)(ad:Option Addr)(ss:List (List Int)):Prop:=
 ss≠[]-> ∃b off,ad=some ⟨b,off,none⟩/\b<w.heap.size/\ ∀i (h:i<ss.length), ∃a c,w.cell? ⟨b,off+i,none⟩=some (.slice a ss[i].length c)/\IntsAt w a ss[i]
theorem StagesAt.below {w w':World}{B:Nat}{ad:Option Addr}{ss:List (List Int)}(h:StagesAt w ad ss)(hb:Below B w w')(hB:w.heap.size<=B):StagesAt w' ad ss:=fun hl=>by
 obtain ⟨b,off,e,hlt,hc⟩:=h hl
 refine ⟨b,off,e,Nat.lt_of_lt_of_le hlt hb.size,fun i hi=>?_⟩
 obtain ⟨a,c,h1,h2⟩:=hc i hi
 exact ⟨a,c,(hb.cell (p:=⟨b,off+i,none⟩) (Nat.lt_of_lt_of_le hlt hB)).trans h1,h2.below hb hB⟩
def q1u (p:List Int):Int:=p.getD (p.length-1) 0
def q0u:Int->Int->List (List Int)->Bool
 |_,_,[]=>true
 |left,a,p::r=>if p.length<1\/left<(p.length:Int)\/q0H a p=false then false else q0u (left-p.length) (q1u p) r
def mayM (k:ByteArray)(ss:List (List Int)):Bool:=q0q k && decide (1<=ss.length) && decide (ss.length<=8) && q0u 256 (-1) ss
def chkM (k:ByteArray)(ss:List (List Int)):Int:=if mayM k ss=true then 0 else 20
def MtOk (k:ByteArray)(ss:List (List Int)):Prop:=k.size<=9223372036854775807/\ss.length<=9223372036854775807/\ ∀p∈ss,p.length<=9223372036854775807
theorem q50 {p:List Int}(h:0<p.length):q1u p=p[p.length-1]'(by omega):=by
 unfold q1u;rw[List.getD_eq_getElem?_getD,zE (by omega)];rfl
theorem q1v (k:ByteArray)(ad:Option Addr)(cap:Nat)(ss:List (List Int))(w:World)(hok:MtOk k ss)(hA:StagesAt w ad ss):
  Calls Tryz.prog 7 #[.agg #[.string k, .slice ad ss.length cap]] w fun e w'=>e= .returned (.int .i64 (chkM k ss))/\w'=w.alloc (.cells #[.string k, .slice ad ss.length cap] 36):=by
 obtain ⟨hk,hs,hp⟩:=hok
 have hname:=fun w=>q2F k w hk
 by_cases h1:q0q k=true
 ·simp only[h1]at hname
  have HN:=hZq hname
  clear hname
  by_cases h2:1<=ss.length
  ·by_cases h3:ss.length<=8
   ·have hR:chkM k ss=if q0u 256 (-1) ss=true then 0 else 20:=by unfold chkM mayM;simp[h1,h2,h3]
    rw[hR]
    clear hR
    generalize hR:q0u 256 (-1) ss=R
    have HR:=hZq hR
    have hA':=hA.below ((Below.refl w.heap.size w).alloc (zM _) (.cells #[.string k, .slice ad ss.length cap] 36)) (zM _)
    have HA:=hZq hA'
    have HP:=hZq hp
    clear hR hA hA' hp h1 hk
    go_enter Tryz.func7,Tryz.ntmps7
    go_wp2_with fail
    refine (uQ HN _).mono ?_
    rintro e w1 ⟨rfl,rfl⟩
    go_wp2_with fail
    generalize hW:w.alloc (.cells #[.string k, .slice ad ss.length cap] 36)=W at *
    go_loop [3,4,26] (fun l a i=> ∃(j:Nat) (x y:Int),j<=ss.length/\i= .int .i64 (j:Int)/\l= .int .i64 x/\a= .int .i64 y/\0<=x/\x<=256/\Hid (q0u x y (ss.drop j)=R)) (fun _ _ i=>ss.length-(intOf i).toNat)
    case atStart=>exact ⟨0,256, -1,Nat.zero_le _,rfl,rfl,rfl,by omega,by omega,HR⟩
    case round=>
     obtain ⟨j,x,y,hj,rfl,rfl,rfl,hx0,hx1,HK⟩:=hrel
     by_cases hlt:j<ss.length
     ·obtain ⟨b,off,rfl,_,hc⟩:=uQ HA (fun e=>by rw[e]at hlt;simp at hlt)
      obtain ⟨pa,pc,hcell,hI⟩:=hc j hlt
      have hK:=uQ HK
      rw[List.drop_eq_getElem_cons hlt,q0u]at hK
      have hpl:=uQ HP ss[j] (zJ hlt)
      clear hc HA HR HK HP
      generalize ss[j]=p at *
      by_cases g1:p.length<1
      ·rw[if_pos (Or.inl g1)]at hK
       subst hK
       clear hI
       generalize p.length=m at *
       go_wp2
       go_ret
       exact ⟨rfl,rfl⟩
      ·by_cases g2:x<(p.length:Int)
       ·rw[if_pos (Or.inr (Or.inl g2))]at hK
        subst hK
        clear hI
        generalize p.length=m at *
        go_wp2
        go_ret
        exact ⟨rfl,rfl⟩
       ·have hr:=qbP y pa pc p W hpl hI
        by_cases g3:q0H y p=false
        ·rw[if_pos (Or.inr (Or.inr g3))]at hK
         subst hK
         rw[g3]at hr
         have HRI:=hZq hr
         clear hr hI g3
         generalize p.length=m at *
         go_wp2_with fail
         refine (uQ HRI).mono ?_
         rintro e w2 ⟨rfl,rfl⟩
         go_wp2
         go_ret
         exact ⟨rfl,rfl⟩
        ·rw[if_neg (by rintro (h|h|h);exact g1 h;exact g2 h;exact g3 h)]at hK
         have g3':q0H y p=true:=by simpa using g3
         rw[g3']at hr
         have HK:=hZq hK
         have HRI:=hZq hr
         have hlast:=q50 (p:=p) (by omega)
         obtain ⟨pb,po,rfl,_,hpc⟩:=hI (fun e=>by rw[e]at g1;simp at g1)
         have hcl:=hpc (p.length-1) (by omega)
         rw[<-hlast]at hcl
         generalize q1u p=z at *
         clear hr g3 g3' hK hpc hlast
         generalize p.length=m at *
         obtain ⟨m,rfl⟩: ∃q,m=q+1:=⟨m-1,by omega⟩
         rw[Nat.add_sub_cancel]at hcl
         have em:(((m+1:Nat)):Int)-1=(m:Int):=by omega
         go_wp2_with fail
         refine (uQ HRI).mono ?_
         rintro e w2 ⟨rfl,rfl⟩
         go_wp2
         go_round
         case rel=>exact ⟨j+1,_,z,by omega,by go_num,rfl,rfl,by omega,by omega,HK⟩
         case measure=>simp[intOf];omega
     ·have hK:=uQ HK
      rw[List.drop_of_length_le (by omega),q0u]at hK
      subst hK
      clear HK HR
      go_wp2
      go_ret
      exact ⟨rfl,rfl⟩
   ·have hR:chkM k ss=20:=by unfold chkM mayM;simp[h3]
    rw[hR]
    clear hR hA hp h1 hk
    generalize ss.length=n at *
    go_enter Tryz.func7,Tryz.ntmps7
    go_wp2_with fail
    refine (uQ HN _).mono ?_
    rintro e w1 ⟨rfl,rfl⟩
    go_wp2
    go_ret
    exact ⟨rfl,rfl⟩
  ·have hR:chkM k ss=20:=by unfold chkM mayM;simp[h2]
   rw[hR]
   clear hR hA hp h1 hk
   generalize ss.length=n at *
   go_enter Tryz.func7,Tryz.ntmps7
   go_wp2_with fail
   refine (uQ HN _).mono ?_
   rintro e w1 ⟨rfl,rfl⟩
   go_wp2
   go_ret
   exact ⟨rfl,rfl⟩
 ·have h1':q0q k=false:=by simpa using h1
  have hR:chkM k ss=20:=by unfold chkM mayM;simp[h1']
  rw[hR]
  simp only[h1']at hname
  have HN:=hZq hname
  clear hname hR hA hp h1 h1' hk
  generalize ss.length=n at *
  go_enter Tryz.func7,Tryz.ntmps7
  go_wp2_with fail
  refine (uQ HN _).mono ?_
  rintro e w1 ⟨rfl,rfl⟩
  go_wp2
  go_ret
  exact ⟨rfl,rfl⟩
theorem q4i: ∀(x a:Int) (ss:List (List Int)),q0u x a ss=true-> ∀p∈ss,0<p.length
 |_,_,[],_,p,hp=>by cases hp
 |x,a,q::r,h,p,hp=>by
  rw[q0u]at h
  split at h
  ·cases h
  ·rename_i hn
   rcases zH.1 hp with rfl|hp
   ·rcases Nat.eq_zero_or_pos p.length with e|e
    ·exact absurd (Or.inl (by omega)) hn
    ·exact e
   ·exact q4i _ _ r h p hp
theorem q4D {k:ByteArray}{ss:List (List Int)}(h:mayM k ss=true):0<ss.length/\ss.length<=8/\ ∀p∈ss,0<p.length:=by
 unfold mayM at h
 simp only[Bool.and_eq_true,decide_eq_true_eq]at h
 exact ⟨by omega,by omega,q4i _ _ _ h.2⟩
def q1c (ss:List (List Int)):Int:=q1u (ss.getD (ss.length-1) [])
theorem q2Y (k:ByteArray)(ad:Option Addr)(cap:Nat)(ss:List (List Int))(w:World)(hok:MtOk k ss)(hm:mayM k ss=true)(hA:StagesAt w ad ss):
  Calls Tryz.prog 24 #[.agg #[.string k, .slice ad ss.length cap]] w fun e w'=>e= .returned (.int .i64 (q1c ss))/\w'=w.alloc (.cells #[.string k, .slice ad ss.length cap] 36):=by
 obtain ⟨h0,h8,hne⟩:=q4D hm
 have hA':=hA.below ((Below.refl w.heap.size w).alloc (zM _) (.cells #[.string k, .slice ad ss.length cap] 36)) (zM _)
 obtain ⟨b,off,rfl,_,hc⟩:=hA' (fun e=>by rw[e]at h0;simp at h0)
 obtain ⟨pa,pc,hcell,hI⟩:=hc (ss.length-1) (by omega)
 have hp0:=hne _ (zJ (show ss.length-1<ss.length by omega))
 have hpl:=hok.2.2 _ (zJ (show ss.length-1<ss.length by omega))
 have hL:q1c ss=q1u (ss[ss.length-1]'(by omega)):=by unfold q1c;rw[List.getD_eq_getElem?_getD,zE (by omega)];rfl
 rw[hL]
 clear hL hc hne hA hA' hok hm
 generalize ss[ss.length-1]'(by omega)=p at *
 have hlast:=q50 (p:=p) hp0
 obtain ⟨pb,po,rfl,_,hpc⟩:=hI (fun e=>by rw[e]at hp0;simp at hp0)
 have hcl:=hpc (p.length-1) (by omega)
 rw[<-hlast]at hcl
 clear hI hpc hlast
 generalize q1u p=z at *
 generalize p.length=m at *
 generalize ss.length=n at *
 obtain ⟨m,rfl⟩: ∃q,m=q+1:=⟨m-1,by omega⟩
 obtain ⟨n,rfl⟩: ∃q,n=q+1:=⟨n-1,by omega⟩
 rw[Nat.add_sub_cancel]at hcl hcell
 have em:(((m+1:Nat)):Int)-1=(m:Int):=by omega
 have en:(((n+1:Nat)):Int)-1=(n:Int):=by omega
 go_enter Tryz.func24,Tryz.ntmps24
 go_wp2
 go_ret
 exact ⟨rfl,rfl⟩
section
open Go.RowKit Go.Lib
theorem q8B (x:Int)(w:World):Calls Tryz.prog 47 #[.int .i64 x] w fun e w'=>e= .returned (.bool false)/\w'=w:=by
 go_enter Tryz.func47,Tryz.ntmps47
 go_wp2
 all_goals (go_ret;exact ⟨by simp,rfl⟩)
theorem q5A (x y:Int)(w:World):Calls Tryz.prog 23 #[.int .i64 x, .int .i64 y] w fun e w'=>e= .returned (.int .i64 (Lib.compareInt x y))/\w'=w:=by
 have h1:=fun x w=>q8B x w
 go_enter Tryz.func23,Tryz.ntmps23
 go_wp2_with (refine (h1 _ _).mono ?_;rintro e w' ⟨rfl,hw⟩;rw[hw])
 all_goals (go_ret;refine ⟨?_,rfl⟩;unfold Lib.compareInt;(repeat' split) <;> first|rfl|(exfalso;omega))
end
theorem q6A (a1 a2:Option Addr)(c1 c2:Nat)(xs ys:List Int)(w:World)(hl1:xs.length<=9223372036854775807)(_hl2:ys.length<=9223372036854775807)(h1:IntsAt w a1 xs)(h2:IntsAt w a2 ys):
  Calls Tryz.prog 26 #[.slice a1 xs.length c1, .slice a2 ys.length c2] w fun e w'=>e= .returned (.int .i64 (cL Lib.compareInt xs ys))/\w'=w:=by
 generalize hR:cL Lib.compareInt xs ys=R
 have HR:=hZq hR
 have H1:=hZq h1
 have H2:=hZq h2
 clear hR h1 h2
 go_enter Tryz.func26,Tryz.ntmps26
 go_wp2
 go_loop [11] (fun i=> ∃k:Nat,k<=xs.length/\k<=ys.length/\i= .int .i64 (k:Int)/\Hid (cL Lib.compareInt (xs.drop k) (ys.drop k)=R)) (fun i=>xs.length-(intOf i).toNat)
 case atStart=>exact ⟨0,Nat.zero_le _,Nat.zero_le _,rfl,HR⟩
 case round=>
  obtain ⟨k,hk1,hk2,rfl,HK⟩:=hrel
  by_cases hx:k<xs.length
  ·obtain ⟨b1,o1,rfl,_,q1⟩:=uQ H1 (fun e=>by rw[e]at hx;simp at hx)
   have x1:=q1 k hx
   have hK:=uQ HK
   rw[List.drop_eq_getElem_cons hx]at hK
   clear q1 H1 HK HR
   generalize xs[k]=x at *
   by_cases hy:k<ys.length
   ·obtain ⟨b2,o2,rfl,_,q2⟩:=uQ H2 (fun e=>by rw[e]at hy;simp at hy)
    have y1:=q2 k hy
    rw[List.drop_eq_getElem_cons hy]at hK
    clear q2 H2
    generalize ys[k]=y at *
    simp only[cL]at hK
    have hc:=fun w=>q5A x y w
    by_cases h0:Lib.compareInt x y=0
    ·rw[if_pos h0]at hK
     simp only[h0]at hc
     have HC:=hZq hc
     have HK:=hZq hK
     clear hc hK h0
     go_wp2_with fail
     refine (uQ HC _).mono ?_
     rintro e w1 ⟨rfl,rfl⟩
     go_wp2
     go_round
     case rel=>exact ⟨k+1,by omega,by omega,by go_num,HK⟩
     case measure=>simp[intOf];omega
    ·rw[if_neg h0]at hK
     rw[hK]at hc h0
     have g:(R != 0)=true:=by rw[bne_iff_ne];exact h0
     have HC:=hZq hc
     clear hc hK h0
     go_wp2_with fail
     refine (uQ HC _).mono ?_
     rintro e w1 ⟨rfl,rfl⟩
     go_wp2
     go_ret
     exact ⟨rfl,rfl⟩
   ·have hd:ys.drop k=[]:=List.drop_of_length_le (by omega)
    rw[hd]at hK
    simp only[cL]at hK
    subst hK
    clear H2 hd
    go_wp2
    go_ret
    exact ⟨rfl,rfl⟩
  ·have hK:=uQ HK
   rw[List.drop_of_length_le (by omega)]at hK
   clear HK HR H1 H2
   by_cases hy:k<ys.length
   ·rw[List.drop_eq_getElem_cons hy]at hK
    simp only[cL]at hK
    subst hK
    have hlt:(xs.length:Int)<(ys.length:Int):=by omega
    go_wp2
    go_ret
    exact ⟨rfl,rfl⟩
   ·rw[List.drop_of_length_le (by omega)]at hK
    simp only[cL]at hK
    subst hK
    have hlt: ¬ ((xs.length:Int)<(ys.length:Int)):=by omega
    go_wp2
    go_ret
    exact ⟨rfl,rfl⟩
theorem q3S (a1 a2:Option Addr)(c1 c2:Nat)(xs ys:List (List Int))(w:World)(hl1:xs.length<=9223372036854775807)(_hl2:ys.length<=9223372036854775807)(hp1: ∀p∈xs,p.length<=9223372036854775807)(hp2: ∀p∈ys,p.length<=9223372036854775807)(h1:StagesAt w a1 xs)(h2:StagesAt w a2 ys):
  Calls Tryz.prog 25 #[.slice a1 xs.length c1, .slice a2 ys.length c2, .func (.func 26) #[] #[]] w fun e w'=>e= .returned (.int .i64 (cL (cL Lib.compareInt) xs ys))/\w'=w:=by
 generalize hR:cL (cL Lib.compareInt) xs ys=R
 have HR:=hZq hR
 have H1:=hZq h1
 have H2:=hZq h2
 have P1:=hZq hp1
 have P2:=hZq hp2
 clear hR h1 h2 hp1 hp2
 go_enter Tryz.func25,Tryz.ntmps25
 go_wp2
 go_loop [13] (fun i=> ∃k:Nat,k<=xs.length/\k<=ys.length/\i= .int .i64 (k:Int)/\Hid (cL (cL Lib.compareInt) (xs.drop k) (ys.drop k)=R)) (fun i=>xs.length-(intOf i).toNat)
 case atStart=>exact ⟨0,Nat.zero_le _,Nat.zero_le _,rfl,HR⟩
 case round=>
  obtain ⟨k,hk1,hk2,rfl,HK⟩:=hrel
  by_cases hx:k<xs.length
  ·obtain ⟨b1,o1,rfl,_,q1⟩:=uQ H1 (fun e=>by rw[e]at hx;simp at hx)
   obtain ⟨p1,m1,x1,i1⟩:=q1 k hx
   have l1:=uQ P1 xs[k] (zJ hx)
   have hK:=uQ HK
   rw[List.drop_eq_getElem_cons hx]at hK
   clear q1 H1 HK HR P1
   generalize xs[k]=x at *
   by_cases hy:k<ys.length
   ·obtain ⟨b2,o2,rfl,_,q2⟩:=uQ H2 (fun e=>by rw[e]at hy;simp at hy)
    obtain ⟨p2,m2,y1,i2⟩:=q2 k hy
    have l2:=uQ P2 ys[k] (zJ hy)
    rw[List.drop_eq_getElem_cons hy]at hK
    clear q2 H2 P2
    generalize ys[k]=y at *
    simp only[cL]at hK
    have hc:=q6A p1 p2 m1 m2 x y w l1 l2 i1 i2
    by_cases h0:cL Lib.compareInt x y=0
    ·rw[if_pos h0]at hK
     rw[h0]at hc
     have HC:=hZq hc
     have HK:=hZq hK
     clear hc hK h0 i1 i2
     generalize x.length=nx at *
     generalize y.length=ny at *
     go_wp2_with fail
     refine (uQ HC).mono ?_
     rintro e w1 ⟨rfl,rfl⟩
     go_wp2
     go_round
     case rel=>exact ⟨k+1,by omega,by omega,by go_num,HK⟩
     case measure=>simp[intOf];omega
    ·rw[if_neg h0]at hK
     rw[hK]at hc h0
     have g:(R != 0)=true:=by rw[bne_iff_ne];exact h0
     have HC:=hZq hc
     clear hc hK h0 i1 i2
     generalize x.length=nx at *
     generalize y.length=ny at *
     go_wp2_with fail
     refine (uQ HC).mono ?_
     rintro e w1 ⟨rfl,rfl⟩
     go_wp2
     go_ret
     exact ⟨rfl,rfl⟩
   ·have hd:ys.drop k=[]:=List.drop_of_length_le (by omega)
    rw[hd]at hK
    simp only[cL]at hK
    subst hK
    clear H2 hd i1 P2
    generalize x.length=nx at *
    go_wp2
    go_ret
    exact ⟨rfl,rfl⟩
  ·have hK:=uQ HK
   rw[List.drop_of_length_le (by omega)]at hK
   clear HK HR H1 H2 P1 P2
   by_cases hy:k<ys.length
   ·rw[List.drop_eq_getElem_cons hy]at hK
    simp only[cL]at hK
    subst hK
    have hlt:(xs.length:Int)<(ys.length:Int):=by omega
    go_wp2
    go_ret
    exact ⟨rfl,rfl⟩
   ·rw[List.drop_of_length_le (by omega)]at hK
    simp only[cL]at hK
    subst hK
    have hlt: ¬ ((xs.length:Int)<(ys.length:Int)):=by omega
    go_wp2
    go_ret
    exact ⟨rfl,rfl⟩
def orL:List Int->Int
 |[]=>0
 |x::r=>if x=0 then orL r else x
theorem qeq (a1:Option Addr)(c1:Nat)(xs:List Int)(w:World)(hl1:xs.length<=9223372036854775807)(h1:IntsAt w a1 xs):
  Calls Tryz.prog 22 #[.slice a1 xs.length c1] w fun e w'=>e= .returned (.int .i64 (orL xs))/\w'=w:=by
 generalize hR:orL xs=R
 have HR:=hZq hR
 have H1:=hZq h1
 clear hR h1
 go_enter Tryz.func22,Tryz.ntmps22
 go_wp2
 go_loop [8] (fun i=> ∃k:Nat,k<=xs.length/\i= .int .i64 (k:Int)/\Hid (orL (xs.drop k)=R)) (fun i=>xs.length-(intOf i).toNat)
 case atStart=>exact ⟨0,Nat.zero_le _,rfl,HR⟩
 case round=>
  obtain ⟨k,hk1,rfl,HK⟩:=hrel
  by_cases hx:k<xs.length
  ·obtain ⟨b1,o1,rfl,_,q1⟩:=uQ H1 (fun e=>by rw[e]at hx;simp at hx)
   have x1:=q1 k hx
   have hK:=uQ HK
   rw[List.drop_eq_getElem_cons hx,orL]at hK
   clear q1 H1 HK HR
   generalize xs[k]=x at *
   by_cases h0:x=0
   ·rw[if_pos h0]at hK
    subst h0
    have HK:=hZq hK
    clear hK
    go_wp2
    go_round
    case rel=>exact ⟨k+1,by omega,by go_num,HK⟩
    case measure=>simp[intOf];omega
   ·rw[if_neg h0]at hK
    subst hK
    have g:(x != 0)=true:=by rw[bne_iff_ne];exact h0
    clear h0
    go_wp2
    go_ret
    exact ⟨rfl,rfl⟩
  ·have hK:=uQ HK
   rw[List.drop_of_length_le (by omega),orL]at hK
   subst hK
   clear HK HR H1
   go_wp2
   go_ret
   exact ⟨rfl,rfl⟩
def cM (k1:ByteArray)(s1:List (List Int))(k2:ByteArray)(s2:List (List Int)):Int:=
 orI (Lib.compareInt (q1c s1) (q1c s2)) (orI (cL (cL Lib.compareInt) s1 s2) (Lib.compareBytes k1.data.toList k2.data.toList))
def cmpE (k1:ByteArray)(s1:List (List Int))(k2:ByteArray)(s2:List (List Int)):Int:=if mayM k1 s1=true/\mayM k2 s2=true then 0 else 20
def cmpV (k1:ByteArray)(s1:List (List Int))(k2:ByteArray)(s2:List (List Int)):Int:=if mayM k1 s1=true/\mayM k2 s2=true then cM k1 s1 k2 s2 else 0
def MBox (g:Nat)(k:ByteArray)(ad:Option Addr)(n cap:Nat)(w:World):Prop:=w.heap[g]?=some (.cells #[.string k, .slice ad n cap] 36 (0,0))
theorem MBox.cells {g:Nat}{k:ByteArray}{ad:Option Addr}{n cap:Nat}{w:World}(h:MBox g k ad n cap w):w.cell? ⟨g,0,none⟩=some (.string k)/\w.cell? ⟨g,1,none⟩=some (.slice ad n cap):=by
 unfold MBox at h
 simp[World.cell?,h]
theorem MBox.lt {g:Nat}{k:ByteArray}{ad:Option Addr}{n cap:Nat}{w:World}(h:MBox g k ad n cap w):g<w.heap.size:=by
 unfold MBox at h
 rcases Nat.lt_or_ge g w.heap.size with h1|h1
 ·exact h1
 ·rw[Array.getElem?_eq_none h1]at h;cases h
theorem MBox.alloc {g:Nat}{k:ByteArray}{ad:Option Addr}{n cap:Nat}{w:World}(h:MBox g k ad n cap w)(o:Obj):MBox g k ad n cap (w.alloc o):=(Below.heap_alloc _ _ _ h.lt).trans h
theorem q8t {w W:World}(h: ∃q os,W=Go.Sort.grow (w.drewN q) os): ∃q os,W.drew=Go.Sort.grow (w.drewN q) os:=by
 obtain ⟨q,os,rfl⟩:=h
 exact ⟨q+1,os,rfl⟩
theorem q17 {w W:World}(h: ∃q os,W=Go.Sort.grow (w.drewN q) os)(o:Obj): ∃q os,W.alloc o=Go.Sort.grow (w.drewN q) os:=by
 obtain ⟨q,os,rfl⟩:=h
 exact ⟨q,os++#[o],by rw[Go.Sort.alloc_eq_grow,Go.Sort.grow_grow]⟩
theorem q45 (w:World): ∃q os,w=Go.Sort.grow (w.drewN q) os:=⟨0,#[],by rw[Go.Sort.grow_empty];rfl⟩
theorem q71 {a b c:World}(h: ∃q os,b=Go.Sort.grow (a.drewN q) os)(k: ∃q os,c=Go.Sort.grow (b.drewN q) os): ∃q os,c=Go.Sort.grow (a.drewN q) os:=by
 obtain ⟨q,os,rfl⟩:=h
 obtain ⟨p,os',rfl⟩:=k
 refine ⟨q+p,os++os',?_⟩
 have e:(Go.Sort.grow (a.drewN q) os).drewN p=Go.Sort.grow (a.drewN (q+p)) os:=by
  rw[<-World.drewN_drewN];rfl
 rw[e,Go.Sort.grow_grow]
structure CmpS (w:World)(g1 g2:Nat)(k1:ByteArray)(a1:Option Addr)(n1 c1:Nat)(k2:ByteArray)(a2:Option Addr)(n2 c2:Nat)(W:World):Prop where
 bel:Below w.heap.size w W
 b1:MBox g1 k1 a1 n1 c1 W
 b2:MBox g2 k2 a2 n2 c2 W
section
variable {w:World} {g1 g2:Nat} {k1:ByteArray} {a1:Option Addr} {n1 c1:Nat} {k2:ByteArray} {a2:Option Addr} {n2 c2:Nat} {W:World}
theorem CmpS.full (h:CmpS w g1 g2 k1 a1 n1 c1 k2 a2 n2 c2 W):CmpS w g1 g2 k1 a1 n1 c1 k2 a2 n2 c2 W/\W.cell? ⟨g1,0,none⟩=some (.string k1)/\W.cell? ⟨g1,1,none⟩=some (.slice a1 n1 c1)/\W.cell? ⟨g2,0,none⟩=some (.string k2)/\W.cell? ⟨g2,1,none⟩=some (.slice a2 n2 c2):=
 ⟨h,h.b1.cells.1,h.b1.cells.2,h.b2.cells.1,h.b2.cells.2⟩
end
structure CmpG (w:World)(g1 g2:Nat)(k1:ByteArray)(a1:Option Addr)(n1 c1:Nat)(k2:ByteArray)(a2:Option Addr)(n2 c2:Nat)(W:World):Prop where
 bel:Below w.heap.size w W
 gr: ∃q os,W=Go.Sort.grow (w.drewN q) os
 b1:MBox g1 k1 a1 n1 c1 W
 b2:MBox g2 k2 a2 n2 c2 W
section
variable {w:World} {g1 g2:Nat} {k1:ByteArray} {a1:Option Addr} {n1 c1:Nat} {k2:ByteArray} {a2:Option Addr} {n2 c2:Nat} {W:World}
theorem CmpG.drew (h:CmpG w g1 g2 k1 a1 n1 c1 k2 a2 n2 c2 W):CmpG w g1 g2 k1 a1 n1 c1 k2 a2 n2 c2 W.drew:=⟨h.bel.drew,q8t h.gr,h.b1,h.b2⟩
theorem CmpG.alloc (h:CmpG w g1 g2 k1 a1 n1 c1 k2 a2 n2 c2 W)(o:Obj):CmpG w g1 g2 k1 a1 n1 c1 k2 a2 n2 c2 (W.alloc o):=⟨h.bel.alloc h.bel.size o,q17 h.gr o,h.b1.alloc o,h.b2.alloc o⟩
theorem CmpG.full (h:CmpG w g1 g2 k1 a1 n1 c1 k2 a2 n2 c2 W):CmpG w g1 g2 k1 a1 n1 c1 k2 a2 n2 c2 W/\W.cell? ⟨g1,0,none⟩=some (.string k1)/\W.cell? ⟨g1,1,none⟩=some (.slice a1 n1 c1)/\W.cell? ⟨g2,0,none⟩=some (.string k2)/\W.cell? ⟨g2,1,none⟩=some (.slice a2 n2 c2):=
 ⟨h,h.b1.cells.1,h.b1.cells.2,h.b2.cells.1,h.b2.cells.2⟩
end
theorem orL3 (a b c:Int):orL [a,b,c]=orI a (orI b c):=by
 unfold orI
 simp only[orL]
 split
 ·split
  ·split <;> omega
  ·rfl
 ·rfl
theorem qf9 (W:World)(a b c:Int)(t:TypeId):IntsAt (W.alloc (.cells #[.int .i64 a, .int .i64 b, .int .i64 c] t)) (some ⟨W.heap.size,0,none⟩) [a,b,c]:=fun _=>by
 refine ⟨W.heap.size,0,rfl,by simp,fun i hi=>?_⟩
 match i,hi with
 |0,_=>simp
 |1,_=>simp
 |2,_=>simp
theorem q35 (k1:ByteArray)(a1:Option Addr)(c1:Nat)(s1:List (List Int))(k2:ByteArray)(a2:Option Addr)(c2:Nat)(s2:List (List Int))(w:World)(ok1:MtOk k1 s1)(ok2:MtOk k2 s2)(h1:StagesAt w a1 s1)(h2:StagesAt w a2 s2):
  Calls Tryz.prog 8 #[.agg #[.string k1, .slice a1 s1.length c1], .agg #[.string k2, .slice a2 s2.length c2]] w fun e w'=>e= .returned (.tuple #[.int .i64 (cmpV k1 s1 k2 s2), .int .i64 (cmpE k1 s1 k2 s2)])/\Below w.heap.size w w'/\ ∃q os,w'=Go.Sort.grow (w.drewN q) os:=by
 have s0:CmpG w w.heap.size (w.heap.size+1) k1 a1 s1.length c1 k2 a2 s2.length c2 ((w.alloc (.cells #[.string k1, .slice a1 s1.length c1] 36)).alloc (.cells #[.string k2, .slice a2 s2.length c2] 36)):=by
  refine ⟨((Below.refl _ _).alloc (zM _) _).alloc (by simp) _,q17 (q17 (q45 w) _) _,MBox.alloc (heap_alloc_new w _) _,?_⟩
  have:=heap_alloc_new (w.alloc (.cells #[.string k1, .slice a1 s1.length c1] 36)) (.cells #[.string k2, .slice a2 s2.length c2] 36)
  unfold MBox
  simpa using this
 have ck1:=fun W (hW:Below w.heap.size w W)=>q1v k1 a1 c1 s1 W ok1 (h1.below hW (zM _))
 have ck2:=fun W (hW:Below w.heap.size w W)=>q1v k2 a2 c2 s2 W ok2 (h2.below hW (zM _))
 have lp1:=fun W (hW:Below w.heap.size w W) (hm:mayM k1 s1=true)=>q2Y k1 a1 c1 s1 W ok1 hm (h1.below hW (zM _))
 have lp2:=fun W (hW:Below w.heap.size w W) (hm:mayM k2 s2=true)=>q2Y k2 a2 c2 s2 W ok2 hm (h2.below hW (zM _))
 have cf:=fun W (hW:Below w.heap.size w W)=>q3S a1 a2 c1 c2 s1 s2 W ok1.2.1 ok2.2.1 ok1.2.2 ok2.2.2 (h1.below hW (zM _)) (h2.below hW (zM _))
 have sc:=fun W=>Tryz.strings_Compare k1 k2 W
 clear h1 h2
 have CK1:=hZq ck1
 have CK2:=hZq ck2
 have LP1:=hZq lp1
 have LP2:=hZq lp2
 have CF:=hZq cf
 have SC:=hZq sc
 clear ck1 ck2 lp1 lp2 cf sc
 unfold cmpV cmpE
 by_cases m1:mayM k1 s1=true
 ·have e1:chkM k1 s1=0:=if_pos m1
  by_cases m2:mayM k2 s2=true
  ·have e2:chkM k2 s2=0:=if_pos m2
   rw[if_pos ⟨m1,m2⟩,if_pos ⟨m1,m2⟩]
   rw[e1]at CK1
   rw[e2]at CK2
   unfold cM
   rw[<-orL3]
   have LQ1:Hid (∀W,Below w.heap.size w W->_):=hZq (fun W hW=>uQ LP1 W hW m1)
   have LQ2:Hid (∀W,Below w.heap.size w W->_):=hZq (fun W hW=>uQ LP2 W hW m2)
   have cc:=fun W=>q5A (q1c s1) (q1c s2) W
   have CC:=hZq cc
   clear LP1 LP2 e1 e2 m1 m2 cc
   generalize Lib.compareInt (q1c s1) (q1c s2)=X at *
   generalize cL (cL Lib.compareInt) s1 s2=Y at *
   generalize Lib.compareBytes k1.data.toList k2.data.toList=Z at *
   generalize q1c s1=L1 at *
   generalize q1c s2=L2 at *
   have oc:=fun W=>qeq (some ⟨W.heap.size,0,none⟩) 3 [X,Y,Z] (W.alloc (.cells #[.int .i64 X, .int .i64 Y, .int .i64 Z] 3)) (by simp) (qf9 W X Y Z _)
   generalize orL [X,Y,Z]=T at *
   have OC:=hZq oc
   clear oc ok1 ok2
   generalize s1.length=n1 at *
   generalize s2.length=n2 at *
   go_enter Tryz.func8,Tryz.ntmps8
   go_wp2_with fail
   generalize ((w.alloc (.cells #[.string k1, .slice a1 n1 c1] 36)).alloc (.cells #[.string k2, .slice a2 n2 c2] 36))=W0 at *
   have f0:=s0.full.2
   refine (uQ CK1 W0 s0.bel).mono ?_
   rintro e w1 ⟨rfl,rfl⟩
   have s1:=s0.alloc (.cells #[.string k1, .slice a1 n1 c1] 36)
   generalize (W0.alloc (.cells #[.string k1, .slice a1 n1 c1] 36))=W1 at *
   clear f0 s0
   have f1:=s1.full.2
   go_wp2_with fail
   refine (uQ CK2 W1 s1.bel).mono ?_
   rintro e w2 ⟨rfl,rfl⟩
   have s2:=s1.alloc (.cells #[.string k2, .slice a2 n2 c2] 36)
   generalize (W1.alloc (.cells #[.string k2, .slice a2 n2 c2] 36))=W2 at *
   clear f1 s1
   have f2:=s2.full.2
   go_wp2_with fail
   have ls1: ∀W,CmpG w w.heap.size (w.heap.size+1) k1 a1 n1 c1 k2 a2 n2 c2 W->Calls Tryz.prog 24 #[.agg #[.string k1, .slice a1 n1 c1]] W fun e w'=>e= .returned (.int .i64 L1)/\CmpG w w.heap.size (w.heap.size+1) k1 a1 n1 c1 k2 a2 n2 c2 w':=
    fun W hS=>(uQ LQ1 W hS.bel).mono (fun e w' h=>⟨h.1,h.2 ▸ hS.alloc _⟩)
   have ls2: ∀W,CmpG w w.heap.size (w.heap.size+1) k1 a1 n1 c1 k2 a2 n2 c2 W->Calls Tryz.prog 24 #[.agg #[.string k2, .slice a2 n2 c2]] W fun e w'=>e= .returned (.int .i64 L2)/\CmpG w w.heap.size (w.heap.size+1) k1 a1 n1 c1 k2 a2 n2 c2 w':=
    fun W hS=>(uQ LQ2 W hS.bel).mono (fun e w' h=>⟨h.1,h.2 ▸ hS.alloc _⟩)
   have LS1:=hZq ls1
   have LS2:=hZq ls2
   clear ls1 ls2 LQ1 LQ2 CK1 CK2
   go_region_held3 (fun W=>CmpG w w.heap.size (w.heap.size+1) k1 a1 n1 c1 k2 a2 n2 c2 W/\W.cell? ⟨w.heap.size,0,none⟩=some (.string k1)/\W.cell? ⟨w.heap.size,1,none⟩=some (.slice a1 n1 c1)/\W.cell? ⟨w.heap.size+1,0,none⟩=some (.string k2)/\W.cell? ⟨w.heap.size+1,1,none⟩=some (.slice a2 n2 c2)) (first|exact s2.full|exact s2.drew.full|exact s3.full|exact s4.full|exact (s4.alloc _).full)
    (first
     |(go_at_call 24;refine (uQ LS2 _ s3).mono ?_;rintro e w4 ⟨rfl,s4⟩)
     |(go_at_call 24;refine (uQ LS1 _ s2.drew).mono ?_;rintro e w3 ⟨rfl,s3⟩)
     |(go_at_call 23;refine (uQ CC _).mono ?_;rintro e w5 ⟨rfl,rfl⟩)
     |(go_at_call 25;refine (uQ CF _ s4.bel).mono ?_;rintro e w6 ⟨rfl,rfl⟩)
     |(go_at_call 27;refine (uQ SC _).mono ?_;rintro e w7 ⟨rfl,rfl⟩)
     |(go_at_call 22;refine (uQ OC _).mono ?_;rintro e w8 ⟨rfl,rfl⟩))
   go_wp2
   go_ret2
   exact ⟨rfl,(s4.alloc _).bel,(s4.alloc _).gr⟩
  ·have e2:chkM k2 s2=20:=if_neg m2
   rw[if_neg (fun h=>m2 h.2),if_neg (fun h=>m2 h.2)]
   rw[e1]at CK1
   rw[e2]at CK2
   clear LP1 LP2 e1 e2 m1 m2 CF SC ok1 ok2
   generalize s1.length=n1 at *
   generalize s2.length=n2 at *
   go_enter Tryz.func8,Tryz.ntmps8
   go_wp2_with fail
   generalize ((w.alloc (.cells #[.string k1, .slice a1 n1 c1] 36)).alloc (.cells #[.string k2, .slice a2 n2 c2] 36))=W0 at *
   have f0:=s0.full.2
   refine (uQ CK1 W0 s0.bel).mono ?_
   rintro e w1 ⟨rfl,rfl⟩
   have s1:=s0.alloc (.cells #[.string k1, .slice a1 n1 c1] 36)
   generalize (W0.alloc (.cells #[.string k1, .slice a1 n1 c1] 36))=W1 at *
   clear f0 s0
   have f1:=s1.full.2
   go_wp2_with fail
   refine (uQ CK2 W1 s1.bel).mono ?_
   rintro e w2 ⟨rfl,rfl⟩
   go_wp2
   go_ret2
   exact ⟨rfl,(s1.alloc _).bel,(s1.alloc _).gr⟩
 ·have e1:chkM k1 s1=20:=if_neg m1
  rw[if_neg (fun h=>m1 h.1),if_neg (fun h=>m1 h.1)]
  rw[e1]at CK1
  clear LP1 LP2 e1 m1 CF SC ok1 ok2 CK2
  generalize s1.length=n1 at *
  generalize s2.length=n2 at *
  go_enter Tryz.func8,Tryz.ntmps8
  go_wp2_with fail
  generalize ((w.alloc (.cells #[.string k1, .slice a1 n1 c1] 36)).alloc (.cells #[.string k2, .slice a2 n2 c2] 36))=W0 at *
  have f0:=s0.full.2
  refine (uQ CK1 W0 s0.bel).mono ?_
  rintro e w1 ⟨rfl,rfl⟩
  go_wp2
  go_ret2
  exact ⟨rfl,(s0.alloc _).bel,(s0.alloc _).gr⟩
theorem q6X (k1:ByteArray)(a1:Option Addr)(c1:Nat)(s1:List (List Int))(k2:ByteArray)(a2:Option Addr)(c2:Nat)(s2:List (List Int))(w:World)(ok1:MtOk k1 s1)(ok2:MtOk k2 s2)(h1:StagesAt w a1 s1)(h2:StagesAt w a2 s2):
  Calls Tryz.prog 8 #[.agg #[.string k1, .slice a1 s1.length c1], .agg #[.string k2, .slice a2 s2.length c2]] w fun e w'=>e= .returned (.tuple #[.int .i64 (cmpV k1 s1 k2 s2), .int .i64 (cmpE k1 s1 k2 s2)])/\Below w.heap.size w w':=
 (q35 k1 a1 c1 s1 k2 a2 c2 s2 w ok1 ok2 h1 h2).mono fun _ _ h=>⟨h.1,h.2.1⟩
open Go.RowKit Go.Shelf
theorem q5T (k1:ByteArray)(a1:Option Addr)(c1:Nat)(s1:List (List Int))(k2:ByteArray)(a2:Option Addr)(c2:Nat)(s2:List (List Int))(w:World)(ok1:MtOk k1 s1)(ok2:MtOk k2 s2)(h1: ∀W,Kp [] w W->StagesAt W a1 s1)(h2: ∀W,Kp [] w W->StagesAt W a2 s2):
  Calls Tryz.prog 17 #[.agg #[.string k1, .slice a1 s1.length c1], .agg #[.string k2, .slice a2 s2.length c2]] w fun e w'=>e= .returned (.int .i64 (cmpV k1 s1 k2 s2))/\Kp [] w w'/\ ∃q os,w'=Go.Sort.grow (w.drewN q) os:=by
 have ka:=Kp.alloc w (.cells #[.string k1, .slice a1 s1.length c1] 36)
 have pa:=CBox.new w #[.string k1, .slice a1 s1.length c1] 36
 have hza:(w.alloc (.cells #[.string k1, .slice a1 s1.length c1] 36)).heap.size=w.heap.size+1:=by simp
 have kb:=Kp.alloc (w.alloc (.cells #[.string k1, .slice a1 s1.length c1] 36)) (.cells #[.string k2, .slice a2 s2.length c2] 36)
 have pb:=CBox.new (w.alloc (.cells #[.string k1, .slice a1 s1.length c1] 36)) #[.string k2, .slice a2 s2.length c2] 36
 rw[hza]at pb
 have pa2:=pa.kp kb (by simp)
 have x0:=pa2.cell (i:=0) (v:= .string k1) rfl
 have x1:=pa2.cell (i:=1) (v:= .slice a1 s1.length c1) rfl
 have y0:=pb.cell (i:=0) (v:= .string k2) rfl
 have y1:=pb.cell (i:=1) (v:= .slice a2 s2.length c2) rfl
 have kab:=ka.trans kb (by simp)
 have CM:=hZq (q35 k1 a1 c1 s1 k2 a2 c2 s2 _ ok1 ok2 (h1 _ kab) (h2 _ kab))
 have HK:=hZq kab
 have HG:=hZq (q17 (q17 (q45 w) (.cells #[.string k1, .slice a1 s1.length c1] 36)) (.cells #[.string k2, .slice a2 s2.length c2] 36))
 generalize s1.length=n1 at *
 generalize s2.length=n2 at *
 generalize cmpV k1 s1 k2 s2=V at *
 generalize cmpE k1 s1 k2 s2=E at *
 clear ka pa hza kb pb pa2 kab h1 h2 ok1 ok2
 go_enter Tryz.func17,Tryz.ntmps17
 go_wp2_with fail
 refine (uQ CM).mono ?_
 rintro e w2 ⟨rfl,hb,hg⟩
 have HKF:=hZq ((uQ HK).trans (Kp.ofBelow hb) (by simp))
 have HGF:=hZq (q71 (uQ HG) hg)
 clear CM hb HK HG hg
 go_wp2
 go_ret
 exact ⟨rfl,uQ HKF,uQ HGF⟩
theorem cM_pre:Pre fun x y:ByteArray × List (List Int)=>cM x.1 x.2 y.1 y.2:=
 (pre_int.on fun x:ByteArray × List (List Int)=>q1c x.2).or (((q3P (q3P pre_int)).on fun x:ByteArray × List (List Int)=>x.2).or (pre_bytes.on fun x:ByteArray × List (List Int)=>x.1.data.toList))
theorem q6j (a b:Int):orI a b=0↔a=0/\b=0:=by unfold orI;split <;> omega
theorem qdZ {a b:ByteArray}(h:a.data.toList=b.data.toList):a=b:=ByteArray.ext (Array.ext' h)
theorem qcz (k1:ByteArray)(s1:List (List Int))(k2:ByteArray)(s2:List (List Int)):cM k1 s1 k2 s2=0↔k1=k2/\s1=s2:=by
 unfold cM
 rw[q6j,q6j,q3Z,q2k (q2k q3Z),q2V]
 exact ⟨fun h=>⟨qdZ h.2.2,h.2.1⟩,fun h=>⟨by rw[h.2],h.2,by rw[h.1]⟩⟩
section
open Go.Sort
theorem q7Z: ∀(l:List Nat) (a:Int),l.Pairwise (· < ·)->(∀q∈l,a<(q:Int)/\q<=1073741824)->q0H a (l.map Int.ofNat)=true
 |[],_,_,_=>rfl
 |q::r,a,hp,h=>by
  rw[List.pairwise_cons]at hp
  have h1:=h q (by simp)
  rw[List.map_cons,q0H,if_neg (by show ¬ ((q:Int)<=a\/1073741824<(q:Int));omega)]
  exact q7Z r _ hp.2 (fun x hx=>⟨by show (q:Int)<x;have:=hp.1 x hx;omega,(h x (by simp[hx])).2⟩)
theorem q9J (m:List Nat):q1u (m.map Int.ofNat)=(Mt.lst m:Int):=by
 rcases List.eq_nil_or_concat m with e|⟨l,x,rfl⟩
 ·subst e;rfl
 ·rw[List.concat_eq_append,Mt.lst_snoc]
  unfold q1u
  simp
theorem q59: ∀(T:List (List Nat)) (left a:Int),(∀l∈T,l≠[])->T.flatten.Pairwise (· < ·)->(∀q∈T.flatten,a<(q:Int)/\q<=1073741824)->(T.flatten.length:Int)<=left->q0u left a (Mt.toZ T)=true
 |[],_,_,_,_,_,_=>rfl
 |l::r,left,a,hn,hp,hq,hl=>by
  have hl0:=hn l (by simp)
  have hpos:=List.length_pos_iff.2 hl0
  rw[List.flatten_cons]at hp hq hl
  rw[List.pairwise_append]at hp
  rw[zF]at hl
  have e:Mt.toZ (l::r)=l.map Int.ofNat::Mt.toZ r:=rfl
  have hr:=q7Z l a hp.1 (fun q h=>hq q (by simp[h]))
  rw[e,q0u,zI,if_neg (by rw[hr];rintro (h|h|h) <;> first|omega|cases h),q9J]
  refine q59 r _ _ (fun l h=>hn l (by simp[h])) hp.2.1 (fun q h=>⟨?_,(hq q (by simp only[zG];exact Or.inr h)).2⟩) (by omega)
  have:=hp.2.2 _ (Mt.lst_mem hl0) q h
  omega
theorem q7M: ∀(l:List Nat) (lo hi:Nat),l.Pairwise (· < ·)->(∀q∈l,lo<=q/\q<=hi)->l.length<=hi+1-lo
 |[],_,_,_,_=>Nat.zero_le _
 |x::r,lo,hi,hp,h=>by
  rw[List.pairwise_cons]at hp
  have h1:=h x (by simp)
  have:=q7M r (x+1) hi hp.2 (fun q hq=>⟨hp.1 q hq,(h q (by simp[hq])).2⟩)
  rw[List.length_cons]
  omega
theorem q9n {T:List (List Nat)}(h0:T≠[])(hn: ∀l∈T,l≠[])(hp:T.flatten.Pairwise (· < ·)): ∀q∈T.flatten,Mt.fstT T<=q/\q<=Mt.endT T:=by
 intro q hq
 constructor
 ·cases T with
  |nil=>exact absurd rfl h0
  |cons l r=>
   cases l with
   |nil=>exact absurd rfl (hn [] (by simp))
   |cons x l=>
    rw[List.flatten_cons,List.cons_append,List.pairwise_cons]at hp
    rw[List.flatten_cons,List.cons_append,zH]at hq
    show x<=q
    rcases hq with rfl|hq
    ·exact zM _
    ·exact Nat.le_of_lt (hp.1 q hq)
 ·rcases List.eq_nil_or_concat T with e|⟨A,m,rfl⟩
  ·exact absurd e h0
  ·rw[List.concat_eq_append]at *
   rw[Mt.endT_snoc]
   rw[List.flatten_append,List.pairwise_append]at hp
   rw[List.flatten_append,zG]at hq
   have e:[m].flatten=m:=by simp
   rw[e]at hp hq
   rcases hq with hq|hq
   ·exact Nat.le_of_lt (hp.2.2 q hq _ (Mt.lst_mem (hn m (by simp))))
   ·exact Mt.le_lst hp.2.1 q hq
theorem q7H {P:Mt.Pm}{wi:Nat}(hwi:1<=wi)(hw:wi<=256)(hN:1<=P.N)(h8:P.N<=8)(hlen:P.len<=4096){k:ByteArray}(hk:q0q k=true){T:List (List Nat)}(h:T∈Mt.fnd P wi):mayM k (Mt.toZ T)=true:=by
 obtain ⟨hr,hl,he⟩:=(Mt.fnd_iff hwi hN T).1 h
 have h0:T≠[]:=fun e=>by rw[e]at hl;simp at hl;omega
 have ha:=hr.asg h0
 have hfe:=q9n h0 hr.full ha.inc
 have hc:=q7M T.flatten (Mt.fstT T) (Mt.endT T) ha.inc hfe
 unfold mayM
 rw[hk,q0C,decide_eq_true (by omega),decide_eq_true (by omega)]
 refine q59 T 256 (-1) hr.full ha.inc (fun q hq=>⟨by omega,?_⟩) (by omega)
 have:=ha.low q hq
 omega
theorem q8b {T U:List (List Nat)}(h:Mt.toZ T=Mt.toZ U):T=U:=by
 unfold Mt.toZ at h
 exact (List.map_inj_right (fun a b e=>(List.map_inj_right (fun x y e=>Int.ofNat.inj e)).1 e)).1 h
def cT (T U:List (List Nat)):Int:=cM ByteArray.empty (Mt.toZ T) ByteArray.empty (Mt.toZ U)
theorem q98 (k:ByteArray)(s t:List (List Int)):cM k s k t=cM ByteArray.empty s ByteArray.empty t:=by
 unfold cM
 rw[(q2V k.data.toList k.data.toList).2 rfl,(q2V ByteArray.empty.data.toList ByteArray.empty.data.toList).2 rfl]
theorem cT_pre:Pre cT:=(cM_pre.on fun T:List (List Nat)=>(ByteArray.empty,Mt.toZ T))
theorem q7u (T U:List (List Nat)):cT T U=0↔T=U:=by
 unfold cT
 rw[qcz]
 exact ⟨fun h=>q8b h.2,fun h=>⟨rfl,by rw[h]⟩⟩
theorem qdP {α:Type}{c:α->α->Int}(h:Pre c):SWO (Go.Proofs.ltOf c) where
 irrefl x:=by
  have:=h.anti x x
  unfold Go.Proofs.ltOf
  exact zK (by omega)
 trans x y z h1 h2:=by
  unfold Go.Proofs.ltOf at *
  rw[decide_eq_true_eq]at *
  have t:=h.trans x y z (by omega) (by omega)
  have:c x z≠0:=fun e=>by have:=(t.2 e).1;omega
  omega
 ntrans x y z h1 h2:=by
  unfold Go.Proofs.ltOf at *
  rw[decide_eq_false_iff_not]at *
  have a1:=h.anti x y
  have a2:=h.anti y z
  have a3:=h.anti x z
  have t:=h.trans z y x (by omega) (by omega)
  omega
def Srt (l:List (List (List Nat))):Prop:=l.Pairwise fun a b=>cT a b<0
theorem q4O: ∀{l m:List (List (List Nat))},Srt l->Srt m->l.Perm m->l=m
 |[],m,_,_,hp=>(List.nil_perm.1 hp).symm
 |a::l,m,h1,h2,hp=>by
  cases m with
  |nil=>exact absurd (List.perm_nil.1 hp) (by simp)
  |cons b m=>
   have h1':=List.pairwise_cons.1 h1
   have h2':=List.pairwise_cons.1 h2
   have hb:b∈a::l:=hp.symm.subset (by simp)
   have ha:a∈b::m:=hp.subset (by simp)
   have e:a=b:=by
    rcases zH.1 hb with e|hb
    ·exact e.symm
    ·rcases zH.1 ha with e|ha
     ·exact e
     ·have x1:=h1'.1 b hb
      have x2:=h2'.1 a ha
      have:=cT_pre.anti a b
      omega
   subst e
   rw[q4O h1'.2 h2'.2 (List.Perm.cons_inv hp)]
def fdS (P:Mt.Pm)(wi:Nat):List (List (List Nat)):=(Mt.fnd P wi).mergeSort fun a b=>decide (cT a b<=0)
theorem qak {l:List (List (List Nat))}(hn:l.Nodup):Srt (l.mergeSort fun a b=>decide (cT a b<=0)):=by
 have hs:=List.pairwise_mergeSort (le:=fun a b=>decide (cT a b<=0)) (fun a b c h1 h2=>by
  simp only[decide_eq_true_eq]at *
  exact (cT_pre.trans a b c h1 h2).1) (fun a b=>by
  have:=cT_pre.anti a b
  simp only[Bool.or_eq_true,decide_eq_true_eq]
  omega) l
 have hd:(l.mergeSort fun a b=>decide (cT a b<=0)).Nodup:=(List.mergeSort_perm l _).nodup_iff.2 hn
 unfold Srt
 refine List.Pairwise.imp₂ (fun a b h1 h2=>?_) hs hd
 have h1:cT a b<=0:=by simpa using h1
 have h3:cT a b≠0:=fun e=>h2 ((q7u a b).1 e)
 omega
theorem q1X (P:Mt.Pm)(wi:Nat):(fdS P wi).Perm (Mt.fnd P wi):=List.mergeSort_perm _ _
theorem q4y (P:Mt.Pm)(wi:Nat):Srt (fdS P wi):=qak (Mt.fnd_nodup P wi)
theorem qcJ {P:Mt.Pm}{wi:Nat}(hwi:1<=wi)(hN:1<=P.N)(X:List (List Nat)):X∈fdS P wi↔Mt.Rgt P X/\X.length=P.N/\Mt.endT X<Mt.fstT X+wi:=by rw[(q1X P wi).mem_iff,Mt.fnd_iff hwi hN]
theorem q7F (P:Mt.Pm)(wi:Nat):(fdS P wi).length=(Mt.fnd P wi).length:=(q1X P wi).length_eq
end
namespace Mt
end Mt
theorem q9S {P:Mt.Pm}(hN:1<=P.N){X:List (List Nat)}(h:X.length=P.N):X≠[]:=fun e=>by rw[e]at h;simp at h;omega
open Go.RowKit Go.Shelf
theorem q9h {w:World}{b off:Nat}{l:List Ev}(h:EvsAt w (some ⟨b,off,none⟩) l): ∀j u,(l.flatMap evW)[j]?=some u->w.cell? ((⟨b,off,none⟩:Addr).add j)=some u:=by
 intro j u hj
 have hlt:j<l.length * 7:=by
  have:=(zC.1 hj).1
  rw[q1Y evW 7 q1i]at this
  exact this
 have hi:j / 7<l.length:=by omega
 have e:j / 7 * 7+j % 7=j:=by omega
 have hf:=q3s evW 7 q1i l (j / 7) (j % 7) hi (by omega)
 rw[e,hj]at hf
 obtain ⟨b',off',e2,_,hc⟩:=h (fun e=>by rw[e]at hi;simp at hi)
 cases e2
 have:=hc (j / 7) l[j / 7] (zE hi) (j % 7) u (by
  rw[hf]
  unfold evW Ev.c
  simp)
 rw[Go.WideShapes.add_plain]
 rw[Nat.add_assoc,e]at this
 exact this
theorem qcH (l:List Ev): ∀u∈l.flatMap evW,u.oneCell'=true:=fun u hu=>by
 rw[List.mem_flatMap]at hu
 obtain ⟨e,_,hu⟩:=hu
 unfold evW at hu
 simp only[zH,List.not_mem_nil,or_false]at hu
 rcases hu with rfl|rfl|rfl|rfl|rfl|rfl|rfl <;> rfl
theorem OwnsX.empty (w:World):OwnsX w.heap.size (w.alloc (.cells #[] 30)) (.slice (some ⟨w.heap.size,0,none⟩) 0 0) []:=
 ⟨rfl,Or.inr ⟨w.heap.size,0,#[],rfl,zM _,CBox.new w _ _,zM _,by unfold maxLen;omega,rfl,rfl⟩⟩
theorem q6y {w:World}{ad:Option Addr}{c:Nat}{l:List Ev}(h:EvsAt w ad l)(ha:ad=none->c=0)(hl:l.length<=1000000)(ty:TypeId):
  ∃g cap w',(Builtin.append_ #[25,25] ty #[.slice (some ⟨w.heap.size,0,none⟩) 0 0, .slice ad l.length c]).run Tryz.prog (w.alloc (.cells #[] 30))= .ok (.slice (some ⟨g,0,none⟩) l.length cap) w'/\OwnsX w.heap.size w' (.slice (some ⟨g,0,none⟩) l.length cap) l/\Kp [] w w':=by
 obtain ⟨i0,hi,hz0,hz1,hz2⟩:=info_parts q3H
 have ho:=OwnsX.empty w
 have k0:=Kp.alloc w (.cells #[] 30)
 have hz:(w.alloc (.cells #[] 30)).heap.size=w.heap.size+1:=by simp
 have h':=h.kp k0 (by simp)
 have ho0:(w.alloc (.cells #[] 30)).ownsRow 0 30 7 (.slice (some ⟨w.heap.size,0,none⟩) 0 0) 0 []:=by
  obtain ⟨h1,⟨e,_⟩|⟨g',c',cur,e,_,r⟩⟩:=ho
  ·cases e
  ·exact ⟨h1,Or.inr ⟨g',c',cur,e,Nat.zero_le _,r⟩⟩
 by_cases h0:l=[]
 ·subst h0
  cases ad with
  |none=>
   obtain rfl:=ha rfl
   exact ⟨w.heap.size,0,_,by simpa using run_append_owned_none (P:=Tryz.prog) (w:=w.alloc (.cells #[] 30)) w.heap.size _ ty 30 i0 7 Tryz.underlying25 hi _ _ _ ho,ho,k0⟩
  |some a=>
   have:=run_append_room_cells (P:=Tryz.prog) (w:=w.alloc (.cells #[] 30)) 25 ty 30 i0 Tryz.underlying25 hi w.heap.size 0 0 0 a 0 c [] (by simp) (fun j u hj=>by simp at hj) (fun u hu=>by cases hu) (by omega) (fun j hj=>absurd hj (by simp)) (fun j hj=>absurd hj (by simp))
   exact ⟨w.heap.size,0,_,by simpa [World.setCells] using this,ho,k0⟩
 ·obtain ⟨b,off,rfl,_⟩:=id (h h0)
  obtain ⟨g,cap,w',hr,r1,r2,r3⟩:=q7h (P:=Tryz.prog) (w:=w.alloc (.cells #[] 30)) 25 ty 30 i0 _ 7 80 Tryz.underlying25 hi hz0 hz1 hz2 rfl (by decide) ho0 (some ⟨b,off,none⟩) l.length c (l.flatMap evW) (q1Y evW 7 q1i l) (fun e=>by cases e) (fun a e=>by cases e;rfl) (fun a e j u hj=>by
   cases e
   exact q9h h' j u hj) (qcH l) (by unfold maxLen;omega) (by omega)
  rw[Nat.zero_add]at hr r1
  have hg:w.heap.size<=g:=by rcases r3 with e|e <;> omega
  refine ⟨g,cap,w',hr,?_,k0.trans (Kp.of r2) (fun y hy=>Or.inr (by simp at hy;omega))⟩
  rw[List.nil_append]at r1
  obtain ⟨h1,⟨e,_⟩|⟨g',c',cur,e,_,r⟩⟩:=r1
  ·cases e
  ·cases e
   exact ⟨h1,Or.inr ⟨_,_,cur,rfl,hg,r⟩⟩
theorem qdz {w:World}{B e sz g n cap:Nat}{xs:List Value}(h:w.ownsRow B e sz (.slice (some ⟨g,0,none⟩) n cap) n xs)(i:Nat)(v:Value):(w.setCell ⟨g,i,none⟩ v).ownsRow B e sz (.slice (some ⟨g,0,none⟩) n cap) n (xs.set i v):=by
 obtain ⟨h1,⟨e2,_⟩|⟨g',c',cur,e2,h3,h4,h5,h6,h7,h8⟩⟩:=h
 ·cases e2
 ·cases e2
  refine ⟨by rw[List.length_set];exact h1,Or.inr ⟨g,cap,cur.setIfInBounds i v,rfl,h3,CBox.set (show CBox g cur e w from h4) i v,h5,h6,by rw[Array.size_setIfInBounds];exact h7,?_⟩⟩
  rw[Array.toList_setIfInBounds,List.take_set,h8]
def q1b (k:ByteArray)(e:Ev):Ev:={ e with k:=k }
theorem q7B (k:ByteArray): ∀(l:List Ev) (i:Nat) (h:i<l.length),(l.flatMap evW).set (i * 7) (.string k)=(l.set i (q1b k l[i])).flatMap evW
 |e::r,0,_=>by simp[evW,q1b]
 |e::r,i+1,h=>by
  have ih:=q7B k r i (by simpa using h)
  rw[List.flatMap_cons,List.set_append_right _ _ (by rw[q1i];omega),q1i,show (i+1) * 7-7=i * 7 by omega,ih]
  rfl
def evJ (k:ByteArray)(l:List Ev)(j:Nat):List Ev:=(l.take j).map (q1b k)++l.drop j
theorem q1T (k:ByteArray)(l:List Ev)(j:Nat):(evJ k l j).length=l.length:=by
 unfold evJ
 rw[zF,zI,zL,List.length_drop]
 omega
theorem qaY (k:ByteArray)(l:List Ev)(j:Nat)(h:j<l.length):evJ k l (j+1)=(evJ k l j).set j (q1b k ((evJ k l j)[j]'(by rw[q1T];exact h))):=by
 have hl:((l.take j).map (q1b k)).length=j:=by rw[zI,zL];omega
 have e1:(evJ k l j)[j]'(by rw[q1T];exact h)=l[j]:=by
  unfold evJ
  rw[List.getElem_append_right (by rw[hl];exact zM _),List.getElem_drop]
  congr 1
  omega
 rw[e1]
 unfold evJ
 rw[List.set_append_right _ _ (by rw[hl];exact zM _),hl,Nat.sub_self,List.drop_eq_getElem_cons h,List.set_cons_zero,List.take_succ_eq_append_getElem h,List.map_append,List.append_assoc]
 rfl
theorem qcG (k:ByteArray)(l:List Ev):evJ k l l.length=l.map (q1b k):=by
 unfold evJ
 rw[List.take_length,List.drop_length,List.append_nil]
theorem qaZ (k:ByteArray)(l:List Ev):evJ k l 0=l:=rfl
theorem OwnsX.key {B g n cap:Nat}{w:World}{k:ByteArray}{l:List Ev}{j:Nat}(h:OwnsX B w (.slice (some ⟨g,0,none⟩) n cap) (evJ k l j))(hn:n=l.length)(hj:j<l.length):OwnsX B (w.setCell ⟨g,j * 7,none⟩ (.string k)) (.slice (some ⟨g,0,none⟩) n cap) (evJ k l (j+1)):=by
 subst hn
 unfold OwnsX at *
 rw[q1T]at *
 rw[qaY k l j hj, <-q7B]
 exact qdz h (j * 7) (.string k)
def mtE (key:ByteArray)(x:Cp):List Value:=[.string key,x.v]
theorem q15 (key:ByteArray)(x:Cp):(mtE key x).length=2:=rfl
structure FdC where
 L:Nat
 D:Nat
 r:Loop
 kb:Nat
 rb:Nat
 eb:Nat
 ob:Nat
 key:ByteArray
structure FdT (c:FdC)(n0:Nat)(xs:List Cp)(w:World):Prop where
 lo:w.heap[c.L]?=some (.loop c.r)
 dm:w.heap[c.D]?=some (.deferred (some []))
 bk:CBox c.kb #[.string c.key] 9 w
 br:CBox c.rb #[.slice none 0 0] 31 w
 be:CBox c.eb #[.int .i64 0] 32 w
 ow: ∃v,CBox c.ob #[v] 31 w/\w.ownsRow n0 36 2 v xs.length (xs.flatMap (mtE c.key))
 ln:xs.length<=4096
 sz:n0<=w.heap.size
 ne:c.rb≠c.ob
structure FdF (c:FdC)(xs:List Cp)(w:World):Prop where
 lo:w.heap[c.L]?=some (.loop { c.r with state:= .done,pending:=some .ret })
 dm:w.heap[c.D]?=some (.deferred (some []))
 br:CBox c.rb #[.slice none 0 0] 31 w
 be:CBox c.eb #[.int .i64 140] 32 w
 ln:xs.length=4097
def FdJ (c:FdC)(n0:Nat)(go:Bool)(xs:List Cp)(w:World):Prop:=(go=true/\FdT c n0 xs w)\/(go=false/\FdF c xs w)
theorem q6k {w:World}{b:Nat}{o:Obj}(h:Ow w b)(ho:w.heap[b]?=some o):(∃es c,o= .map es c)\/ ∃cs t,o= .cells cs t (0,0)/\t∉fgT:=by
 rcases h with ⟨es,c,h⟩|⟨cs,t,h,h2⟩
 ·rw[ho]at h
  cases h
  exact Or.inl ⟨es,c,rfl⟩
 ·unfold CBox at h
  rw[ho]at h
  cases h
  exact Or.inr ⟨cs,t,rfl,h2⟩
theorem CBox.fg {F:List Nat}{w w':World}{b:Nat}{cs:Array Value}{t:TypeId}(h:CBox b cs t w)(hk:Kp F w w')(hF: ∀b∈F,Ow w b)(ht:t∈fgT):CBox b cs t w':=h.kp hk (fun hm=>by
 rcases q6k (hF b hm) h with ⟨_,_,e⟩|⟨_,_,e,hn⟩
 ·cases e
 ·cases e
  exact hn ht)
theorem q4a {F:List Nat}{w w':World}{b:Nat}{o:Obj}(h:w.heap[b]?=some o)(hk:Kp F w w')(hF: ∀b∈F,Ow w b)(ho: ∀cs t f,o≠ .cells cs t f)(hm: ∀es c,o≠ .map es c):w'.heap[b]?=some o:=
 (hk.block b (zB.1 h).1 (fun hb=>by
  rcases q6k (hF b hb) h with ⟨es,c,e⟩|⟨cs,t,e,_⟩
  ·exact hm es c e
  ·exact ho cs t _ e)).trans h
theorem FdJ.keep {c:FdC}{n0:Nat}{go:Bool}{xs:List Cp}{w w':World}{F:List Nat}(h:FdJ c n0 go xs w)(hk:Kp F w w')(hF: ∀b∈F,Ow w b):FdJ c n0 go xs w':=by
 rcases h with ⟨rfl,h⟩|⟨rfl,h⟩
 ·refine Or.inl ⟨rfl,q4a h.lo hk hF (by simp) (by simp),q4a h.dm hk hF (by simp) (by simp),h.bk.fg hk hF (by decide),h.br.fg hk hF (by decide),h.be.fg hk hF (by decide),?_,h.ln,Nat.le_trans h.sz hk.size,h.ne⟩
  obtain ⟨v,hb,hr⟩:=h.ow
  refine ⟨v,hb.fg hk hF (by decide),q03 hr hk (fun g hg hm=>?_)⟩
  obtain ⟨cs,hc⟩:=q08 hr hg
  rcases q6k (hF g hm) hc with ⟨_,_,e⟩|⟨_,_,e,hn⟩
  ·cases e
  ·cases e
   exact hn (by decide)
 ·exact Or.inr ⟨rfl,q4a h.lo hk hF (by simp) (by simp),q4a h.dm hk hF (by simp) (by simp),h.br.fg hk hF (by decide),h.be.fg hk hF (by decide),h.ln⟩
theorem FdJ.len {c:FdC}{n0:Nat}{go:Bool}{xs:List Cp}{w:World}(h:FdJ c n0 go xs w):xs.length<=100000:=by
 rcases h with ⟨_,h⟩|⟨_,h⟩
 ·have:=h.ln;omega
 ·have:=h.ln;omega
theorem qdg:(Tryz.prog.info? 36).map (fun i=>(i.zero,i.size,i.bytes))=some (some (.agg #[.string ⟨#[]⟩, .slice none 0 0]),2,40):=by kernel_rfl
theorem FdT.push {c:FdC}{n0:Nat}{xs:List Cp}{w W:World}{x:Cp}(h:FdT c n0 xs w)(hk:Kp [c.L] w W)(hl:W.heap[c.L]?=some (.loop { c.r with state:= .busy })){g:Nat}(hg:CBox g #[.string c.key,x.v] 36 W)(hlt:xs.length<4096){v:Value}(hv:CBox c.ob #[v] 31 w):
  ∃g' cap w6,(Builtin.append_ #[31,31] 31 #[v, .slice (some ⟨g,0,none⟩) 1 1]).run Tryz.prog W= .ok (.slice (some ⟨g',0,none⟩) (xs.length+1) cap) w6/\CBox c.ob #[v] 31 w6/\CBox c.kb #[.string c.key] 9 w6/\
   (w6.setCell ⟨c.ob,0,none⟩ (.slice (some ⟨g',0,none⟩) (xs.length+1) cap)).heap[c.L]?=some (.loop { c.r with state:= .busy })/\
   Kp (c.L::c.ob::v.ownBlock.toList) w (w6.setCell ⟨c.ob,0,none⟩ (.slice (some ⟨g',0,none⟩) (xs.length+1) cap))/\(∀b∈v.ownBlock,Yw w b/\n0<=b)/\
   ∀w7,w7=(w6.setCell ⟨c.ob,0,none⟩ (.slice (some ⟨g',0,none⟩) (xs.length+1) cap)).putObj c.L (.loop { c.r with state:= .ready,pending:=none })->c.r.state= .ready->c.r.pending=none->FdT c n0 (xs++[x]) w7:=by
 obtain ⟨i0,hi,hz0,hz1,hz2⟩:=info_parts qdg
 obtain ⟨v',hv',hrow⟩:=h.ow
 have e:v'=v:=by
  unfold CBox at hv hv'
  rw[hv]at hv'
  cases hv'
  rfl
 subst e
 have hnl: ∀{b:Nat} {cs:Array Value} {t:TypeId},CBox b cs t w->b≠c.L:=fun hb e=>by
  subst e
  unfold CBox at hb
  rw[h.lo]at hb
  cases hb
 have hkv: ∀{b:Nat} {cs:Array Value} {t:TypeId},CBox b cs t w->CBox b cs t W:=fun hb=>hb.kp hk (by simpa using hnl hb)
 have hrW:=q03 hrow hk (fun b hb hm=>by
  obtain ⟨cs,hc⟩:=q08 hrow hb
  exact hnl hc (by simpa using hm))
 obtain ⟨g',cap,w6,hrun,r1,r2,r3,_⟩:=run_append_lies (P:=Tryz.prog) (w:=W) 31 31 n0 36 i0 _ 2 40 Tryz.underlying31 hi hz0 hz1 hz2 rfl (by decide) v' xs.length (xs.flatMap (mtE c.key)) hrW ⟨g,0,none⟩ 1 1 (mtE c.key x) rfl (fun j u hj=>by
  rw[Go.WideShapes.add_plain,Nat.zero_add]
  refine hg.cell ?_
  unfold mtE at hj
  simpa using hj) (fun u hu=>by
   unfold mtE Cp.v at hu
   simp only[zH,List.not_mem_nil,or_false]at hu
   rcases hu with rfl|rfl <;> rfl) (by omega) (by unfold maxLen;omega) (by omega) (Nat.le_trans h.sz hk.size) _ rfl
 have k6:=Kp.of r2
 have ks:=Kp.set w6 c.ob 0 (.slice (some ⟨g',0,none⟩) (xs.length+1) cap)
 have hnr: ∀{b:Nat} {cs:Array Value} {t:TypeId},CBox b cs t w->t≠36->b∉v'.ownBlock.toList:=fun hb ht hm=>q0d hrow hb ht (by simpa using hm)
 have hno: ∀{b:Nat} {cs:Array Value} {t:TypeId},CBox b cs t w->t≠31->b≠c.ob:=fun hb ht=>q0p hb hv' ht
 have hb6: ∀{b:Nat} {cs:Array Value} {t:TypeId},CBox b cs t w->t≠36->CBox b cs t w6:=fun hb ht=>(hkv hb).kp k6 (hnr hb ht)
 have hlo: ∀{b:Nat} {o:Obj},W.heap[b]?=some o->(∀cs t f,o≠ .cells cs t f)->(w6.setCell ⟨c.ob,0,none⟩ (.slice (some ⟨g',0,none⟩) (xs.length+1) cap)).heap[b]?=some o:=fun {b o} hb ho=>by
  have h1:w6.heap[b]?=some o:=(k6.block b (zB.1 hb).1 (fun hm=>by
   obtain ⟨cs,hc⟩:=q08 hrW (by simpa using hm)
   unfold CBox at hc
   rw[hb]at hc
   cases hc
   exact ho _ _ _ rfl)).trans hb
  refine (ks.block b (zB.1 h1).1 (fun hm=>?_)).trans h1
  rw[zD]at hm
  have:=hb6 hv' (by decide)
  unfold CBox at this
  rw[<-hm,h1]at this
  cases this
  exact ho _ _ _ rfl
 have hdW:W.heap[c.D]?=some (.deferred (some [])):=(hk.block _ (zB.1 h.dm).1 (fun hm=>by
  rw[zD]at hm
  have:=h.dm
  rw[hm,h.lo]at this
  cases this)).trans h.dm
 have hL7:=hlo hl (by simp)
 refine ⟨g',cap,w6,hrun,hb6 hv' (by decide),hb6 h.bk (by decide),hL7,((hk.mono (by simp)).trans k6 (fun b hb=>Or.inl (by simp[hb]))).trans ks (by simp),fun b hb=>?_,fun w7 e7 hst hpn=>?_⟩
 ·have hb:v'.ownBlock=some b:=by simpa using hb
  obtain ⟨cs,hc⟩:=q08 hrow hb
  exact ⟨Or.inr ⟨cs,_,hc,by simp⟩,(hrow.lt b hb).1⟩
 ·have kp:Kp [c.L] (w6.setCell ⟨c.ob,0,none⟩ (.slice (some ⟨g',0,none⟩) (xs.length+1) cap)) w7:=by
   rw[e7]
   exact ⟨rfl,rfl,rfl,by simp,fun k _ hn=>World.putObj_heap_other (by simpa using hn)⟩
  have c7: ∀{b:Nat} {cs:Array Value} {t:TypeId},CBox b cs t w->t≠36->b≠c.ob->CBox b cs t w7:=fun hb ht hn=>((hb6 hb ht).kp ks (by simpa using hn)).kp kp (by simpa using hnl hb)
  have hLr:({ c.r with state:= .ready,pending:=none }:Loop)=c.r:=by
   rw[<-hst, <-hpn]
  have hlt7:c.L<(w6.setCell ⟨c.ob,0,none⟩ (.slice (some ⟨g',0,none⟩) (xs.length+1) cap)).heap.size:=(zB.1 hL7).1
  have ob7:=((hb6 hv' (by decide)).set 0 (.slice (some ⟨g',0,none⟩) (xs.length+1) cap)).kp kp (by simpa using hnl hv')
  have hne:=h.ne
  refine ⟨?_,?_,c7 h.bk (by decide) (hno h.bk (by decide)),c7 h.br (by decide) hne,c7 h.be (by decide) (hno h.be (by decide)),⟨_,ob7,?_⟩,by simp;omega,?_,hne⟩
  ·rw[e7,hLr]
   exact World.putObj_heap_same hlt7
  ·refine (kp.block _ (zB.1 (hlo hdW (by simp))).1 (fun hm=>?_)).trans (hlo hdW (by simp))
   rw[zD]at hm
   have:=h.dm
   rw[hm,h.lo]at this
   cases this
  ·rw[zF,List.flatMap_append]
   refine q03 (F:=[c.ob,c.L]) (W:=w6) ?_ ((ks.mono (by simp)).trans kp (by simp)) (fun b hb hm=>?_)
   ·simpa [mtE] using r1
   ·obtain ⟨cs,hc⟩:=q08 r1 hb
    rw[zH,zD]at hm
    rcases hm with hm|hm
    ·exact q0p hc (hb6 hv' (by decide)) (by decide) hm
    ·subst hm
     have h1:w6.heap[c.L]?=some (.loop { c.r with state:= .busy }):=(k6.block c.L (zB.1 hl).1 (fun hm=>by
      obtain ⟨cs,hc⟩:=q08 hrW (by simpa using hm)
      unfold CBox at hc
      rw[hl]at hc
      cases hc)).trans hl
     unfold CBox at hc
     rw[h1]at hc
     cases hc
  ·have h1:=h.sz
   have h2:=hk.size
   have h3:=k6.size
   have h4:=Nat.le_trans ks.size kp.size
   omega
end Go.Proofs.YtfgkikeeadlcfaaGreatDoor
namespace Go.Proofs
open Go.Shelf
def Tryz.sortM_ren:Go.Shelf.Ren:=⟨fun|6=>16|15=>41|14=>40|28=>68|29=>69|20=>60|21=>61|22=>62|23=>63|24=>64|25=>65|26=>66|27=>67|46=>91|47=>92|48=>93|49=>94|50=>95|57=>117|n=>n,fun|22=>31|24=>36|25=>59|3=>3|39=>85|0=>0|53=>127|55=>129|4=>4|46=>120|45=>119|50=>124|5=>5|9=>9|66=>154|70=>158|76=>201|77=>202|n=>n,fun|n=>n⟩
theorem Tryz.sortM:Go.Proofs.SlLaysF0.n6 Tryz.prog Tryz.sortM_ren:={
 mixed:=by kernel_rfl
 f6:=⟨Tryz.f16.name,by decide,Tryz.func16.trans (congrArg some (by kernel_rfl))⟩
 f14:=⟨Tryz.f40.name,by decide,Tryz.func40.trans (congrArg some (by kernel_rfl))⟩
 f15:=Tryz.func41.trans (congrArg some (by kernel_rfl))
 f20:=⟨Tryz.f60.name,by decide,Tryz.func60.trans (congrArg some (by kernel_rfl))⟩
 f21:=⟨Tryz.f61.name,by decide,Tryz.func61.trans (congrArg some (by kernel_rfl))⟩
 f22:=⟨Tryz.f62.name,by decide,Tryz.func62.trans (congrArg some (by kernel_rfl))⟩
 f23:=⟨Tryz.f63.name,by decide,Tryz.func63.trans (congrArg some (by kernel_rfl))⟩
 f24:=⟨Tryz.f64.name,by decide,Tryz.func64.trans (congrArg some (by kernel_rfl))⟩
 f25:=⟨Tryz.f65.name,by decide,Tryz.func65.trans (congrArg some (by kernel_rfl))⟩
 f26:=⟨Tryz.f66.name,by decide,Tryz.func66.trans (congrArg some (by kernel_rfl))⟩
 f27:=⟨Tryz.f67.name,by decide,Tryz.func67.trans (congrArg some (by kernel_rfl))⟩
 f28:=Tryz.func68.trans (congrArg some (by kernel_rfl))
 f29:=Tryz.func69.trans (congrArg some (by kernel_rfl))
 f46:=⟨Tryz.f91.name,by decide,Tryz.func91.trans (congrArg some (by kernel_rfl))⟩
 f47:=Tryz.func92.trans (congrArg some (by kernel_rfl))
 f48:=Tryz.func93.trans (congrArg some (by kernel_rfl))
 f49:=⟨Tryz.f94.name,by decide,Tryz.func94.trans (congrArg some (by kernel_rfl))⟩
 f50:=⟨Tryz.f95.name,by decide,Tryz.func95.trans (congrArg some (by kernel_rfl))⟩
 f57:=⟨Tryz.f117.name,by decide,Tryz.func117.trans (congrArg some (by kernel_rfl))⟩
 t0:=Tryz.underlying0
 a0:=Tryz.isAgg0
 z0:=Tryz.sizeOf0
 v0:=Tryz.zeroValue0
 t3:=Tryz.underlying3
 a3:=Tryz.isAgg3
 z3:=Tryz.sizeOf3
 v3:=Tryz.zeroValue3
 t4:=Tryz.underlying4
 a4:=Tryz.isAgg4
 z4:=Tryz.sizeOf4
 v4:=Tryz.zeroValue4
 t5:=Tryz.underlying5
 a5:=Tryz.isAgg5
 z5:=Tryz.sizeOf5
 v5:=Tryz.zeroValue5
 t9:=Tryz.underlying9
 a9:=Tryz.isAgg9
 z9:=Tryz.sizeOf9
 v9:=Tryz.zeroValue9
 t22:=Tryz.underlying31
 a22:=Tryz.isAgg31
 z22:=Tryz.sizeOf31
 v22:=Tryz.zeroValue31
 t25:=Tryz.underlying59
 a25:=Tryz.isAgg59
 z25:=Tryz.sizeOf59
 v25:=Tryz.zeroValue59
 t39:=Tryz.underlying85
 a39:=Tryz.isAgg85
 z39:=Tryz.sizeOf85
 v39:=Tryz.zeroValue85
 t45:=Tryz.underlying119
 a45:=Tryz.isAgg119
 z45:=Tryz.sizeOf119
 v45:=Tryz.zeroValue119
 t46:=Tryz.underlying120
 a46:=Tryz.isAgg120
 z46:=Tryz.sizeOf120
 v46:=Tryz.zeroValue120
 t50:=Tryz.underlying124
 a50:=Tryz.isAgg124
 z50:=Tryz.sizeOf124
 v50:=Tryz.zeroValue124
 t53:=Tryz.underlying127
 a53:=Tryz.isAgg127
 z53:=Tryz.sizeOf127
 v53:=Tryz.zeroValue127
 t55:=Tryz.underlying129
 a55:=Tryz.isAgg129
 z55:=Tryz.sizeOf129
 v55:=Tryz.zeroValue129
 t66:=Tryz.underlying154
 a66:=Tryz.isAgg154
 z66:=Tryz.sizeOf154
 v66:=Tryz.zeroValue154
 t70:=Tryz.underlying158
 a70:=Tryz.isAgg158
 z70:=Tryz.sizeOf158
 v70:=Tryz.zeroValue158
 t76:=Tryz.underlying201
 a76:=Tryz.isAgg201
 z76:=Tryz.sizeOf201
 v76:=Tryz.zeroValue201
 t77:=Tryz.underlying202
 a77:=Tryz.isAgg202
 z77:=Tryz.sizeOf202
 v77:=Tryz.zeroValue202 }
end Go.Proofs
namespace Go.Proofs.YtfgkikeeadlcfaaGreatDoor
section
open Go.RowKit Go.Shelf Go.Lib Go.Sort
theorem CpAt.stages {w:World}{x:Cp}(h:CpAt w x):StagesAt w (some ⟨x.g,0,none⟩) (Mt.toZ x.T):=fun _=>by
 refine ⟨x.g,0,rfl,h.lt x.g (by unfold Cp.B;simp),fun i hi=>?_⟩
 have hv:i<x.vs.length:=by rw[h.ins.1];exact hi
 have hr:=h.ins.2 i _ _ (zE hv) (zE hi)
 obtain ⟨a,c,e,hI⟩:=hr.at
 refine ⟨a,c,?_,hI⟩
 rw[Nat.zero_add, <-e]
 exact h.row.cell (by simp[hv])
section
variable {α:Type} [Inhabited α] (enc:α->List Value) (w:World) (g m:Nat) (d:Array α) (os:Array Obj)
theorem q83:Kp [g] w (sortWorldK enc 2 w g 0 m d os):=by
 refine ⟨rfl,rfl,rfl,size_sortWorldK_c enc 2 w g 0 m d os,fun k hk hn=>?_⟩
 have hn:k≠g:=by simpa using hn
 show ((putRowK enc 2 (Sort.ahead w m) g 0 d).heap++os)[k]?=_
 rw[Array.getElem?_append_left (by unfold putRowK;rw[size_putRow];exact hk)]
 unfold putRowK putRow mapBlock
 rw[Array.getElem?_modify,if_neg (Ne.symm hn)]
 rfl
theorem q8T {cur:Array Value}{e:TypeId}(h:w.heap[g]?=some (.cells cur e (0,0))): ∃cur':Array Value,(sortWorldK enc 2 w g 0 m d os).heap[g]?=some (.cells cur' e (0,0))/\cur'.size=cur.size:=by
 have hlt:g<w.heap.size:=(zB.1 h).1
 refine ⟨putCells id 0 (flatK enc 2 d) cur,?_,by simp[putCells]⟩
 show ((putRowK enc 2 (Sort.ahead w m) g 0 d).heap++os)[g]?=_
 rw[Array.getElem?_append_left (by unfold putRowK;rw[size_putRow];exact hlt)]
 unfold putRowK putRow mapBlock
 rw[Array.getElem?_modify,if_pos rfl,show (Sort.ahead w m).heap[g]?=w.heap[g]? from rfl,h]
 rfl
end
theorem qaa {w:World}{n0 g cap:Nat}{key:ByteArray}{ys:List Cp}(hrow:w.ownsRow n0 36 2 (.slice (some ⟨g,0,none⟩) ys.length cap) ys.length (ys.flatMap (mtE key))) [Inhabited (Fin ys.length)]:
  HoldsK (fun i:Fin ys.length=>mtE key ys[i]) 2 w g 0 (Array.ofFn fun i:Fin ys.length=>i):=by
 intro t ht
 rw[size_flatK,Array.size_ofFn]at ht
 rw[get_flatK _ _ _ _ (by rw[Array.size_ofFn];exact ht)]
 have hj:t / 2<ys.length:=by omega
 have hi:t % 2<2:=Nat.mod_lt _ (by omega)
 have hc:=q0t (enc:=mtE key) (sz:=2) (q15 key) hrow (t / 2) (t % 2) hj hi
 have e:t / 2 * 2+t % 2=t:=by omega
 rw[e]at hc
 obtain ⟨_,⟨e2,_⟩|⟨g',c',cur,e2,_,hb,_⟩⟩:=hrow
 ·cases e2
 ·cases e2
  have hget:(Array.ofFn fun i:Fin ys.length=>i)[t / 2]! =⟨t / 2,hj⟩:=by
   rw[getElem!_pos _ _ (by rw[Array.size_ofFn];exact hj),Array.getElem_ofFn]
  rw[hget,Nat.zero_add]
  refine ⟨?_,(show CBox g cur 36 w from hb).froz t⟩
  rw[hc]
  show (mtE key ys[t / 2])[t % 2]?=some ((mtE key ys[t / 2])[t % 2]!)
  have hl:t % 2<(mtE key ys[t / 2]).length:=by rw[q15];exact hi
  rw[zE hl,getElem!_pos (mtE key ys[t / 2]) (t % 2) hl]
theorem q8U {w:World}{n0 g cap:Nat}{key:ByteArray}{ys:List Cp}(hrow:w.ownsRow n0 36 2 (.slice (some ⟨g,0,none⟩) ys.length cap) ys.length (ys.flatMap (mtE key)))(hcp: ∀x∈ys,CpAt w x)(hmay: ∀x∈ys,mayM key (Mt.toZ x.T)=true)(hok: ∀x∈ys,MtOk key (Mt.toZ x.T))(hnd:(ys.map (·.T)).Nodup)(hpos:0<ys.length)(hlen:ys.length<=4096):
  Calls Tryz.prog 16 #[.slice (some ⟨g,0,none⟩) ys.length cap, .func (.func 17) #[] #[]] w fun e w'=>e= .returned (.tuple #[])/\Kp [g] w w'/\ ∃zs:List Cp,zs.Perm ys/\Srt (zs.map (·.T))/\w'.ownsRow n0 36 2 (.slice (some ⟨g,0,none⟩) ys.length cap) ys.length (zs.flatMap (mtE key)):=by
 letI:Inhabited (Fin ys.length):=⟨⟨0,hpos⟩⟩
 have hH:=qaa hrow
 have hds:(Array.ofFn fun i:Fin ys.length=>i).size=ys.length:=Array.size_ofFn
 obtain ⟨hrl,⟨e2,_⟩|⟨g',c',cur,e2,hn0,hb,hnc,hcm,hcs,htk⟩⟩:=hrow
 ·cases e2
 cases e2
 have hblk:g<w.heap.size:=(zB.1 hb).1
 have hpre:Pre fun i j:Fin ys.length=>cT ys[i].T ys[j].T:=cT_pre.on fun i:Fin ys.length=>ys[i].T
 have eg: ∀args w,(callFunc 17 args).run Tryz.prog w= .ok (.enter 17 args) w:=enters_of Tryz.func17 (by kernel_rfl) rfl
 have hcmp:CmpLays Tryz.prog 17 #[] (fun i:Fin ys.length=>mtE key ys[i]) 2 (fun i j:Fin ys.length=>cT ys[i].T ys[j].T) g 0 (Array.ofFn fun i:Fin ys.length=>i).size w:=by
  intro m os dk _ x y
  have hk:=q83 (fun i:Fin ys.length=>mtE key ys[i]) w g m dk os
  have st: ∀z∈ys, ∀W,Kp [] (sortWorldK (fun i:Fin ys.length=>mtE key ys[i]) 2 w g 0 m dk os) W->StagesAt W (some ⟨z.g,0,none⟩) (Mt.toZ z.T):=fun z hz W hW=>by
   refine (((hcp z hz).kp hk (fun b hb2 hm=>?_)).kp hW (by simp)).stages
   rw[zD]at hm
   subst hm
   obtain ⟨cs,t,h1,h2⟩:=q29 (hcp z hz) hb2
   unfold CBox at h1
   rw[hb]at h1
   cases h1
   revert h2
   decide
  have hx:ys[x]∈ys:=zJ _
  have hy:ys[y]∈ys:=zJ _
  have hc:=q5T key (some ⟨ys[x].g,0,none⟩) ys[x].T.length (Mt.toZ ys[x].T) key (some ⟨ys[y].g,0,none⟩) ys[y].T.length (Mt.toZ ys[y].T) _ (hok _ hx) (hok _ hy) (st _ hx) (st _ hy)
  rw[q0C,q0C]at hc
  have hv:cmpV key (Mt.toZ ys[x].T) key (Mt.toZ ys[y].T)=cT ys[x].T ys[y].T:=by
   unfold cmpV
   rw[if_pos ⟨hmay _ hx,hmay _ hy⟩,q98]
   rfl
  rw[hv]at hc
  exact hc.mono fun e w' h=>⟨h.1,h.2.2⟩
 have hcon:=AnyQ.slices_SortFunc Tryz.sortM 2 (by intro w;kernel_rfl) (by intro w;kernel_rfl) (fun i:Fin ys.length=>mtE key ys[i]) (fun _=>rfl) (fun x v hv=>by
  unfold mtE Cp.v at hv
  simp only[zH,List.not_mem_nil,or_false]at hv
  rcases hv with rfl|rfl <;> rfl) (fun i j:Fin ys.length=>cT ys[i].T ys[j].T) (qdP hpre) 17 #[] g 0 cap (Array.ofFn fun i:Fin ys.length=>i) w eg hcmp hH hblk (by rw[hds];omega)
 rw[hds]at hcon
 refine Calls.mono (show Calls Tryz.prog 16 #[.slice (some ⟨g,0,none⟩) ys.length cap, .func (.func 17) #[] #[]] w _ from hcon) ?_
 rintro e w' ⟨rfl,d',n,os,hperm,hsort,rfl⟩
 have hd's:d'.size=ys.length:=by rw[hperm.1,hds]
 have hpl:d'.toList.Perm (Array.ofFn fun i:Fin ys.length=>i).toList:=by
  have:=hperm.2.2
  rw[Array.extract_eq_self_of_le (by rw[hd's];exact zM _),Array.extract_eq_self_of_le (by rw[hds];exact zM _)]at this
  exact this
 have hmapd:(Array.ofFn fun i:Fin ys.length=>i).toList.map (fun i:Fin ys.length=>ys[i])=ys:=by
  apply List.ext_getElem
  ·rw[zI,Array.length_toList,hds]
  ·intro k h1 h2
   rw[List.getElem_map,Array.getElem_toList,Array.getElem_ofFn]
   rfl
 have hzp:(d'.toList.map fun i:Fin ys.length=>ys[i]).Perm ys:=by
  have:=hpl.map (fun i:Fin ys.length=>ys[i])
  rw[hmapd]at this
  exact this
 have hzl:(d'.toList.map fun i:Fin ys.length=>ys[i]).length=ys.length:=hzp.length_eq
 refine ⟨rfl,q83 _ w g n d' os,d'.toList.map (fun i:Fin ys.length=>ys[i]),hzp,?_,?_⟩
 ·have hnd2:((d'.toList.map fun i:Fin ys.length=>ys[i]).map (·.T)).Nodup:=(hzp.map (·.T)).nodup_iff.2 hnd
  unfold Srt
  rw[List.pairwise_iff_getElem]
  intro i j hi hj hij
  have hi':i<d'.size:=by simpa using hi
  have hj':j<d'.size:=by simpa using hj
  have hs:=hsort i j (Nat.zero_le _) hij (by omega)
  rw[getElem!_pos d' j hj',getElem!_pos d' i hi']at hs
  unfold ltOf at hs
  rw[decide_eq_false_iff_not]at hs
  have hs: ¬ cT ys[d'[j]].T ys[d'[i]].T<0:=hs
  have ha:=cT_pre.anti ys[d'[i]].T ys[d'[j]].T
  have hne:cT ys[d'[i]].T ys[d'[j]].T≠0:=fun e=>by
   have e:=(q7u _ _).1 e
   have h1:((d'.toList.map fun i:Fin ys.length=>ys[i]).map (·.T))[i]=((d'.toList.map fun i:Fin ys.length=>ys[i]).map (·.T))[j]:=by simpa using e
   have:=(List.getElem_inj hnd2).1 h1
   omega
  have e1:((d'.toList.map fun i:Fin ys.length=>ys[i]).map (·.T))[i]=ys[d'[i]].T:=by simp
  have e2:((d'.toList.map fun i:Fin ys.length=>ys[i]).map (·.T))[j]=ys[d'[j]].T:=by simp
  rw[e1,e2]
  omega
 ·obtain ⟨cur',hb',hs'⟩:=q8T (fun i:Fin ys.length=>mtE key ys[i]) w g n d' os hb
  have hH':=holdsK_sortWorldK_c (fun i:Fin ys.length=>mtE key ys[i]) 2 w g 0 _ d' n os hH hblk (by rw[hd's,hds])
  have hfl:=q1Y (mtE key) 2 (q15 key) (d'.toList.map fun i:Fin ys.length=>ys[i])
  rw[hzl]at hfl
  refine ⟨hfl,Or.inr ⟨g,cap,cur',rfl,hn0,hb',hnc,hcm,by rw[hs',hcs],?_⟩⟩
  apply List.ext_getElem?
  intro t
  by_cases ht:t<ys.length * 2
  ·rw[List.getElem?_take,if_pos ht]
   have hj:t / 2<ys.length:=by omega
   have hi:t % 2<2:=Nat.mod_lt _ (by omega)
   have e:t / 2 * 2+t % 2=t:=by omega
   have hfa:=q3s (mtE key) 2 (q15 key) (d'.toList.map fun i:Fin ys.length=>ys[i]) (t / 2) (t % 2) (by rw[hzl];exact hj) hi
   rw[e]at hfa
   rw[hfa]
   have hc:=(hH'.cell (i:=t / 2) (c:=t % 2) (by rw[hd's];exact hj) hi).1
   rw[Nat.zero_add,e]at hc
   have hcur:cur'[t]?=some ((mtE key ys[d'[t / 2]!])[t % 2]!):=by
    refine Eq.trans ?_ hc
    unfold World.cell?
    dsimp only
    rw[hb']
    simp
   rw[Array.getElem?_toList,hcur]
   have hl:t % 2<(mtE key ys[d'[t / 2]!]).length:=by rw[q15];exact hi
   rw[getElem!_pos (mtE key ys[d'[t / 2]!]) (t % 2) hl, <-zE hl]
   have hq:d'[t / 2]! =d'[t / 2]'(by omega):=getElem!_pos _ _ (by omega)
   have hq2:ys[d'[t / 2]!]=(d'.toList.map fun i:Fin ys.length=>ys[i])[t / 2]'(by rw[hzl];exact hj):=by
    rw[List.getElem_map,Array.getElem_toList]
    exact congrArg (fun i:Fin ys.length=>ys[i]) hq
   exact congrArg (fun x=>(mtE key x)[t % 2]?) hq2
  ·rw[List.getElem?_take,if_neg ht,List.getElem?_eq_none (by rw[hfl];omega)]
theorem qbW {w:World}{n0:Nat}{v:Value}{key:ByteArray}{ys:List Cp}(hrow:w.ownsRow n0 36 2 v ys.length (ys.flatMap (mtE key)))(hcp: ∀x∈ys,CpAt w x)(hmay: ∀x∈ys,mayM key (Mt.toZ x.T)=true)(hok: ∀x∈ys,MtOk key (Mt.toZ x.T))(hnd:(ys.map (·.T)).Nodup)(hlen:ys.length<=4096):
  Calls Tryz.prog 16 #[v, .func (.func 17) #[] #[]] w fun e w'=>e= .returned (.tuple #[])/\Kp v.ownBlock.toList w w'/\ ∃zs:List Cp,zs.Perm ys/\Srt (zs.map (·.T))/\w'.ownsRow n0 36 2 v ys.length (zs.flatMap (mtE key)):=by
 rcases Nat.eq_zero_or_pos ys.length with h0|hpos
 ·obtain rfl:=List.eq_nil_of_length_eq_zero h0
  obtain ⟨a,c,rfl⟩: ∃a c,v= .slice a 0 c:=by
   obtain ⟨_,⟨e,_⟩|⟨g,c,cur,e,_⟩⟩:=hrow
   ·exact ⟨_,_,e⟩
   ·exact ⟨_,_,e⟩
  have hn:=AnyF.slices_SortFunc_none Tryz.sortM a c (.func (.func 17) #[] #[]) w
  refine Calls.mono (show Calls Tryz.prog 16 #[.slice a 0 c, .func (.func 17) #[] #[]] w _ from hn) ?_
  rintro e w' ⟨rfl,rfl⟩
  exact ⟨rfl,Kp.refl _ _,[],List.Perm.refl _,List.Pairwise.nil,hrow⟩
 ·obtain ⟨g,c,rfl⟩: ∃g c,v= .slice (some ⟨g,0,none⟩) ys.length c:=by
   obtain ⟨_,⟨_,e⟩|⟨g,c,cur,e,_⟩⟩:=hrow
   ·omega
   ·exact ⟨_,_,e⟩
  refine (q8U hrow hcp hmay hok hnd hpos hlen).mono ?_
  rintro e w' ⟨h1,h2,h3⟩
  exact ⟨h1,h2.mono (by simp[Value.ownBlock]),h3⟩
end
open Go.RowKit Go.Shelf
attribute [local go_sem] Oper.semAt_some
theorem q7Q {W:World}{g:Nat}{v:Value}(h:CBox g #[v] 31 W):(loadVar 31 ⟨g,0,none⟩).run Tryz.prog W= .ok v W:=by
 have c:=h.cell (i:=0) (v:=v) rfl
 go_simp
theorem q7P {W:World}{g:Nat}{v:Value}(h:CBox g #[v] 32 W):(loadVar 32 ⟨g,0,none⟩).run Tryz.prog W= .ok v W:=by
 have c:=h.cell (i:=0) (v:=v) rfl
 go_simp
theorem q3B {P:Program}{fn:Func}{p u:Tmp}{ty ty2:TypeId}(h:fn.results=#[.cell p ty, .cell u ty2])(tmps:Array Value)(w:World)(g g2:Nat)(v v2:Value)
  (hp:tmps.getD p undef= .pointer (some ⟨g,0,none⟩)) (h1:(loadVar ty ⟨g,0,none⟩).run P w= .ok v w) (hp2:tmps.getD u undef= .pointer (some ⟨g2,0,none⟩)) (h2:(loadVar ty2 ⟨g2,0,none⟩).run P w= .ok v2 w):
  (results fn tmps).run P w= .ok (.tuple #[v,v2]) w:=by
 have hp':tmps[p]?.getD undef= .pointer (some ⟨g,0,none⟩):=by simpa using hp
 have hp2':tmps[u]?.getD undef= .pointer (some ⟨g2,0,none⟩):=by simpa using hp2
 simp[results,h,hp',hp2',asAddr,h1,h2,Sem.run_bind,Result.andThen]
theorem qcM {n:Nat}{fn:Func}{R:Ending->World->Prop}{tmps:Array Value}{W:World}{b1 b2:Nat}{v v2:Value}(h:fn.results=#[.cell 6 31, .cell 7 32])
  (h6:tmps.getD 6 undef= .pointer (some ⟨b1,0,none⟩)) (h7:tmps.getD 7 undef= .pointer (some ⟨b2,0,none⟩)) (c1:CBox b1 #[v] 31 W) (c2:CBox b2 #[v2] 32 W) (hR:R (.returned (.tuple #[v,v2])) W):
  bodyPostM Fence.wide n Tryz.prog fn R .ret { tmps:=tmps,defers:=[] } W:=
 ⟨_,q3B h tmps W b1 b2 v v2 h6 (q7Q c1) h7 (q7P c2),hR⟩
theorem q7G {n:Nat}{fn:Func}{R:Ending->World->Prop}{tmps:Array Value}{W:World}{D b1 b2:Nat}{v v2:Value}(h:fn.results=#[.cell 6 31, .cell 7 32])
  (h6:tmps.getD 6 undef= .pointer (some ⟨b1,0,none⟩)) (h7:tmps.getD 7 undef= .pointer (some ⟨b2,0,none⟩)) (hK:W.heap[D]?=some (.deferred (some []))) (c1:CBox b1 #[v] 31 W) (c2:CBox b2 #[v2] 32 W) (hR:R (.returned (.tuple #[v,v2])) (W.putObj D (.deferred none))):
  bodyPostM Fence.wide n Tryz.prog fn R .ret { tmps:=tmps,defers:=[{ target:= .collected D,args:=#[] }] } W:=by
 refine ⟨by simp, .inl ⟨_,_,rfl,run_takeDeferred hK,?_⟩⟩
 have k1:=c1.putObj (o':= .deferred none) hK rfl
 have k2:=c2.putObj (o':= .deferred none) hK rfl
 exact ⟨_,q3B h tmps _ b1 b2 v v2 h6 (q7Q k1) h7 (q7P k2),hR⟩
def fiE (p:Ptn)(key:ByteArray)(es:List Ev):Int:=if mckE p es=0 then (if arE key es=true then (if 4096<(fdS (Mt.pm p es) p.wi.toNat).length then 140 else 0) else 20) else mckE p es
def fiL (p:Ptn)(key:ByteArray)(es:List Ev):List (List (List Nat)):=if fiE p key es=0 then fdS (Mt.pm p es) p.wi.toNat else []
structure FdP (w:World)(key:ByteArray)(L:List (List (List Nat)))(v:Value)(zs:List Cp)(w':World):Prop where
 kp:Kp [] w w'
 ts:zs.map (·.T)=L
 cp: ∀x∈zs,CpAt w' x
 row:w'.ownsRow w.heap.size 36 2 v zs.length (zs.flatMap (mtE key))
theorem FdP.none {w w':World}(key:ByteArray)(h:Kp [] w w'):FdP w key [] (.slice none 0 0) [] w':=⟨h,rfl,by simp,World.ownsRow_nil _ _ _ _⟩
theorem q3C {key:ByteArray}{es:List Ev}(h:arE key es=true):q0q key=true:=by
 unfold arE at h
 split at h
 ·rename_i h0
  unfold chkE mayE at h0
  revert h0
  cases q0q key <;> simp
 ·cases h
theorem q2g {w:World}{B e sz n:Nat}{v:Value}{xs:List Value}(h:w.ownsRow B e sz v n xs): ∃a c,v= .slice a n c/\(0<n-> ∃g,a=some ⟨g,0,none⟩):=by
 obtain ⟨_,⟨e,h0⟩|⟨g,c,cur,e,_⟩⟩:=h
 ·exact ⟨none,0,by rw[e,h0],fun h=>by omega⟩
 ·exact ⟨_,c,e,fun _=>⟨g,rfl⟩⟩
theorem q5L {n:Nat}{fn:Func}{tmps:Array Value}{w W3:World}{b1 b2:Nat}{key:ByteArray}{E FE:Int}{FL:List (List (List Nat))}(h:fn.results=#[.cell 6 31, .cell 7 32])
  (h6:tmps.getD 6 undef= .pointer (some ⟨b1,0,none⟩)) (h7:tmps.getD 7 undef= .pointer (some ⟨b2,0,none⟩)) (c1:CBox b1 #[.slice none 0 0] 31 W3) (c2:CBox b2 #[.int .i64 0] 32 W3) (hk:Kp [] w W3) (hb1:w.heap.size<=b1) (hb2:w.heap.size<=b2) (hE:FE=E) (hL:FL=[]):
  bodyPostM Fence.wide n Tryz.prog fn (fun e w'=> ∃v zs,e= .returned (.tuple #[v, .int .i64 FE])/\FdP w key FL v zs w') .ret { tmps:=tmps,defers:=[] } ((W3.setCell ⟨b1,0,none⟩ (.slice none 0 0)).setCell ⟨b2,0,none⟩ (.int .i64 E)):=by
 subst hE hL
 have hne:b1≠b2:=q0p c1 c2 (by decide)
 have k1:=Kp.set W3 b1 0 (.slice none 0 0)
 have k2:=Kp.set (W3.setCell ⟨b1,0,none⟩ (.slice none 0 0)) b2 0 (.int .i64 FE)
 have d1:CBox b1 #[.slice none 0 0] 31 (W3.setCell ⟨b1,0,none⟩ (.slice none 0 0)):=c1.set 0 (.slice none 0 0)
 have d2:CBox b2 #[.int .i64 FE] 32 ((W3.setCell ⟨b1,0,none⟩ (.slice none 0 0)).setCell ⟨b2,0,none⟩ (.int .i64 FE)):=(c2.kp k1 (by simpa using hne.symm)).set 0 (.int .i64 FE)
 refine qcM h h6 h7 (d1.kp k2 (by simpa using hne)) d2 ⟨_,[],rfl,FdP.none key ((hk.trans k1 (fun x hx=>Or.inr ?_)).trans k2 (fun x hx=>Or.inr ?_))⟩
 ·rw[zD]at hx;omega
 ·rw[zD]at hx;omega
theorem q2o: ∀(x a:Int) (ss:List (List Int)),q0u x a ss=true-> ∀p∈ss,(p.length:Int)<=x
 |_,_,[],_,p,hp=>by cases hp
 |x,a,q::r,h,p,hp=>by
  rw[q0u]at h
  split at h
  ·cases h
  ·rename_i hn
   have h2: ¬ x<(q.length:Int):=fun h=>hn (Or.inr (Or.inl h))
   rcases zH.1 hp with rfl|hp
   ·omega
   ·have:=q2o _ _ r h p hp
    omega
theorem q9V (w:World)(o:Obj){b:Nat}{p:Obj}(h:w.heap[b]?=some p):(w.alloc o).heap[b]?=some p:=(Below.heap_alloc _ _ _ (zB.1 h).1).trans h
theorem qb1 {w W1 w3 w5:World}{key:ByteArray}{r:Loop}{ps es:Obj}(b1:CBox (w.heap.size+1) #[.string key] 9 W1)(b2:CBox (w.heap.size+1+1) #[.slice none 0 0] 31 W1)(b3:CBox (w.heap.size+1+1+1) #[.int .i64 0] 32 W1)(hz:W1.heap.size=w.heap.size+1+1+1+1)(hk:Kp [] W1 w3)
  (h5:w5=((w3.alloc (.cells #[.slice none 0 0] 31)).alloc ps).alloc es) {w0:World} (h0:Kp [] ((w5.alloc (.deferred (some []))).alloc (.loop r)) w0):
  FdT ⟨w5.heap.size+1,w5.heap.size,r,w.heap.size+1,w.heap.size+1+1,w.heap.size+1+1+1,w3.heap.size,key⟩ w0.heap.size [] w0:=by
 have k5:Kp [] w3 w5:=by rw[h5];exact ((Kp.alloc _ _).trans (Kp.alloc _ _) (by simp)).trans (Kp.alloc _ _) (by simp)
 have kL:Kp [] w5 ((w5.alloc (.deferred (some []))).alloc (.loop r)):=(Kp.alloc _ _).trans (Kp.alloc _ _) (by simp)
 have kW:Kp [] W1 w0:=((hk.trans k5 (by simp)).trans kL (by simp)).trans h0 (by simp)
 have ob:CBox w3.heap.size #[.slice none 0 0] 31 w5:=by
  rw[h5]
  exact (CBox.new w3 _ _).kp ((Kp.alloc _ _).trans (Kp.alloc _ _) (by simp)) (by simp)
 have hD:(w5.alloc (.deferred (some []))).heap[w5.heap.size]?=some (.deferred (some [])):=heap_alloc_new _ _
 have hL:((w5.alloc (.deferred (some []))).alloc (.loop r)).heap[w5.heap.size+1]?=some (.loop r):=by
  have:=heap_alloc_new (w5.alloc (.deferred (some []))) (.loop r)
  simpa using this
 have hD2:=q9V _ (.loop r) hD
 have s3:=hk.size
 refine ⟨(h0.block _ (zB.1 hL).1 (by simp)).trans hL,(h0.block _ (zB.1 hD2).1 (by simp)).trans hD2,b1.kp kW (by simp),b2.kp kW (by simp),b3.kp kW (by simp),⟨_,ob.kp (kL.trans h0 (by simp)) (by simp),World.ownsRow_nil _ _ _ _⟩,by simp,zM _,by show w.heap.size+1+1≠w3.heap.size;omega⟩
theorem FdT.stop {c:FdC}{n0:Nat}{xs:List Cp}{w W:World}(h:FdT c n0 xs w)(hlen:xs.length=4096)(x:Cp)(hW:W=((w.putObj c.L (.loop { c.r with state:= .busy })).setCell ⟨c.rb,0,none⟩ (.slice none 0 0)).setCell ⟨c.eb,0,none⟩ (.int .i64 140)):
  W.heap[c.L]?=some (.loop { c.r with state:= .busy })/\Kp [c.L,c.rb,c.eb] w (W.putObj c.L (.loop { c.r with state:= .done,pending:=some .ret }))/\FdF c (xs++[x]) (W.putObj c.L (.loop { c.r with state:= .done,pending:=some .ret })):=by
 have hnl: ∀{b:Nat} {cs:Array Value} {t:TypeId},CBox b cs t w->b≠c.L:=fun hb e=>by
  subst e
  unfold CBox at hb
  rw[h.lo]at hb
  cases hb
 have kp: ∀(V:World) (o:Obj),Kp [c.L] V (V.putObj c.L o):=fun V o=>⟨rfl,rfl,rfl,by simp,fun k _ hn=>World.putObj_heap_other (by simpa using hn)⟩
 have hlt:c.L<w.heap.size:=(zB.1 h.lo).1
 have k1:=kp w (.loop { c.r with state:= .busy })
 have k2:=Kp.set (w.putObj c.L (.loop { c.r with state:= .busy })) c.rb 0 (.slice none 0 0)
 have k3:=Kp.set ((w.putObj c.L (.loop { c.r with state:= .busy })).setCell ⟨c.rb,0,none⟩ (.slice none 0 0)) c.eb 0 (.int .i64 140)
 rw[<-hW]at k3
 have hre:c.rb≠c.eb:=q0p h.br h.be (by decide)
 have hL1:(w.putObj c.L (.loop { c.r with state:= .busy })).heap[c.L]?=some (.loop { c.r with state:= .busy }):=World.putObj_heap_same hlt
 have hL2:=(k2.block c.L (zB.1 hL1).1 (by simpa using (hnl h.br).symm)).trans hL1
 have hL3:=(k3.block c.L (zB.1 hL2).1 (by simpa using (hnl h.be).symm)).trans hL2
 have k4:=kp W (.loop { c.r with state:= .done,pending:=some .ret })
 have kA:Kp [c.L,c.rb,c.eb] w (W.putObj c.L (.loop { c.r with state:= .done,pending:=some .ret })):=(((k1.mono (by simp)).trans k2 (by simp)).trans k3 (by simp)).trans k4 (by simp)
 have r1:=h.br.kp k1 (by simpa using hnl h.br)
 have r2:CBox c.rb #[.slice none 0 0] 31 ((w.putObj c.L (.loop { c.r with state:= .busy })).setCell ⟨c.rb,0,none⟩ (.slice none 0 0)):=r1.set 0 (.slice none 0 0)
 have r3:=r2.kp k3 (by simpa using hre)
 have e2:=(h.be.kp k1 (by simpa using hnl h.be)).kp k2 (by simpa using hre.symm)
 have e3:CBox c.eb #[.int .i64 140] 32 W:=by
  rw[hW]
  exact e2.set 0 (.int .i64 140)
 refine ⟨hL3,kA,⟨World.putObj_heap_same (zB.1 hL3).1,?_,r3.kp k4 (by simpa using hnl h.br),e3.kp k4 (by simpa using hnl h.be),by simp[hlen]⟩⟩
 refine (kA.block _ (zB.1 h.dm).1 (fun hm=>?_)).trans h.dm
 have hd:=h.dm
 simp only[zH,List.not_mem_nil,or_false]at hm
 rcases hm with hm|hm|hm
 ·rw[hm,h.lo]at hd
  cases hd
 ·have:=h.br
  unfold CBox at this
  rw[hm,this]at hd
  cases hd
 ·have:=h.be
  unfold CBox at this
  rw[hm,this]at hd
  cases hd
theorem q5M {c:FdC}{n0:Nat}{ys:List Cp}{W' V:World}{o:Obj}{v:Value}(hT:FdT c n0 ys W')(hV:V=W'.putObj c.L o)(hrow:W'.ownsRow n0 36 2 v ys.length (ys.flatMap (mtE c.key))){b:Nat}{cs:Array Value}{t:TypeId}(hb:CBox b cs t W')(ht:t≠36):CBox b cs t V/\ ∀w8,Kp v.ownBlock.toList V w8->CBox b cs t w8:=by
 have h1:CBox b cs t V:=by rw[hV];exact hb.putObj hT.lo rfl
 exact ⟨h1,fun w8 hk=>h1.kp hk (fun hm=>q0d hrow hb ht (by simpa using hm))⟩
theorem q1k (W:World)(L:Nat)(o:Obj):Kp [L] W (W.putObj L o):=⟨rfl,rfl,rfl,by simp,fun k _ hn=>World.putObj_heap_other (by simpa using hn)⟩
theorem q3p {w:World}{x:Cp}(h:CpAt w x){b:Nat}(hb:b∈x.B){o:Obj}(ho:w.heap[b]?=some o): ∃cs t,o= .cells cs t (0,0)/\t∈[51,3]:=by
 obtain ⟨cs,t,h1,h2⟩:=q29 h hb
 unfold CBox at h1
 rw[ho]at h1
 cases h1
 exact ⟨cs,t,rfl,h2⟩
theorem qcK {n:Nat}{fn:Func}{tmps:Array Value}{w W W' V w8:World}{c:FdC}{n0:Nat}{ys zs:List Cp}{v:Value}{o:Obj}{FE:Int}{FL:List (List (List Nat))}(h:fn.results=#[.cell 6 31, .cell 7 32])
  (h6:tmps.getD 6 undef= .pointer (some ⟨c.rb,0,none⟩)) (h7:tmps.getD 7 undef= .pointer (some ⟨c.eb,0,none⟩)) (hT:FdT c n0 ys W') (kW:Kp [] w W) (kF:Kp [c.L,c.rb,c.eb,c.ob] W W') (g1:w.heap.size<=c.L/\w.heap.size<=c.rb/\w.heap.size<=c.eb/\w.heap.size<=c.ob/\w.heap.size<=c.D) (hn0:w.heap.size<=n0)
  (hV:V=W'.putObj c.L o) (hk8:Kp v.ownBlock.toList V w8) (_hob:CBox c.ob #[v] 31 W') (hrow:W'.ownsRow n0 36 2 v ys.length (ys.flatMap (mtE c.key))) (hcp: ∀x∈ys,CpAt W' x) (hperm:zs.Perm ys) (hrow8:w8.ownsRow n0 36 2 v ys.length (zs.flatMap (mtE c.key))) (hts:zs.map (·.T)=FL) (hE:FE=0):
  bodyPostM Fence.wide n Tryz.prog fn (fun e w'=> ∃v zs,e= .returned (.tuple #[v, .int .i64 FE])/\FdP w c.key FL v zs w') .ret { tmps:=tmps,defers:=[{ target:= .collected c.D,args:=#[] }] } ((w8.setCell ⟨c.rb,0,none⟩ v).setCell ⟨c.eb,0,none⟩ (.int .i64 0)):=by
 subst hE hts
 obtain ⟨gL,gr,ge,go,gD⟩:=g1
 have r8:=(q5M hT hV hrow hT.br (by decide)).2 w8 hk8
 have e8:=(q5M hT hV hrow hT.be (by decide)).2 w8 hk8
 have hre:c.rb≠c.eb:=q0p hT.br hT.be (by decide)
 have k1:=Kp.set w8 c.rb 0 v
 have k2:=Kp.set (w8.setCell ⟨c.rb,0,none⟩ v) c.eb 0 (.int .i64 0)
 have r9:CBox c.rb #[v] 31 (w8.setCell ⟨c.rb,0,none⟩ v):=r8.set 0 v
 have r10:=r9.kp k2 (by simpa using hre)
 have e10:CBox c.eb #[.int .i64 0] 32 ((w8.setCell ⟨c.rb,0,none⟩ v).setCell ⟨c.eb,0,none⟩ (.int .i64 0)):=(e8.kp k1 (by simpa using hre.symm)).set 0 (.int .i64 0)
 have kV:Kp [c.L] W' V:=by rw[hV];exact q1k _ _ _
 have hDL:c.D≠c.L:=fun e=>by
  have:=hT.dm
  rw[e,hT.lo]at this
  cases this
 have hD8:w8.heap[c.D]?=some (.deferred (some [])):=by
  have hDV:=(kV.block _ (zB.1 hT.dm).1 (by simpa using hDL)).trans hT.dm
  refine (hk8.block _ (zB.1 hDV).1 (fun hm=>?_)).trans hDV
  obtain ⟨cs,hc⟩:=q08 hrow (by simpa using hm)
  unfold CBox at hc
  rw[hT.dm]at hc
  cases hc
 have nb: ∀{b:Nat} {cs:Array Value} {t:TypeId},CBox b cs t w8->c.D≠b:=fun hb e=>by
  subst e
  unfold CBox at hb
  rw[hD8]at hb
  cases hb
 have hD9:=(k1.block _ (zB.1 hD8).1 (by simpa using nb r8)).trans hD8
 have hD10:=(k2.block _ (zB.1 hD9).1 (by simpa using nb e8)).trans hD9
 have k3:=q1k ((w8.setCell ⟨c.rb,0,none⟩ v).setCell ⟨c.eb,0,none⟩ (.int .i64 0)) c.D (.deferred none)
 have own: ∀b∈v.ownBlock.toList,w.heap.size<=b:=fun b hb=>by
  have:=(hrow.lt b (by simpa using hb)).1
  omega
 have K1:Kp [] w W':=kW.trans kF (fun b hb=>Or.inr (by
  simp only[zH,List.not_mem_nil,or_false]at hb
  rcases hb with rfl|rfl|rfl|rfl <;> assumption))
 have K2:Kp [] w w8:=(K1.trans kV (fun b hb=>Or.inr (by rw[zD]at hb;omega))).trans hk8 (fun b hb=>Or.inr (own b hb))
 have K3:Kp [] w (((w8.setCell ⟨c.rb,0,none⟩ v).setCell ⟨c.eb,0,none⟩ (.int .i64 0)).putObj c.D (.deferred none)):=((K2.trans k1 (fun b hb=>Or.inr (by rw[zD]at hb;omega))).trans k2 (fun b hb=>Or.inr (by rw[zD]at hb;omega))).trans k3 (fun b hb=>Or.inr (by rw[zD]at hb;omega))
 have k8:Kp [c.rb,c.eb,c.D] w8 (((w8.setCell ⟨c.rb,0,none⟩ v).setCell ⟨c.eb,0,none⟩ (.int .i64 0)).putObj c.D (.deferred none)):=((k1.mono (by simp)).trans k2 (by simp)).trans k3 (by simp)
 have hlz:zs.length=ys.length:=hperm.length_eq
 refine q7G h h6 h7 hD10 r10 e10 ⟨v,zs,rfl,K3,rfl,fun x hx=>?_,?_⟩
 ·have hxy:=hcp x (hperm.subset hx)
  have hxV:=hxy.kp kV (fun b hb hm=>by
   rw[zD]at hm
   subst hm
   obtain ⟨_,_,e,_⟩:=q3p hxy hb hT.lo
   cases e)
  have hx8:=hxV.kp hk8 (fun b hb hm=>by
   obtain ⟨cs,hc⟩:=q08 hrow (by simpa using hm)
   obtain ⟨cs',t,e,ht⟩:=q3p hxy hb hc
   cases e
   revert ht
   decide)
  refine hx8.kp k8 (fun b hb hm=>?_)
  simp only[zH,List.not_mem_nil,or_false]at hm
  rcases hm with rfl|rfl|rfl
  ·obtain ⟨_,_,e,ht⟩:=q3p hx8 hb r8
   cases e
   revert ht
   decide
  ·obtain ⟨_,_,e,ht⟩:=q3p hx8 hb e8
   cases e
   revert ht
   decide
  ·obtain ⟨_,_,e,_⟩:=q3p hx8 hb hD8
   cases e
 ·rw[hlz]
  have hf:=q03 hrow8 k8 (fun b hb hm=>by
   obtain ⟨cs,hc⟩:=q08 hrow8 hb
   simp only[zH,List.not_mem_nil,or_false]at hm
   rcases hm with rfl|rfl|rfl
   ·exact q0p hc r8 (by decide) rfl
   ·exact q0p hc e8 (by decide) rfl
   ·unfold CBox at hc
    rw[hD8]at hc
    cases hc)
  obtain ⟨h1,h2|⟨g,cap,cur,h2,h3,h4⟩⟩:=hf
  ·exact ⟨h1,Or.inl h2⟩
  ·exact ⟨h1,Or.inr ⟨g,cap,cur,h2,Nat.le_trans hn0 h3,h4⟩⟩
theorem qcL {n:Nat}{fn:Func}{tmps:Array Value}{w W W':World}{c:FdC}{ys:List Cp}{o:Obj}{FE:Int}{FL:List (List (List Nat))}(h:fn.results=#[.cell 6 31, .cell 7 32])
  (h6:tmps.getD 6 undef= .pointer (some ⟨c.rb,0,none⟩)) (h7:tmps.getD 7 undef= .pointer (some ⟨c.eb,0,none⟩)) (hT:FdF c ys W') (kW:Kp [] w W) (kF:Kp [c.L,c.rb,c.eb,c.ob] W W') (g1:w.heap.size<=c.L/\w.heap.size<=c.rb/\w.heap.size<=c.eb/\w.heap.size<=c.ob/\w.heap.size<=c.D) (hts:FL=[]) (hE:FE=140):
  bodyPostM Fence.wide n Tryz.prog fn (fun e w'=> ∃v zs,e= .returned (.tuple #[v, .int .i64 FE])/\FdP w c.key FL v zs w') .ret { tmps:=tmps,defers:=[{ target:= .collected c.D,args:=#[] }] } (W'.putObj c.L o):=by
 subst hE hts
 obtain ⟨gL,gr,ge,go,gD⟩:=g1
 have kV:=q1k W' c.L o
 have hDL:c.D≠c.L:=fun e=>by
  have:=hT.dm
  rw[e,hT.lo]at this
  cases this
 have hDV:=(kV.block _ (zB.1 hT.dm).1 (by simpa using hDL)).trans hT.dm
 have k3:=q1k (W'.putObj c.L o) c.D (.deferred none)
 have K1:Kp [] w W':=kW.trans kF (fun b hb=>Or.inr (by
  simp only[zH,List.not_mem_nil,or_false]at hb
  rcases hb with rfl|rfl|rfl|rfl <;> assumption))
 exact q7G h h6 h7 hDV (hT.br.putObj hT.lo rfl) (hT.be.putObj hT.lo rfl) ⟨_,[],rfl,FdP.none c.key ((K1.trans kV (fun b hb=>Or.inr (by rw[zD]at hb;omega))).trans k3 (fun b hb=>Or.inr (by rw[zD]at hb;omega)))⟩
end Go.Proofs.YtfgkikeeadlcfaaGreatDoor
namespace Go.Proofs.YtfgkikeeadlcfaaGreatDoor
open Go.RowKit Go.Shelf
attribute [local go_sem] Oper.semAt_some
theorem qcP (n:Nat)(sa:Option Addr)(sc:Nat)(l:List SR)(wi:Int)(ea:Option Addr)(ec:Nat)(es:List Ev)(key:ByteArray)(w:World)(hst:StsAt w sa l)(hev:EvsAt w ea es)(htb:TbE w)(hok: ∀r∈l,r.s.ok)(hfit: ∀r∈l, ∀q∈r.s.cd,q.fit)(hsc:l.length<=sc)(hl:l.length<=9223372036854775807)(hes:es.length<=9223372036854775807)(hsz: ∀e∈es,evSz e)(hks:key.size<=9223372036854775807):
  CallsIn Fence.wide n Tryz.prog 5 #[.agg #[.slice sa l.length sc, .int .i64 wi], .string key, .slice ea es.length ec] w fun e w'=> ∃v zs,e= .returned (.tuple #[v, .int .i64 (fiE ⟨stgs l,wi⟩ key es)])/\FdP w key (fiL ⟨stgs l,wi⟩ key es) v zs w':=by
 obtain ⟨W1,hW1⟩: ∃W1,W1=(((w.alloc (.cells #[.slice sa l.length sc, .int .i64 wi] 24)).alloc (.cells #[.string key] 9)).alloc (.cells #[.slice none 0 0] 31)).alloc (.cells #[.int .i64 0] 32):=⟨_,rfl⟩
 have k1:Kp [] w W1:=by rw[hW1];exact (((Kp.alloc _ _).trans (Kp.alloc _ _) (by simp)).trans (Kp.alloc _ _) (by simp)).trans (Kp.alloc _ _) (by simp)
 have b0:CBox w.heap.size #[.slice sa l.length sc, .int .i64 wi] 24 W1:=by
  rw[hW1]
  exact (CBox.new w _ _).kp (((Kp.alloc _ _).trans (Kp.alloc _ _) (by simp)).trans (Kp.alloc _ _) (by simp)) (by simp)
 have b1:CBox (w.heap.size+1) #[.string key] 9 W1:=by
  have:=(CBox.new (w.alloc (.cells #[.slice sa l.length sc, .int .i64 wi] 24)) #[.string key] 9).kp ((Kp.alloc _ (.cells #[.slice none 0 0] 31)).trans (Kp.alloc _ (.cells #[.int .i64 0] 32)) (by simp)) (by simp)
  simp only[World.size_alloc]at this
  rw[hW1]
  exact this
 have b2:CBox (w.heap.size+1+1) #[.slice none 0 0] 31 W1:=by
  have:=(CBox.new ((w.alloc (.cells #[.slice sa l.length sc, .int .i64 wi] 24)).alloc (.cells #[.string key] 9)) #[.slice none 0 0] 31).kp (Kp.alloc _ (.cells #[.int .i64 0] 32)) (by simp)
  simp only[World.size_alloc]at this
  rw[hW1]
  exact this
 have b3:CBox (w.heap.size+1+1+1) #[.int .i64 0] 32 W1:=by
  have:=CBox.new (((w.alloc (.cells #[.slice sa l.length sc, .int .i64 wi] 24)).alloc (.cells #[.string key] 9)).alloc (.cells #[.slice none 0 0] 31)) #[.int .i64 0] 32
  simp only[World.size_alloc]at this
  rw[hW1]
  exact this
 have hz1:W1.heap.size=w.heap.size+1+1+1+1:=by rw[hW1];simp
 have CK:=hZq ((callsIn_wide (n:=n-1)).2 (q48 sa sc l wi ea ec es W1 (hst.kp k1) (hev.kp k1 (by simp)) (htb.kp k1 (by simp)) hok hl hes hsz))
 have AR:=hZq (fun W (hk:Kp [] w W)=>(callsIn_wide (n:=n-1)).2 (q91 ea ec es key W (hev.kp hk (by simp)) hes hks))
 have MI:=hZq (fun (WI:Nat) hp hw hw1 hel wB W hk h1 h2 h3=>q66 wB W sa sc l WI ea ec es hk h1 h2 h3 hp hok hfit hsc hw hw1 hel)
 have p0:=b0.cell (i:=0) (v:= .slice sa l.length sc) rfl
 have p1:=b0.cell (i:=1) (v:= .int .i64 wi) rfl
 have HB:=hZq (And.intro b0 (And.intro b1 (And.intro b2 (And.intro b3 (And.intro k1 hz1)))))
 have HIN:=hZq (And.intro hst (And.intro hev htb))
 have HKS:=hZq hks
 obtain ⟨CE,hCE⟩: ∃CE,CE=mckE ⟨stgs l,wi⟩ es:=⟨_,rfl⟩
 have HCE:=hZq hCE
 rw[<-hCE]at CK
 obtain ⟨FE,hFE⟩: ∃FE,FE=fiE ⟨stgs l,wi⟩ key es:=⟨_,rfl⟩
 have HFE:=hZq hFE
 rw[<-hFE]
 obtain ⟨FL,hFL⟩: ∃FL,FL=fiL ⟨stgs l,wi⟩ key es:=⟨_,rfl⟩
 have HFL:=hZq hFL
 rw[<-hFL]
 obtain ⟨ln,hln⟩: ∃ln,ln=l.length:=⟨_,rfl⟩
 have HLN:=hZq hln
 rw[<-hln]at hW1 p0 CK hl hsc ⊢
 obtain ⟨en,hen⟩: ∃en,en=es.length:=⟨_,rfl⟩
 have HEN:=hZq hen
 rw[<-hen]at CK AR hes ⊢
 clear hst hev htb hok hfit hsz hks b0 b1 b2 b3 k1 hz1 hCE hFE hFL hln hen
 refine callsIn_of_wp_marks Tryz.func5 rfl trivial ?_ rfl
 simp only[Tryz.ntmps5,List.size_toArray,List.length_cons,List.length_nil,Nat.reduceAdd,Nat.reduceSub,Array.replicate_succ,Array.replicate_zero,List.push_toArray,List.append_toArray,List.nil_append,List.cons_append]
 gi_wp2_with fail
 refine ⟨trivial,(fun h=>by cases h),?_⟩
 rw[<-hW1]
 refine (uQ CK).mono ?_
 rintro e w2 ⟨rfl,hk2⟩
 have HK2:=hZq hk2
 obtain ⟨b0,b1,b2,b3,k1,hz1⟩:=uQ HB
 have q1:=(b1.kp hk2 (by simp)).cell (i:=0) (v:= .string key) rfl
 have q2:=(b2.kp hk2 (by simp)).cell (i:=0) (v:= .slice none 0 0) rfl
 have q3:=(b3.kp hk2 (by simp)).cell (i:=0) (v:= .int .i64 0) rfl
 have f2:=(b2.kp hk2 (by simp)).froz
 have f3:=(b3.kp hk2 (by simp)).froz
 clear CK hW1 p0 p1 hk2 b0 b1 b2 b3 k1 hz1
 by_cases h0:CE=0
 ·have HEE:Hid (FE=if arE key es=true then (if 4096<(fdS (Mt.pm ⟨stgs l,wi⟩ es) wi.toNat).length then 140 else 0) else 20):=hZq (by
   rw[uQ HFE]
   unfold fiE
   rw[<-uQ HCE,if_pos h0])
  have A1:=hZq (uQ AR w2 ((uQ HB).2.2.2.2.1.trans (uQ HK2) (by simp)))
  obtain ⟨AE,hAE⟩: ∃AE,AE=arE key es:=⟨_,rfl⟩
  rw[<-hAE]at A1 HEE
  have HAE:=hZq hAE
  clear AR hAE
  gi_wp2_with fail
  refine ⟨trivial,(fun h=>by cases h),?_⟩
  refine (uQ A1).mono ?_
  rintro e w3 ⟨rfl,hk3⟩
  have HK3:=hZq ((uQ HK2).trans hk3 (by simp))
  obtain ⟨b0,b1,b2,b3,k1,hz1⟩:=uQ HB
  have r0:=b0.kp (uQ HK3) (by simp)
  have q0:=r0.cell (i:=0) (v:= .slice sa l.length sc) rfl
  have q4:=r0.cell (i:=1) (v:= .int .i64 wi) rfl
  have q1:=(b1.kp (uQ HK3) (by simp)).cell (i:=0) (v:= .string key) rfl
  have q2:=(b2.kp (uQ HK3) (by simp)).cell (i:=0) (v:= .slice none 0 0) rfl
  have q3:=(b3.kp (uQ HK3) (by simp)).cell (i:=0) (v:= .int .i64 0) rfl
  have f2:=(b2.kp (uQ HK3) (by simp)).froz
  have f3:=(b3.kp (uQ HK3) (by simp)).froz
  rw[<-uQ HLN]at q0
  clear A1 hk3 b0 b1 b2 b3 k1 hz1 r0 HK2
  cases AE with
  |true=>
   have z0:=((uQ HB).1.kp ((uQ HK3).trans (Kp.alloc w3 (.cells #[.slice none 0 0] 31)) (by simp)) (by simp)).cell (i:=0) (v:= .slice sa l.length sc) rfl
   have z1:=((uQ HB).1.kp ((uQ HK3).trans (Kp.alloc w3 (.cells #[.slice none 0 0] 31)) (by simp)) (by simp)).cell (i:=1) (v:= .int .i64 wi) rfl
   rw[<-uQ HLN]at z0
   clear q0 q1 q2 q3 q4 f2 f3
   have MT:=hZq (fun W=>(callsIn_wide (n:=n-1)).2 (q78 sa ln sc wi ea en ec W))
   gi_wp2_with fail
   refine ⟨trivial,(fun h=>by cases h),?_⟩
   refine (uQ MT _).mono ?_
   rintro e w5 ⟨rfl,hw5⟩
   gi_wp2_with fail
   rw[<-hw5]
   have HW5:=hZq hw5
   clear MT hw5 z0 z1
   refine qbL (gf:=36) (lb:=#[.pointer (some ⟨w3.heap.size+1,0,none⟩), .pointer (some ⟨w3.heap.size+1+1,0,none⟩)]) rfl (enters_of Tryz.func36 (by kernel_rfl) rfl) ?_
   intro fn r hr
   have hrs:r.state= .ready:=by rw[hr]
   have hrp:r.pending=none:=by rw[hr]
   have hrq:=hrp
   have hpm:r.params=#[24]:=by rw[hr]
   have htm:=congrArg Loop.tmps hr
   have has:=congrArg Loop.assign hr
   have hbd:=congrArg Loop.body hr
   dsimp only at htm has hbd
   clear hr
   obtain ⟨c,hc⟩: ∃c:FdC,c=⟨w5.heap.size+1,w5.heap.size,r,w.heap.size+1,w.heap.size+1+1,w.heap.size+1+1+1,w3.heap.size,key⟩:=⟨_,rfl⟩
   have hname:q0q key=true:=q3C (uQ HAE).symm
   have hk32:key.size<=32:=by
    unfold q0q at hname
    simp only[Bool.and_eq_true,decide_eq_true_eq]at hname
    omega
   have HY:Hid (∀n0,((w5.alloc (.deferred (some []))).alloc (.loop r)).heap.size<=n0-> ∀(m:Nat) (xs:List Cp) (wy:World) (x:Cp),FdJ c n0 true xs wy->CpAt wy x->x.T.length<=8->(∀l∈x.T,l≠[]/\l.length<=4096)->YieldAt Fence.wide m Tryz.prog (w5.heap.size+1) #[x.v] wy fun e w'=> ∃F go,e= .returned (.bool go)/\Kp F wy w'/\(∀b∈F,Yw wy b/\(b∈[c.L,c.rb,c.eb,c.ob]\/n0<=b))/\FdJ c n0 go (xs++[x]) w'):=hZq (by
    intro n0 hn0 m xs wy x hJ _ _ _
    have hT:FdT c n0 xs wy:=by
     rcases hJ with ⟨_,hT⟩|⟨h,_⟩
     ·exact hT
     ·cases h
    obtain ⟨t1,ht1⟩: ∃t1,t1=(r.tmps.setIfInBounds 24 x.v).setIfInBounds 10 x.v:=⟨_,rfl⟩
    have hL:c.L=w5.heap.size+1:=by rw[hc]
    have hcr:c.r=r:=by rw[hc]
    rw[<-hL]
    have hlo:=hT.lo
    rw[hcr]at hlo
    obtain ⟨Q0,hQ0⟩: ∃Q0:Exit->Act->World->Prop,Q0=fun e _ W'=>W'.heap[c.L]?=some (.loop { r with state:= .busy })/\((e= .normal/\(fun (e:Ending) (w':World)=> ∃F go,e= .returned (.bool go)/\Kp F wy w'/\(∀b∈F,Yw wy b/\(b∈[c.L,c.rb,c.eb,c.ob]\/n0<=b))/\FdJ c n0 go (xs++[x]) w') (.returned (.bool true)) (W'.putObj c.L (.loop { r with state:= .ready,pending:=none })))\/(e= .ret/\(fun (e:Ending) (w':World)=> ∃F go,e= .returned (.bool go)/\Kp F wy w'/\(∀b∈F,Yw wy b/\(b∈[c.L,c.rb,c.eb,c.ob]\/n0<=b))/\FdJ c n0 go (xs++[x]) w') (.returned (.bool false)) (W'.putObj c.L (.loop { r with state:= .done,pending:=some .ret })))):=⟨_,rfl⟩
    have HQ0:=hZq hQ0
    have HQP: ∀c a a' w,Q0 (.panic c) a w->Q0 (.panic c) a' w:=by rw[hQ0];exact fun _ _ _ _ h=>h
    refine q7p hlo hrs (by rw[hpm];rfl) { tmps:=t1,defers:=[] } (Q:=Q0) ?_ ?_ (by rw[hQ0];exact fun _ _ _ h=>h)
    ·intro K hK
     rw[has,hpm,htm]
     rw[ht1,htm]at hK
     unfold Cp.v at hK ⊢
     simp only[List.setIfInBounds_toArray,List.set_cons_zero,List.set_cons_succ]at hK
     clear ht1 htm has hbd MI
     gi_wp2
     exact hK
    ·obtain ⟨V,hV⟩: ∃V,V=wy.putObj c.L (.loop { r with state:= .busy }):=⟨_,rfl⟩
     rw[<-hV,hbd]
     rw[htm]at ht1
     unfold Cp.v at ht1
     simp only[List.setIfInBounds_toArray,List.set_cons_zero,List.set_cons_succ]at ht1
     subst ht1
     clear htm has hbd hlo hrp hQ0
     obtain ⟨v,hob,hrow⟩:=hT.ow
     obtain ⟨oa,oc,rfl,_⟩:=q2g hrow
     have hrs':c.r.state= .ready:=by rw[hcr];exact hrs
     have hrp':c.r.pending=none:=by rw[hcr];exact hrq
     have e4:c.kb=w.heap.size+1:=by rw[hc]
     have e6:c.rb=w.heap.size+1+1:=by rw[hc]
     have e7:c.eb=w.heap.size+1+1+1:=by rw[hc]
     have e9:c.ob=w3.heap.size:=by rw[hc]
     have ek:c.key=key:=by rw[hc]
     have hp:Kp [c.L] wy V:=by rw[hV];exact ⟨rfl,rfl,rfl,by simp,fun k _ hn=>World.putObj_heap_other (by simpa using hn)⟩
     have cb: ∀{b:Nat} {cs:Array Value} {t:TypeId},CBox b cs t wy->CBox b cs t V:=fun h=>by rw[hV];exact h.putObj hT.lo rfl
     have hLV:V.heap[c.L]?=some (.loop { c.r with state:= .busy }):=by rw[hV,hcr];exact World.putObj_heap_same (zB.1 hT.lo).1
     have o9:=cb hob
     have o4:=cb hT.bk
     have o6:=cb hT.br
     have o7:=cb hT.be
     have HSTO:=hZq (fun W (h4:xs.length=4096) (hW:W=((wy.putObj c.L (.loop { c.r with state:= .busy })).setCell ⟨c.rb,0,none⟩ (.slice none 0 0)).setCell ⟨c.eb,0,none⟩ (.int .i64 140))=>hT.stop h4 x hW)
     have HPU0:=hZq (fun W g hk hl hg hlt=>hT.push (W:=W) (x:=x) hk hl (g:=g) hg hlt hob)
     have HYW:Hid (Yw wy c.L/\Yw wy c.rb/\Yw wy c.eb/\Yw wy c.ob):=hZq ⟨Or.inl ⟨_,hT.lo⟩,Or.inr ⟨_,_,hT.br,by simp⟩,Or.inr ⟨_,_,hT.be,by simp⟩,Or.inr ⟨_,_,hob,by simp⟩⟩
     have HLN4:=hZq hT.ln
     rw[ek]at o4 HPU0
     rw[hcr]at HSTO HPU0 hLV
     have HHP:=hZq hp
     have HHL:=hZq hLV
     rw[<-hV]at HSTO
     have x9:=o9.cell (i:=0) (v:= .slice oa xs.length oc) rfl
     have x4:=o4.cell (i:=0) (v:= .string key) rfl
     have x6:=o6.cell (i:=0) (v:= .slice none 0 0) rfl
     have x7:=o7.cell (i:=0) (v:= .int .i64 0) rfl
     have f6:=o6.froz
     have f7:=o7.froz
     have HO4:=hZq o4
     have HO9:=hZq o9
     rw[e9]at x9
     rw[e4]at x4
     rw[e6]at x6 f6
     rw[e7]at x7 f7
     clear hT hob hrow hp cb hLV o9 o4 o6 o7 hV MI
     by_cases h4:xs.length=4096
     ·have h4i:(xs.length:Int)=4096:=by omega
      have HS:=hZq (uQ HSTO _ h4 rfl)
      clear HSTO HPU0 HO4 HO9
      rw[e6,e7]at HS
      gi_wp2
      obtain ⟨s1,s2,s3⟩:=uQ HS
      show Q0 _ _ _
      rw[uQ HQ0]
      refine ⟨s1,Or.inr ⟨rfl,_,false,rfl,s2,fun b hb=>?_,Or.inr ⟨rfl,s3⟩⟩⟩
      obtain ⟨y1,y2,y3,y4⟩:=uQ HYW
      simp only[zH,List.not_mem_nil,or_false]at hb
      rcases hb with rfl|rfl|rfl
      ·exact ⟨y1,Or.inl (by simp)⟩
      ·rw[<-e6];exact ⟨y2,Or.inl (by simp)⟩
      ·rw[<-e7];exact ⟨y3,Or.inl (by simp)⟩
     ·have h4i:((xs.length:Int)=4096)=False:=by simp;omega
      have hlt:xs.length<4096:=by have:=uQ HLN4;omega
      clear HSTO x6 x7 f6 f7
      gi_wp2_with fail
      refine q0l (fun W'=>W'.cell? ⟨w3.heap.size,0,none⟩=some (.slice oa xs.length oc)/\W'.cell? ⟨w.heap.size+1,0,none⟩=some (.string key)) 7 (by kernel_rfl) (by kernel_rfl) (fun ⟨_,_,h⟩=>by
       have h:Q0 _ _ _:=h
       rw[uQ HQ0]at h
       rcases h with ⟨_,⟨h,_⟩|⟨h,_⟩⟩ <;> cases h) ?_
      obtain ⟨V2,hV2⟩: ∃V2,V2=V.drew:=⟨_,rfl⟩
      rw[<-hV2]
      have hS0:V2.cell? ⟨w3.heap.size,0,none⟩=some (.slice oa xs.length oc)/\V2.cell? ⟨w.heap.size+1,0,none⟩=some (.string key):=by rw[hV2];exact ⟨x9,x4⟩
      have kV2:Kp [] V V2:=by rw[hV2];exact Kp.drew _
      have CL:=hZq (q1H key V2 (by omega))
      have HSV:Hid (∀W,Kp [] V2 W->W.cell? ⟨w3.heap.size,0,none⟩=some (.slice oa xs.length oc)/\W.cell? ⟨w.heap.size+1,0,none⟩=some (.string key)):=hZq (fun W hk=>by
       have h9:=((uQ HO9).kp (kV2.trans hk (by simp)) (by simp)).cell (i:=0) (v:= .slice oa xs.length oc) rfl
       have h4:=((uQ HO4).kp (kV2.trans hk (by simp)) (by simp)).cell (i:=0) (v:= .string key) rfl
       rw[e9]at h9
       rw[e4]at h4
       exact ⟨h9,h4⟩)
      have HPU:Hid (∀w6,Below V2.heap.size V2 w6-> ∃g' cap w7,(Builtin.append_ #[31,31] 31 #[.slice oa xs.length oc, .slice (some ⟨w6.heap.size,0,none⟩) 1 1]).run Tryz.prog (w6.alloc (.cells #[.string key, .slice (some ⟨x.g,0,none⟩) x.T.length x.T.length] 36))= .ok (.slice (some ⟨g',0,none⟩) (xs.length+1) cap) w7/\CBox w3.heap.size #[.slice oa xs.length oc] 31 w7/\CBox (w.heap.size+1) #[.string key] 9 w7/\Hid (∀a,Q0 .normal a (w7.setCell ⟨w3.heap.size,0,none⟩ (.slice (some ⟨g',0,none⟩) (xs.length+1) cap)))):=hZq (fun w6 hb=>by
       have ka:=Kp.alloc w6 (.cells #[.string key, .slice (some ⟨x.g,0,none⟩) x.T.length x.T.length] 36)
       have kv:=(kV2.trans (Kp.ofBelow hb) (by simp)).trans ka (by simp)
       obtain ⟨g',cap,w7,hrun,h9,h4,hL7,kp7,yw7,fin⟩:=uQ HPU0 _ w6.heap.size ((uQ HHP).trans kv (by simp)) ((kv.block _ (zB.1 (uQ HHL)).1 (by simp)).trans (uQ HHL)) (CBox.new w6 _ _) hlt
       rw[e9]at h9 hL7 kp7 fin
       rw[e4]at h4
       refine ⟨g',cap,w7,hrun,h9,h4,hZq (fun a=>?_)⟩
       rw[uQ HQ0]
       refine ⟨hL7,Or.inl ⟨rfl,_,true,rfl,kp7.trans (G:=[c.L]) ⟨rfl,rfl,rfl,by simp,fun k _ hn=>World.putObj_heap_other (by simpa using hn)⟩ (by simp),fun b hb=>?_,Or.inl ⟨rfl,fin _ rfl hrs hrq⟩⟩⟩
       obtain ⟨y1,y2,y3,y4⟩:=uQ HYW
       rw[zH,zH]at hb
       rcases hb with rfl|rfl|hb
       ·exact ⟨y1,Or.inl (by simp)⟩
       ·rw[<-e9];exact ⟨y4,Or.inl (by simp)⟩
       ·have:=yw7 b (by simpa using hb)
        exact ⟨this.1,Or.inr this.2⟩)
      clear HPU0 HO4 HO9 HHP HHL x9 x4 kV2 hV2
      show q0a _ _ _ _ _ _ 8 (Array.replicate 8 false) _ _
      refine zzL (i:=0) (v:=?_) rfl (Or.inl ⟨by rfl,?_⟩) hS0 ?_ (hQ:=fun _ _ _ h=>HQP _ _ _ _ h)
      rotate_left
      ·intro w0 s9;(try dsimp only at s9);go_simp;(try with_reducible rfl)
      try simp only[Act.put,zz1,zz2,zz3]
      refine zzL (i:=1) (v:=?_) rfl (Or.inl ⟨by rfl,?_⟩) hS0 ?_ (hQ:=fun _ _ _ h=>HQP _ _ _ _ h)
      rotate_left
      ·intro w0 s9;(try dsimp only at s9);go_simp;(try with_reducible rfl)
      try simp only[Act.put,zz1,zz2,zz3]
      refine zzL (i:=3) (v:=?_) rfl (Or.inl ⟨by rfl,?_⟩) hS0 ?_ (hQ:=fun _ _ _ h=>HQP _ _ _ _ h)
      rotate_left
      ·intro w0 s9;(try dsimp only at s9);go_simp;(try with_reducible rfl)
      try simp only[Act.put,zz1,zz2,zz3]
      refine q01 (i:=2) rfl (by kernel_rfl) (fun K hK=>?_)
      go_simp
      refine (uQ CL).mono ?_
      rintro e w6 ⟨rfl,hb6⟩
      obtain ⟨g',cap,w7,hrun,hb7,hk7,HPP⟩:=uQ HPU w6 hb6
      have hS5:=uQ HSV w6 (Kp.ofBelow hb6)
      have hS6:=uQ HSV _ ((Kp.ofBelow hb6).trans (Kp.alloc w6 (.cells #[.string key, .slice (some ⟨x.g,0,none⟩) x.T.length x.T.length] 36)) (by simp))
      have hS7:w7.cell? ⟨w3.heap.size,0,none⟩=some (.slice oa xs.length oc)/\w7.cell? ⟨w.heap.size+1,0,none⟩=some (.string key):=⟨hb7.cell rfl,hk7.cell rfl⟩
      have f7:=hb7.froz
      clear CL HPU HSV hb6 hb7 hk7
      refine hK _ _ (Or.inr hS5) ?_
      clear hK K
      try simp only[Act.put,zz1,zz2,zz3]
      refine zzL (i:=4) (v:=?_) rfl (Or.inl ⟨by rfl,?_⟩) hS5 ?_ (hQ:=fun _ _ _ h=>HQP _ _ _ _ h)
      rotate_left
      ·intro w0 s9;(try dsimp only at s9);go_simp;(try with_reducible rfl)
      try simp only[Act.put,zz1,zz2,zz3]
      refine q01 (i:=5) rfl (by kernel_rfl) (fun K hK=>?_)
      go_simp
      refine hK _ _ (Or.inr hS6) ?_
      clear hK K
      try simp only[Act.put,zz1,zz2,zz3]
      refine q01 (i:=6) rfl (by kernel_rfl) (fun K hK=>?_)
      refine q11 rfl (.tmp 28) (.tmp 33) 31 rfl rfl rfl hrun ?_
      refine hK _ _ (Or.inr hS7) ?_
      clear hK K
      try simp only[Act.put,zz1,zz2,zz3]
      refine q01 (i:=7) rfl (by kernel_rfl) (fun K hK=>?_)
      go_simp
      refine hK _ _ (Or.inl rfl) ?_
      clear hK K
      try simp only[Act.put,zz1,zz2,zz3]
      refine q0c (by kernel_rfl) ?_ _
      exact uQ HPP _)
   obtain ⟨b0,b1,b2,b3,k1,hz1⟩:=uQ HB
   have hce:mckE ⟨stgs l,wi⟩ es=0:=by rw[<-uQ HCE];exact h0
   have hpc:(pcR ⟨stgs l,wi⟩).2=0:=by
    unfold mckE at hce
    by_cases hh:(pcR ⟨stgs l,wi⟩).2=0
    ·exact hh
    ·rw[if_neg hh]at hce
     exact absurd hce hh
   have hel:es.length<=4096:=by
    unfold mckE at hce
    rw[if_pos hpc]at hce
    by_cases hh:4096<es.length
    ·rw[if_pos hh]at hce
     cases hce
    ·omega
   have hpo:=q16 hpc
   obtain ⟨hN1,hN8,hwb,_⟩:=hpo
   have hN1:1<=(Mt.pm ⟨stgs l,wi⟩ es).N:=hN1
   have hN8:(Mt.pm ⟨stgs l,wi⟩ es).N<=8:=hN8
   have hwb:1<=wi/\wi<=256:=hwb
   obtain ⟨WI,hWI⟩: ∃WI:Nat,wi=(WI:Int):=⟨wi.toNat,by omega⟩
   have hw5:=uQ HW5
   have k5:Kp [] w3 w5:=by rw[hw5];exact ((Kp.alloc _ _).trans (Kp.alloc _ _) (by simp)).trans (Kp.alloc _ _) (by simp)
   have kL:Kp [] w5 ((w5.alloc (.deferred (some []))).alloc (.loop r)):=(Kp.alloc _ _).trans (Kp.alloc _ _) (by simp)
   have kW:Kp [] w ((w5.alloc (.deferred (some []))).alloc (.loop r)):=((k1.trans (uQ HK3) (by simp)).trans k5 (by simp)).trans kL (by simp)
   have hz5:w5.heap.size=w3.heap.size+1+1+1:=by rw[hw5];simp
   have hzW:((w5.alloc (.deferred (some []))).alloc (.loop r)).heap.size=w5.heap.size+1+1:=by simp
   have hz3:=(uQ HK3).size
   have pb:CBox (w3.heap.size+1) #[.slice sa l.length sc, .int .i64 (WI:Int)] 24 ((w5.alloc (.deferred (some []))).alloc (.loop r)):=by
    refine CBox.kp ?_ kL (by simp)
    have:=(CBox.new (w3.alloc (.cells #[.slice none 0 0] 31)) #[.slice sa ln sc, .int .i64 wi] 24).kp (Kp.alloc _ (.cells #[.slice ea en ec] 25)) (by simp)
    rw[<-hw5]at this
    simp only[World.size_alloc]at this
    rw[<-hWI, <-uQ HLN]
    exact this
   have eb:CBox (w3.heap.size+1+1) #[.slice ea es.length ec] 25 ((w5.alloc (.deferred (some []))).alloc (.loop r)):=by
    refine CBox.kp ?_ kL (by simp)
    have:=CBox.new ((w3.alloc (.cells #[.slice none 0 0] 31)).alloc (.cells #[.slice sa ln sc, .int .i64 wi] 24)) #[.slice ea en ec] 25
    rw[<-hw5]at this
    simp only[World.size_alloc]at this
    rw[<-uQ HEN]
    exact this
   have hge:w.heap.size<=c.L/\w.heap.size<=c.rb/\w.heap.size<=c.eb/\w.heap.size<=c.ob/\w.heap.size<=c.D:=by
    rw[hc]
    dsimp only
    omega
   have hlt:c.L<w5.heap.size+1+1/\c.rb<w5.heap.size+1+1/\c.eb<w5.heap.size+1+1/\c.ob<w5.heap.size+1+1:=by
    rw[hc]
    dsimp only
    omega
   have hst0: ∀w0,Kp [] ((w5.alloc (.deferred (some []))).alloc (.loop r)) w0->FdT c w0.heap.size [] w0:=fun w0 h0=>by
    rw[hc]
    exact qb1 b1 b2 b3 hz1 (uQ HK3) hw5 h0
   have hpc':(pcR ⟨stgs l,(WI:Int)⟩).2=0:=by rw[<-hWI];exact hpc
   have hcall:=uQ MI WI hpc' (by omega) (by omega) hel w _ kW (uQ HIN).1 (uQ HIN).2.1 (uQ HIN).2.2 _ _ pb eb [c.L,c.rb,c.eb,c.ob] (fun b hb=>by
    rw[hzW]
    simp only[zH,List.not_mem_nil,or_false]at hb
    rcases hb with rfl|rfl|rfl|rfl <;> omega) (fun b hb=>by
    simp only[zH,List.not_mem_nil,or_false]at hb
    rcases hb with rfl|rfl|rfl|rfl <;> omega)
    (fun n0 go xs w'=>((w5.alloc (.deferred (some []))).alloc (.loop r)).heap.size<=n0/\FdJ c n0 go xs w') (fun n0 go xs w w' F h hk hF=>⟨h.1,h.2.keep hk hF⟩) (fun n0 go xs w h=>h.2.len) (fun w0 h0=>⟨h0.size,Or.inl ⟨rfl,hst0 w0 h0⟩⟩)
    (w5.heap.size+1) (fun n0 hn m xs wy x h1 h2 h3 h4=>by
     obtain ⟨fn,tmps,assign,body,hy,hR⟩:=uQ HY n0 hn m xs wy x h1.2 h2 h3 h4
     refine ⟨fn,tmps,assign,body,hy,hR.mono ?_⟩
     rintro e w' ⟨F,go,a1,a2,a3,a4⟩
     exact ⟨F,go,a1,a2,a3,h1.1,a4⟩)
   refine CallsIn.mono (callsIn_wide.2 hcall) ?_
   rw[<-hWI]
   have HGE:=hZq hge
   have HKW:=hZq kW
   have HN:=hZq (And.intro hN1 (And.intro hN8 hwb))
   have HZW:Hid (w.heap.size<=((w5.alloc (.deferred (some []))).alloc (.loop r)).heap.size):=hZq kW.size
   have hWt:wi.toNat=WI:=by omega
   have HWT:=hZq hWt
   have HEL:=hZq hel
   have HHN:=hZq hname
   have e6:c.rb=w.heap.size+1+1:=by rw[hc]
   have e7:c.eb=w.heap.size+1+1+1:=by rw[hc]
   have e9:c.ob=w3.heap.size:=by rw[hc]
   have eD:c.D=w5.heap.size:=by rw[hc]
   have eL:c.L=w5.heap.size+1:=by rw[hc]
   have ek:c.key=key:=by rw[hc]
   have er:c.r=r:=by rw[hc]
   clear hcall MI HY hst0 hlt pb eb hz3 hz5 hzW kW kL k5 hw5 hWI hN1 hN8 hwb hpc hpc' hel hce b0 b1 b2 b3 k1 hz1 hge htm has hbd hc hrs hrp hrq hpm hWt
   rintro e W' ⟨hv,n0,go,ys,⟨hn0,hJ⟩,hcp,hpr,hkF⟩
   refine ⟨hv,?_⟩
   rcases hJ with ⟨rfl,hT⟩|⟨rfl,hF⟩
   ·have hfn:ys.map (·.T)=Mt.fnd (Mt.pm ⟨stgs l,wi⟩ es) WI:=by
     rcases hpr with ⟨_,h⟩|⟨h,_⟩
     ·exact h
     ·cases h
    have hlo:=hT.lo
    rw[er,eL]at hlo
    refine Or.inl ⟨hlo,?_⟩
    obtain ⟨V,hV⟩: ∃V,V=W'.putObj (w5.heap.size+1) (.loop { r with state:= .exhausted }):=⟨_,rfl⟩
    rw[<-hV]
    rw[<-eL]at hV
    obtain ⟨v,hob,hrow⟩:=hT.ow
    obtain ⟨va,vc,rfl,_⟩:=q2g hrow
    have hmem: ∀x∈ys,x.T∈Mt.fnd (Mt.pm ⟨stgs l,wi⟩ es) WI:=fun x hx=>by
     rw[<-hfn]
     exact List.mem_map_of_mem hx
    have hmay: ∀x∈ys,mayM key (Mt.toZ x.T)=true:=fun x hx=>by
     obtain ⟨n1,n2,n3⟩:=uQ HN
     have hw:=uQ HWT
     exact q7H (by omega) (by omega) n1 n2 (uQ HEL) (uQ HHN) (hmem x hx)
    have hok2: ∀x∈ys,MtOk key (Mt.toZ x.T):=fun x hx=>by
     obtain ⟨m1,m2,m3⟩:=q4D (hmay x hx)
     refine ⟨uQ HKS,by omega,fun p hp=>?_⟩
     have hm:=hmay x hx
     unfold mayM at hm
     simp only[Bool.and_eq_true]at hm
     have:=q2o _ _ _ hm.2 p hp
     omega
    have hrowV:V.ownsRow n0 36 2 (.slice va ys.length vc) ys.length (ys.flatMap (mtE key)):=by
     rw[hV, <-ek]
     exact q03 hrow (q1k _ _ _) (fun b hb hm=>by
      obtain ⟨cs,hcc⟩:=q08 hrow hb
      rw[zD]at hm
      subst hm
      unfold CBox at hcc
      rw[hT.lo]at hcc
      cases hcc)
    have hcpV: ∀x∈ys,CpAt V x:=fun x hx=>by
     rw[hV]
     exact (hcp x hx).kp (q1k _ _ _) (fun b hb hm=>by
      rw[zD]at hm
      subst hm
      obtain ⟨_,_,e,_⟩:=q3p (hcp x hx) hb hT.lo
      cases e)
    have SORT:=hZq ((callsIn_wide (n:=n-1)).2 (qbW hrowV hcpV hmay hok2 (by rw[hfn];exact Mt.fnd_nodup _ _) hT.ln))
    have HMID:=hZq (fun (b:Nat) (cs:Array Value) (t:TypeId) (hb:CBox b cs t W') (ht:t≠36)=>q5M (o:= .loop { r with state:= .exhausted }) hT hV hrow hb ht)
    have x9:=(uQ HMID _ _ _ hob (by decide)).1.cell (i:=0) (v:= .slice va ys.length vc) rfl
    have HOB:=hZq hob
    have HBR:=hZq hT.br
    have HBE:=hZq hT.be
    have HDONE:=hZq (fun (tmps:Array Value) (w8:World) zs h6 h7 hk8 hperm hrow8 hts hE=>qcK (n:=n) (fn:=Tryz.f5) (tmps:=tmps) (zs:=zs) (FE:=FE) (FL:=FL) rfl h6 h7 hT (uQ HKW) hkF (uQ HGE) (Nat.le_trans (uQ HZW) hn0) hV (w8:=w8) hk8 hob hrow hcp hperm hrow8 hts hE)
    have HFIN:Hid (FE=0/\ ∀zs:List Cp,zs.Perm ys->Srt (zs.map (·.T))->zs.map (·.T)=FL):=hZq (by
     have hl:(fdS (Mt.pm ⟨stgs l,wi⟩ es) wi.toNat).length=ys.length:=by
      rw[q7F,uQ HWT, <-hfn,zI]
     have hln:=hT.ln
     have hE:FE=0:=by
      rw[uQ HEE,if_pos trivial,if_neg (by rw[hl];omega)]
     refine ⟨hE,fun zs hp hs=>?_⟩
     rw[uQ HFL]
     unfold fiL
     rw[<-uQ HFE,if_pos hE]
     dsimp only
     rw[uQ HWT]
     refine q4O hs (q4y _ _) ?_
     exact (hp.map _).trans (by rw[hfn];exact (q1X _ _).symm))
    rw[e9]at x9
    clear hlo hT hrow hob hmem hmay hok2 hrowV hcpV hcp hpr hkF hfn hV hn0 hv
    obtain ⟨yn,hyn⟩: ∃yn,yn=ys.length:=⟨_,rfl⟩
    rw[<-hyn]at SORT HMID x9 HOB HDONE
    clear hyn
    gi_wp2_with fail
    refine ⟨trivial,(fun h=>by cases h),?_⟩
    refine (uQ SORT).mono ?_
    rintro e w8 ⟨rfl,hk8,zs,hperm,hsrt,hrow8⟩
    have q9:=((uQ HMID _ _ _ (uQ HOB) (by decide)).2 w8 hk8).cell (i:=0) (v:= .slice va yn vc) rfl
    have c6:=(uQ HMID _ _ _ (uQ HBR) (by decide)).2 w8 hk8
    have c7:=(uQ HMID _ _ _ (uQ HBE) (by decide)).2 w8 hk8
    have q6:=c6.cell (i:=0) (v:= .slice none 0 0) rfl
    have q7:=c7.cell (i:=0) (v:= .int .i64 0) rfl
    have f6:=c6.froz
    have f7:=c7.froz
    rw[e9]at q9
    rw[e6]at q6 f6
    rw[e7]at q7 f7
    have HEND:=hZq (fun tmps h6 h7=>uQ HDONE tmps w8 zs h6 h7 hk8 hperm (by rw[ek];exact hrow8) ((uQ HFIN).2 zs hperm hsrt) (uQ HFIN).1)
    rw[e6,e7,eD,ek]at HEND
    clear SORT HMID hk8 hperm hsrt hrow8 c6 c7 HDONE x9
    gi_wp2
    exact uQ HEND _ rfl rfl
   ·have hlo:=hF.lo
    rw[er,eL]at hlo
    refine Or.inr ⟨hlo,?_⟩
    have HFIN:Hid (FL=[]/\FE=140):=hZq (by
     obtain ⟨z,hz⟩: ∃z,Mt.fnd (Mt.pm ⟨stgs l,wi⟩ es) WI=ys.map (·.T)++z:=by
      rcases hpr with ⟨h,_⟩|⟨_,h⟩
      ·cases h
      ·exact h
     have hl:4097<=(fdS (Mt.pm ⟨stgs l,wi⟩ es) wi.toNat).length:=by
      rw[q7F,uQ HWT,hz,zF,zI,hF.ln]
      omega
     have hE:FE=140:=by rw[uQ HEE,if_pos trivial,if_pos (by omega)]
     refine ⟨?_,hE⟩
     rw[uQ HFL]
     unfold fiL
     rw[<-uQ HFE,hE]
     rfl)
    have HEND:=hZq (fun tmps h6 h7=>qcL (n:=n) (fn:=Tryz.f5) (tmps:=tmps) (FE:=FE) (FL:=FL) (o:= .loop { r with state:= .exhausted,pending:=some .ret }) rfl h6 h7 hF (uQ HKW) hkF (uQ HGE) (uQ HFIN).1 (uQ HFIN).2)
    rw[e6,e7,eD,ek,eL]at HEND
    clear hlo hF hcp hpr hkF hn0 hv
    refine wpIn_ret ?_
    exact uQ HEND _ rfl rfl
  |false=>
   have HE2:Hid (FE=20):=hZq (by rw[uQ HEE];rfl)
   have HL2:Hid (FL=[]):=hZq (by rw[uQ HFL];unfold fiL;rw[<-uQ HFE,uQ HE2];rfl)
   obtain ⟨b0,b1,b2,b3,k1,hz1⟩:=uQ HB
   have HC2:=hZq (b2.kp (uQ HK3) (by simp))
   have HC3:=hZq (b3.kp (uQ HK3) (by simp))
   have HKW:=hZq (k1.trans (uQ HK3) (by simp))
   have HZ:=hZq hz1
   clear MI HEE b0 b1 b2 b3 k1 hz1 HB HK3
   gi_wp2
   exact q5L rfl rfl rfl (uQ HC2) (uQ HC3) (uQ HKW) (by omega) (by omega) (uQ HE2) (uQ HL2)
 ·have HE2:Hid (FE=CE):=hZq (by
   rw[uQ HFE]
   unfold fiE
   rw[<-uQ HCE,if_neg h0])
  have HL2:Hid (FL=[]):=hZq (by rw[uQ HFL];unfold fiL;rw[<-uQ HFE,uQ HE2,if_neg h0])
  obtain ⟨b0,b1,b2,b3,k1,hz1⟩:=uQ HB
  have HC2:=hZq (b2.kp (uQ HK2) (by simp))
  have HC3:=hZq (b3.kp (uQ HK2) (by simp))
  have HKW:=hZq (k1.trans (uQ HK2) (by simp))
  clear MI AR b0 b1 b2 b3 k1 hz1 HB HK2
  gi_wp2
  exact q5L rfl rfl rfl (uQ HC2) (uQ HC3) (uQ HKW) (by omega) (by omega) (uQ HE2) (uQ HL2)
theorem q5P (sa:Option Addr)(sc:Nat)(l:List SR)(wi:Int)(ea:Option Addr)(ec:Nat)(es:List Ev)(key:ByteArray)(w:World)(hst:StsAt w sa l)(hev:EvsAt w ea es)(htb:TbE w)(hok: ∀r∈l,r.s.ok)(hfit: ∀r∈l, ∀q∈r.s.cd,q.fit)(hsc:l.length<=sc)(hl:l.length<=9223372036854775807)(hes:es.length<=9223372036854775807)(hsz: ∀e∈es,evSz e)(hks:key.size<=9223372036854775807):
  Calls Tryz.prog 5 #[.agg #[.slice sa l.length sc, .int .i64 wi], .string key, .slice ea es.length ec] w fun e w'=> ∃v zs,e= .returned (.tuple #[v, .int .i64 (fiE ⟨stgs l,wi⟩ key es)])/\FdP w key (fiL ⟨stgs l,wi⟩ key es) v zs w':=callsIn_wide.1 (qcP 0 sa sc l wi ea ec es key w hst hev htb hok hfit hsc hl hes hsz hks)
end Go.Proofs.YtfgkikeeadlcfaaGreatDoor
namespace Go.Proofs.YtfgkikeeadlcfaaGreatDoor
open Go.RowKit Go.Shelf
theorem qcO {p:Ptn}{k:ByteArray}{es:List Ev}(h:fiE p k es≠0):fiL p k es=[]:=by unfold fiL;rw[if_neg h]
theorem qe9 {p:Ptn}{k:ByteArray}{es:List Ev}:(fiL p k es).length<=4096:=by
 unfold fiL
 split
 ·rename_i h
  unfold fiE at h
  split at h
  ·split at h
   ·split at h
    ·cases h
    ·omega
   ·cases h
  ·rename_i h0
   exact absurd h h0
 ·simp
theorem qcN {p:Ptn}{k:ByteArray}{es:List Ev}{T:List (List Nat)}(h:T∈fiL p k es):T≠[]/\(∀l∈T,l≠[])/\MtOk k (Mt.toZ T)/\mayM k (Mt.toZ T)=true:=by
 unfold fiL at h
 split at h
 rotate_left
 ·cases h
 rename_i h0
 have hck:mckE p es=0:=by
  unfold fiE at h0
  by_cases h1:mckE p es=0
  ·exact h1
  ·rw[if_neg h1]at h0
   exact absurd h0 h1
 have har:arE k es=true:=by
  unfold fiE at h0
  rw[if_pos hck]at h0
  by_cases h1:arE k es=true
  ·exact h1
  ·rw[if_neg h1]at h0
   cases h0
 have hpc:(pcR p).2=0:=by
  unfold mckE at hck
  by_cases h1:(pcR p).2=0
  ·exact h1
  ·rw[if_neg h1]at hck
   exact absurd hck h1
 obtain ⟨hN,hN8,hwb,_⟩:=q16 hpc
 have hel:es.length<=4096:=by
  unfold mckE at hck
  rw[if_pos hpc]at hck
  by_cases hh:4096<es.length
  ·rw[if_pos hh]at hck
   cases hck
  ·omega
 have hm:=(q1X _ _).mem_iff.1 h
 obtain ⟨hr,hl,_⟩:=(Mt.fnd_iff (by omega) hN T).1 hm
 have hmay:=q7H (by omega) (by omega) hN hN8 hel (q3C har) hm
 obtain ⟨m1,m2,m3⟩:=q4D hmay
 have hk:=q3C har
 refine ⟨q9S hN hl,hr.full,⟨?_,by omega,fun q hq=>?_⟩,hmay⟩
 ·unfold q0q at hk
  simp only[Bool.and_eq_true,decide_eq_true_eq]at hk
  omega
 ·unfold mayM at hmay
  simp only[Bool.and_eq_true]at hmay
  have:=q2o _ _ _ hmay.2 q hq
  omega
def asB (l:List SR)(n:Nat)(Z:List (List Int)):Bool:=decide (1<=Z.length/\Z.length<=l.length) && Mt.asgZ (fun i=>mnAt (stgs l) i) n 0 (-1) Z
theorem qff {A:Bool}(h:true= !A):A=false:=by cases A with|false=>rfl|true=>cases h
theorem qfe {A:Bool}(h:false= !A):A=true:=by cases A with|true=>rfl|false=>cases h
theorem qaE (n:Nat)(b:Int):Mt.asgP n b []=true:=rfl
theorem q5t {n:Nat}{b q:Int}{r:List Int}(h:q<=b\/(n:Int)<=q):Mt.asgP n b (q::r)=false:=by
 rw[Mt.asgP]
 rcases h with h|h
 ·rw[zK (by omega)];rfl
 ·rw[decide_eq_false (p:=q<(n:Int)) (by omega),Bool.false_and,Bool.and_false]
theorem qcx {n:Nat}{b q:Int}{r:List Int}(h1: ¬ q<=b)(h2: ¬ (n:Int)<=q):Mt.asgP n b (q::r)=Mt.asgP n q r:=by
 rw[Mt.asgP,decide_eq_true (by omega),decide_eq_true (by omega)]
 rfl
theorem qdl (q b:Int)(r:List Int):(q::r).getLastD b=r.getLastD q:=by
 cases r with
 |nil=>rfl
 |cons x r=>rfl
theorem q1l {w w':World}{ad:Option Addr}{Z:List (List Int)}(h:StagesAt w ad Z)(hk:Kp [] w w'):StagesAt w' ad Z:=h.below (B:=w.heap.size) (hk.below (zM _) (by simp)) (zM _)
theorem q5Y (sa:Option Addr)(sc:Nat)(l:List SR)(wi:Int)(n:Nat)(za:Option Addr)(zc:Nat)(Z:List (List Int))(w:World)(hst:StsAt w sa l)(hz:StagesAt w za Z)(_hl:l.length<=9223372036854775807)(_hsc:l.length<=sc)(hzl:Z.length<=9223372036854775807)(hZ: ∀x∈Z,x.length<=9223372036854775807/\ ∀q∈x, -9223372036854775808<=q/\q<=9223372036854775807)(_hn:n<=9223372036854775807):
  Calls Tryz.prog 18 #[.agg #[.slice sa l.length sc, .int .i64 wi], .int .i64 (n:Int), .slice za Z.length zc] w fun e w'=>e= .returned (.bool (asB l n Z))/\Kp [] w w':=by
 obtain ⟨W1,hW1⟩: ∃W1,W1=w.alloc (.cells #[.slice sa l.length sc, .int .i64 wi] 24):=⟨_,rfl⟩
 have k1:Kp [] w W1:=by rw[hW1];exact Kp.alloc _ _
 have b1:CBox w.heap.size #[.slice sa l.length sc, .int .i64 wi] 24 W1:=by rw[hW1];exact CBox.new _ _ _
 have p0:=b1.cell (i:=0) (v:= .slice sa l.length sc) rfl
 have HST:=hZq (hst.kp k1)
 have HZT:=hZq (q1l hz k1)
 have HK1:=hZq k1
 have HZ:=hZq hZ
 obtain ⟨R,hR⟩: ∃R,R=asB l n Z:=⟨_,rfl⟩
 rw[<-hR]
 have HR:Hid (R=(decide (1<=Z.length/\Z.length<=l.length) && Mt.asgZ (fun i=>mnAt (stgs l) i) n 0 (-1) Z)):=hZq hR
 have HMN:Hid (∀(i:Nat),i<l.length-> ∃sb so,sa=some ⟨sb,so,none⟩/\W1.cell? ⟨sb,so+i * 4+2,none⟩=some (.bool (mnAt (stgs l) i))):=hZq (fun i hi=>by
  obtain ⟨sb,so,e,_,s0,s1,s2,_⟩:=(hst.kp k1).at i hi
  have:mnAt (stgs l) i=l[i].s.mn:=by
   unfold mnAt
   rw[zE (by rw[q02];exact hi),q0L hi]
  rw[this]
  exact ⟨sb,so,e,s2⟩)
 have HZC:Hid (∀i (hi:i<Z.length), ∃zb zo a c,za=some ⟨zb,zo,none⟩/\W1.cell? ⟨zb,zo+i,none⟩=some (.slice a (Z[i]).length c)/\IntsAt W1 a Z[i]):=hZq (fun i hi=>by
  obtain ⟨zb,zo,e,_,hc⟩:=(q1l hz k1) (fun e=>by rw[e]at hi;cases hi)
  obtain ⟨a,c,h1,h2⟩:=hc i hi
  exact ⟨zb,zo,a,c,e,h1,h2⟩)
 clear hst hz k1 b1 hR hZ HST HZT
 obtain ⟨ln,hln⟩: ∃ln,ln=l.length:=⟨_,rfl⟩
 rw[<-hln]at p0 HR HMN _hl _hsc hW1 ⊢
 clear hln
 generalize mnAt (stgs l)=many at *
 by_cases hz0:Z.length=0
 ·have HF:Hid (R=false):=hZq (by rw[uQ HR,zK (by omega)];rfl)
  have hz0i:(Z.length:Int)<1:=by omega
  clear HR HMN HZC HZ
  generalize Z.length=zn at *
  clear hz0
  go_enter Tryz.func18,Tryz.ntmps18
  go_upto_region 1 with fail
  rw[<-hW1]
  clear hW1
  go_wp2
  go_ret
  exact ⟨by rw[uQ HF] <;> rfl,uQ HK1⟩
 have hz0i: ¬ (Z.length:Int)<1:=by omega
 by_cases hz2:ln<Z.length
 ·have HF:Hid (R=false):=hZq (by rw[uQ HR,zK (by omega)];rfl)
  have hz2i:(ln:Int)<(Z.length:Int):=by omega
  clear HR HMN HZC HZ
  generalize Z.length=zn at *
  clear hz2
  go_enter Tryz.func18,Tryz.ntmps18
  go_upto_region 1 with fail
  rw[<-hW1]
  clear hW1
  go_wp2
  go_ret
  exact ⟨by rw[uQ HF] <;> rfl,uQ HK1⟩
 have hz2i: ¬ (ln:Int)<(Z.length:Int):=by omega
 have HR2:Hid (R=Mt.asgZ many n 0 (-1) (Z.drop 0)):=hZq (by rw[uQ HR,decide_eq_true (by omega),List.drop_zero];rfl)
 clear HR
 obtain ⟨zn,hzn⟩: ∃zn,zn=Z.length:=⟨_,rfl⟩
 have HZN:=hZq hzn
 rw[<-hzn]at hz0i hz2i hzl hz0 hz2 ⊢
 clear hzn
 go_enter Tryz.func18,Tryz.ntmps18
 go_upto_region 1 with fail
 rw[<-hW1]
 clear hW1
 go_wp2_with fail
 go_loopw [7,25] (fun bv iv wr=> ∃(i:Nat) (b:Int),i<=zn/\iv= .int .i64 (i:Int)/\bv= .int .i64 b/\wr=W1/\Hid (R=Mt.asgZ many n i b (Z.drop i))) (fun _ iv _=>zn-(intOf iv).toNat)
 case atStart=>exact ⟨0, -1,Nat.zero_le _,rfl,rfl,rfl,HR2⟩
 case round=>
  clear HR2
  obtain ⟨i,b,hi,rfl,rfl,hwr,HQ⟩:=hrel
  obtain rfl:=hwr.symm
  by_cases hlt:i<zn
  ·have hlti:(i:Int)<(zn:Int):=by omega
   have hiZ:i<Z.length:=by rw[<-uQ HZN];exact hlt
   obtain ⟨zb,zo,a,c,rfl,c0,hints⟩:=uQ HZC i hiZ
   have hx:=uQ HZ Z[i] (zJ hiZ)
   have HQ2:Hid (R=((!(Z[i]).isEmpty && (decide ((Z[i]).length<=1)||many i)) && (Mt.asgP n b Z[i] && Mt.asgZ many n (i+1) ((Z[i]).getLastD b) (Z.drop (i+1))))):=hZq (by
    rw[uQ HQ,List.drop_eq_getElem_cons hiZ]
    rfl)
   have HXQ:=hZq hx.2
   have hxl:=hx.1
   have HIN:=hZq hints
   clear HQ hx hints
   generalize Z[i]=x at *
   obtain ⟨xn,hxn⟩: ∃xn,xn=x.length:=⟨_,rfl⟩
   have HXN:=hZq hxn
   rw[<-hxn]at c0 hxl
   clear hxn
   go_upto_region 7 with fail
   go_cut [46] (fun dv wc=>wc=W1/\ ∃D:Bool,dv= .bool D/\Hid (D= !(!x.isEmpty && (decide (x.length<=1)||many i))))
   case first=>
    by_cases hx0:xn=0
    ·subst hx0
     have hxe:x=[]:=List.eq_nil_of_length_eq_zero (uQ HXN).symm
     clear HMN HQ2 HIN HZC
     go_wp2
     go_meet
     exact ⟨rfl,true,rfl,hZq (by rw[hxe];rfl)⟩
    ·have hx0i: ¬ (xn:Int)=0:=by omega
     have hx0b:((xn:Int)==0)=false:=by simpa using hx0i
     have hxe:x.isEmpty=false:=by
      cases x with
      |nil=>exact absurd (uQ HXN) hx0
      |cons _ _=>rfl
     by_cases hx1:1<xn
     ·have hx1i:(1:Int)<(xn:Int):=by omega
      obtain ⟨sb,so,rfl,m0⟩:=uQ HMN i (by omega)
      have hil:(i:Int)<(ln:Int):=by omega
      have hEQ:(!(!x.isEmpty && (decide (x.length<=1)||many i)))= !(many i):=by rw[hxe,zK (by rw[<-uQ HXN];omega)];cases many i <;> rfl
      have HEQ:=hZq hEQ
      clear HMN HQ2 HIN HZC hEQ
      cases hm:many i with
      |false=>
       rw[hm]at m0
       go_wp2
       go_meet
       exact ⟨rfl,true,rfl,hZq (by rw[uQ HEQ,hm] <;> rfl)⟩
      |true=>
       rw[hm]at m0
       go_wp2
       go_meet
       exact ⟨rfl,false,rfl,hZq (by rw[uQ HEQ,hm] <;> rfl)⟩
     ·have hx1i: ¬ (1:Int)<(xn:Int):=by omega
      have hEQ:(!(!x.isEmpty && (decide (x.length<=1)||many i)))=false:=by rw[hxe,decide_eq_true (by rw[<-uQ HXN];omega)];rfl
      have HEQ:=hZq hEQ
      clear HMN HQ2 HIN HZC hEQ
      go_wp2
      go_meet
      exact ⟨rfl,false,rfl,hZq (by rw[uQ HEQ])⟩
   case rest=>
    obtain ⟨hwc,D,rfl,HD⟩:=hcut
    obtain rfl:=hwc.symm
    cases D with
    |true=>
     have HF:Hid (R=false):=hZq (by
      rw[uQ HQ2]
      rw[qff (uQ HD)]
      rfl)
     clear HMN HQ2 HIN HZC HD
     go_wp2
     go_ret
     exact ⟨by rw[uQ HF] <;> rfl,uQ HK1⟩
    |false=>
     have HQ3:Hid (R=(Mt.asgP n b (x.drop 0) && Mt.asgZ many n (i+1) ((x.drop 0).getLastD b) (Z.drop (i+1)))):=hZq (by
      rw[uQ HQ2,qfe (uQ HD),Bool.true_and,List.drop_zero])
     clear HQ2 HD
     go_wp2_with fail
     go_loopw [7,49] (fun bv kv wq=> ∃(k:Nat) (b':Int),k<=xn/\kv= .int .i64 (k:Int)/\bv= .int .i64 b'/\wq=W1/\Hid (R=(Mt.asgP n b' (x.drop k) && Mt.asgZ many n (i+1) ((x.drop k).getLastD b') (Z.drop (i+1))))) (fun _ kv _=>xn-(intOf kv).toNat)
     case atStart=>exact ⟨0,b,Nat.zero_le _,rfl,rfl,rfl,HQ3⟩
     case round=>
      clear HQ3
      obtain ⟨k,b',hk,rfl,rfl,hwq,HQ4⟩:=hrel
      obtain rfl:=hwq.symm
      by_cases hkl:k<xn
      ·have hkli:(k:Int)<(xn:Int):=by omega
       have hkx:k<x.length:=by rw[<-uQ HXN];exact hkl
       obtain ⟨ib,io,rfl,_,hc⟩:=(uQ HIN) (fun e=>by rw[e]at hkx;cases hkx)
       have c1:=hc k hkx
       have hq:=uQ HXQ x[k] (zJ hkx)
       have HQ5:Hid (R=(Mt.asgP n b' (x[k]::x.drop (k+1)) && Mt.asgZ many n (i+1) ((x[k]::x.drop (k+1)).getLastD b') (Z.drop (i+1)))):=hZq (by rw[<-List.drop_eq_getElem_cons hkx];exact uQ HQ4)
       clear HQ4 hc
       generalize x[k]=q at *
       by_cases h1:q<=b'
       ·have HF:Hid (R=false):=hZq (by rw[uQ HQ5,q5t (Or.inl h1)];rfl)
        clear HMN HQ5 HIN HZC HXQ
        go_wp2
        go_ret
        exact ⟨by rw[uQ HF] <;> rfl,uQ HK1⟩
       ·by_cases h2:(n:Int)<=q
        ·have HF:Hid (R=false):=hZq (by rw[uQ HQ5,q5t (Or.inr h2)];rfl)
         clear HMN HQ5 HIN HZC HXQ
         go_wp2
         go_ret
         exact ⟨by rw[uQ HF] <;> rfl,uQ HK1⟩
        ·have HN:=hZq (show R=(Mt.asgP n q (x.drop (k+1)) && Mt.asgZ many n (i+1) ((x.drop (k+1)).getLastD q) (Z.drop (i+1))) by rw[uQ HQ5,qcx h1 h2,qdl])
         clear HMN HQ5 HIN HZC HXQ
         go_wp2
         go_roundw
         case rel=>exact ⟨k+1,q,by omega,by go_num,rfl,by first|trivial|rfl,HN⟩
         case measure=>simp[intOf];omega
      ·obtain rfl:k=xn:=by omega
       have hkli: ¬ (k:Int)<(k:Int):=by omega
       have HN:=hZq (show R=Mt.asgZ many n (i+1) b' (Z.drop (i+1)) by
        have:=uQ HQ4
        rw[List.drop_of_length_le (by rw[uQ HXN];exact zM _),qaE,Bool.true_and]at this
        exact this)
       clear HMN HQ4 HIN HZC HXQ
       go_wp2
       go_roundw
       case rel=>exact ⟨i+1,b',by omega,by go_num,rfl,by first|trivial|rfl,HN⟩
       case measure=>simp[intOf];omega
  ·obtain rfl:i=zn:=by omega
   have hlti: ¬ (i:Int)<(i:Int):=by omega
   have HF:Hid (R=true):=hZq (by rw[uQ HQ,List.drop_of_length_le (by rw[uQ HZN];exact zM _)];rfl)
   clear HMN HQ HZC HZ
   go_wp2
   go_ret
   exact ⟨by rw[uQ HF] <;> rfl,uQ HK1⟩
def mlB (P:Mt.Pm)(T:List (List Nat))(t b q:Nat):Bool:=decide (P.how t=3)||(if P.how t=2 then (List.range' b (q-b)).all (fun r=> !P.H t (Mt.las T t) r) else decide (q=b))
theorem qds (P:Mt.Pm)(T:List (List Nat))(t p q:Nat):mlB P T t (p+1) q=Mt.btw P T t p q:=rfl
theorem q9Q (P:Mt.Pm)(T:List (List Nat))(t q:Nat):mlB P T t q q=true:=by
 unfold mlB
 rw[Nat.sub_self,decide_eq_true (rfl:q=q)]
 split <;> simp
theorem qdW {f:Nat->Bool}{i q:Nat}(h:i<q):(List.range' i (q-i)).all f=(f i && (List.range' (i+1) (q-(i+1))).all f):=by
 rw[show q-i=(q-(i+1))+1 by omega,List.range'_succ,List.all_cons]
theorem q8E (k:HK)(hI:HkI k)(w:World)(T:List (List Nat))(pv lv:Value)(vs:List Value)(h:HkS k w T (hkL k T) pv lv vs)(t b q:Nat)(ht:t<k.l.length)(htT:t<=T.length)(hq:q<k.es.length)(hb:b<=q):
  Calls Tryz.prog 43 #[.pointer (some ⟨k.gt,0,none⟩), .int .i64 (t:Int), .int .i64 ((b:Int)-1), .int .i64 (q:Int)] w fun e w'=>e= .returned (.bool (mlB k.P T t b q))/\Kp [] w w':=by
 have TH:=hZq (fun (W:World) (i:Nat) (hk:Kp [] w W) (hi:i<q)=>q1P k hI W T pv lv vs (h.al hk) t i ht htT (by omega))
 obtain ⟨sb,so,hsa, -, -,s1, -⟩:=(hI.st.kp (h.kb hI)).at t ht
 have b0:w.cell? ⟨k.gt,0,none⟩=some (.slice (some ⟨sb,so,none⟩) k.l.length k.sc):=by rw[<-hsa];exact h.box.cell rfl
 have hhw:k.P.how t=k.l[t].s.hw:=by
  show hwAt (stgs k.l) t=_
  unfold hwAt
  rw[zE (by rw[q02];exact ht),q0L ht]
 have hti:(t:Int)<(k.l.length:Int):=by omega
 have hl8:=hI.l8
 have hel:=hI.el
 have hbs:(-9223372036854775808:Int)<=(b:Int)-1/\(b:Int)-1<=4096:=by omega
 obtain ⟨R,hR⟩: ∃R,R=mlB k.P T t b q:=⟨_,rfl⟩
 rw[<-hR]
 have HR:Hid (R=(decide (k.l[t].s.hw=3)||(if k.l[t].s.hw=2 then (List.range' b (q-b)).all (fun r=> !k.P.H t (Mt.las T t) r) else decide (q=b)))):=hZq (by rw[hR];unfold mlB;rw[hhw])
 have hq4:q<=4096:=by omega
 clear hI h hhw hR hsa hel hq htT
 generalize k.l[t].s.hw=hw at *
 generalize k.l.length=n at *
 generalize k.P.H t (Mt.las T t)=H at *
 by_cases h3:hw=3
 ·have HF:Hid (R=true):=hZq (by rw[uQ HR,decide_eq_true h3];rfl)
  clear TH HR
  subst h3
  go_enter Tryz.func43,Tryz.ntmps43
  go_wp2
  go_ret
  exact ⟨by rw[uQ HF] <;> rfl,Kp.refl _ _⟩
 ·by_cases h2:hw=2
  ·have HF:Hid (R=(List.range' b (q-b)).all (fun r=> !H r)):=hZq (by rw[uQ HR,zK h3,if_pos h2];rfl)
   clear HR
   subst h2
   go_enter Tryz.func43,Tryz.ntmps43
   go_wp2_with fail
   go_loopw [9] (fun iv wr=> ∃(i:Nat),b<=i/\i<=q/\iv= .int .i64 (i:Int)/\Hid (Kp [] w wr/\R=(List.range' i (q-i)).all (fun r=> !H r))) (fun iv _=>q-(intOf iv).toNat)
   case atStart=>exact ⟨b,zM _,hb,rfl,hZq ⟨Kp.refl _ _,uQ HF⟩⟩
   case round=>
    clear HF
    obtain ⟨i,hbi,hi,rfl,HQ⟩:=hrel
    by_cases hlt:i<q
    ·have hlti:(i:Int)<(q:Int):=by omega
     have HC:=hZq ((uQ TH) wr i (uQ HQ).1 hlt)
     have HK:=hZq (uQ HQ).1
     have HQ2:Hid (R=(!H i && (List.range' (i+1) (q-(i+1))).all (fun r=> !H r))):=hZq (by rw[(uQ HQ).2,qdW hlt])
     clear TH HQ
     generalize H i=Hi at *
     go_wp2_with fail
     refine (uQ HC).mono ?_
     rintro e w2 ⟨rfl,hk2⟩
     have hk3:Kp [] w w2:=(uQ HK).trans hk2 (by simp)
     clear HC HK hk2
     have HK3:=hZq hk3
     clear hk3
     cases Hi with
     |true=>
      have HF:Hid (R=false):=hZq (by rw[uQ HQ2] <;> rfl)
      clear HQ2
      go_wp2
      go_ret
      exact ⟨by rw[uQ HF] <;> rfl,uQ HK3⟩
     |false=>
      have HN:Hid (R=(List.range' (i+1) (q-(i+1))).all (fun r=> !H r)):=hZq (by rw[uQ HQ2] <;> rfl)
      clear HQ2
      go_wp2
      go_roundw
      case rel=>exact ⟨i+1,by omega,by omega,by go_num,hZq ⟨uQ HK3,uQ HN⟩⟩
      case measure=>simp[intOf];omega
    ·obtain rfl:i=q:=by omega
     have hlti: ¬ (i:Int)<(i:Int):=by omega
     have HF:Hid (R=true):=hZq (by rw[(uQ HQ).2,Nat.sub_self] <;> rfl)
     have HK:=hZq (uQ HQ).1
     clear TH HQ
     go_wp2
     go_ret
     exact ⟨by rw[uQ HF] <;> rfl,uQ HK⟩
  ·have HF:Hid (R=decide (q=b)):=hZq (by rw[uQ HR,zK h3,if_neg h2];rfl)
   clear TH HR
   have e3:(hw==3)=false:=by simpa using h3
   have e2:(hw==2)=false:=by simpa using h2
   go_enter Tryz.func43,Tryz.ntmps43
   go_wp2
   go_ret
   refine ⟨?_,Kp.refl _ _⟩
   rw[uQ HF,show decide (q=b)=((q:Int)==(b:Int)) by rw[Bool.eq_iff_iff];simp only[decide_eq_true_eq,beq_iff_eq];omega] <;> rfl
def lsd (b:Nat):List Nat->Nat
 |[]=>b
 |q::r=>lsd (q+1) r
def rowB (P:Mt.Pm)(A:List (List Nat)):Nat->List Nat->Bool
 |_,[]=>true
 |b,q::r=>(mlB P A A.length b q && P.H A.length (Mt.las A A.length) q) && rowB P A (q+1) r
def allB (P:Mt.Pm):List (List Nat)->Nat->List (List Nat)->Bool
 |_,_,[]=>true
 |A,b,x::r=>rowB P A b x && allB P (A++[x]) (lsd b x) r
def rgB (P:Mt.Pm)(wi:Int)(T:List (List Nat)):Bool:=decide ((Mt.endT T:Int)-(Mt.fstT T:Int)<wi) && allB P [] (Mt.fstT T) T
def Up (n b:Nat)(L:List Nat):Prop:=L.Pairwise (· < ·)/\ ∀q∈L,b<=q/\q<n
theorem Up.next {n b q:Nat}{L:List Nat}(h:Up n b (q::L)):b<=q/\q<n/\Up n (q+1) L:=by
 obtain ⟨h1,h2⟩:=h
 rw[List.pairwise_cons]at h1
 have:=h2 q (by simp)
 exact ⟨this.1,this.2,h1.2,fun y hy=>⟨h1.1 y hy,(h2 y (by simp[hy])).2⟩⟩
theorem Up.len {n b:Nat}{L:List Nat}(h:Up n b L)(hb:b<=n):b+L.length<=n:=by
 induction L generalizing b with
 |nil=>exact hb
 |cons q L ih=>
  obtain ⟨h1,h2,h3⟩:=h.next
  have:=ih h3 (by omega)
  rw[List.length_cons]
  omega
def uA (A:List (List Nat))(m:List Nat):List (List Nat):=if m=[] then A else A++[m]
theorem q8d (A:List (List Nat)){m:List Nat}(h:m≠[]):uA A m=A++[m]:=if_neg h
theorem q6M (A:List (List Nat))(m:List Nat):A.length=(uA A m).length\/A.length+1=(uA A m).length:=by
 unfold uA
 split
 ·exact Or.inl rfl
 ·exact Or.inr (by simp)
theorem qav (A:List (List Nat))(m:List Nat):Mt.las (uA A m) A.length=Mt.las A A.length:=by
 unfold uA
 split
 ·rfl
 ·exact Mt.las_app (zM _)
theorem qfr (P:Mt.Pm)(A:List (List Nat))(m:List Nat)(b q:Nat):mlB P (uA A m) A.length b q=mlB P A A.length b q:=by
 unfold mlB
 rw[qav]
theorem qeV (A:List (List Nat))(m:List Nat)(q:Nat):Mt.ext (uA A m) A.length q=uA A (m++[q]):=by
 rw[q8d A (m:=m++[q]) (by simp)]
 unfold uA
 split
 ·rename_i h
  subst h
  exact q7C A q
 ·exact q7D A m q
theorem qdR {A:List (List Nat)}{m:List Nat}{c:Nat}(hA: ∀l∈A,l.length<=c)(hm:m.length<=c): ∀l∈uA A m,l.length<=c:=by
 unfold uA
 split
 ·exact hA
 ·intro l hl
  rw[zG,zD]at hl
  rcases hl with hl|rfl
  ·exact hA l hl
  ·exact hm
theorem qdY {P:Mt.Pm}{T:List (List Nat)}(h:Mt.Asg P T):Up P.len (Mt.fstT T) T.flatten:=by
 refine ⟨h.inc,fun q hq=>⟨?_,h.low q hq⟩⟩
 obtain ⟨x,r,rfl⟩: ∃x r,T=x::r:=by
  cases T with
  |nil=>exact absurd rfl h.ne
  |cons x r=>exact ⟨x,r,rfl⟩
 obtain ⟨y,z,rfl⟩: ∃y z,x=y::z:=by
  cases x with
  |nil=>exact absurd rfl (h.one 0 _ rfl).1
  |cons y z=>exact ⟨y,z,rfl⟩
 have hi:=h.inc
 rw[List.flatten_cons,List.cons_append,List.pairwise_cons]at hi
 rw[List.flatten_cons,List.cons_append,zH]at hq
 show y<=q
 rcases hq with rfl|hq
 ·exact zM _
 ·exact Nat.le_of_lt (hi.1 q hq)
theorem qaG {P:Mt.Pm}{T:List (List Nat)}(h:Mt.Asg P T): ∀l∈T,l.length<=P.len:=fun l hl=>by
 obtain ⟨A,B,rfl⟩:=List.append_of_mem hl
 have h1:=h.inc
 rw[List.flatten_append,List.flatten_cons,List.pairwise_append,List.pairwise_append]at h1
 have:=Up.len (n:=P.len) (b:=0) (L:=l) ⟨h1.2.1.1,fun q hq=>⟨Nat.zero_le _,h.low q (by rw[List.flatten_append,List.flatten_cons];simp[hq])⟩⟩ (Nat.zero_le _)
 omega
theorem NwS.hk {w w2:World}{sa:Option Addr}{sc:Nat}{l:List SR}{wi:Int}{ea:Option Addr}{ec:Nat}{es:List Ev}{nv:Value}(h:NwS w sa l.length sc wi ea es.length ec nv (q00 (stgs l)) w2)(hst:StsAt w sa l)(hev:EvsAt w ea es)(htb:TbE w)(hft: ∀r∈l, ∀q∈r.s.cd,q.fit)(hl8:l.length<=8)(hel:es.length<=4096): ∃an cn,HkI ⟨w,w2,[w.heap.size+1],w.heap.size+1,sa,sc,l,wi,ea,ec,es,an,cn⟩/\HkS ⟨w,w2,[w.heap.size+1],w.heap.size+1,sa,sc,l,wi,ea,ec,es,an,cn⟩ w2 [] (hkL ⟨w,w2,[w.heap.size+1],w.heap.size+1,sa,sc,l,wi,ea,ec,es,an,cn⟩ []) (.slice none 0 0) (.slice none 0 0) []:=by
 have hnl:(q00 (stgs l)).length=l.length:=by unfold q00;rw[zI,q02]
 have how:=h.ow
 obtain ⟨ad,cp,e,hnm,hcp⟩:=how.at
 rw[hnl]at e hcp
 have hcx:cp<=9223372036854775807:=by
  obtain ⟨_,⟨e2,e0⟩|⟨g,cap,cur,e2,_,_,_,hcm,_⟩⟩:=id how
  ·rw[e]at e2
   injection e2 with _ _ e3
   omega
  ·rw[e]at e2
   injection e2 with _ _ e3
   unfold maxLen at hcm
   omega
 refine ⟨ad,cp,⟨hst,hev,htb,hnm,fun b off e2 hb=>?_,h.kp,fun x hx=>?_,by simp,hft,hl8,hel,hcp,hcx⟩,⟨?_,PlS.nil _,World.ownsRow_nil _ _ _ _,Kp.refl _ _,by simp[plB,Value.ownBlock]⟩⟩
 ·have e2:ad=some ⟨b,off,none⟩:=e2
  have hob:nv.ownBlock=some b:=by rw[e,e2];rfl
  have:=qab how hob
  rw[zD]at hb
  omega
 ·rw[zD]at hx
  show w.heap.size<=x
  omega
 ·have:=h.tb
  unfold ntC at this
  unfold hkC
  rw[e]at this
  exact this
theorem q76 (sa:Option Addr)(sc:Nat)(l:List SR)(wi:Int)(ea:Option Addr)(ec:Nat)(es:List Ev)(za:Option Addr)(zc:Nat)(T:List (List Nat))(w:World)(hst:StsAt w sa l)(hev:EvsAt w ea es)(htb:TbE w)(hft: ∀r∈l, ∀q∈r.s.cd,q.fit)(hl8:l.length<=8)(hel:es.length<=4096)(hz:StagesAt w za (Mt.toZ T))(ha:Mt.Asg (Mt.pm ⟨stgs l,wi⟩ es) T):
  Calls Tryz.prog 19 #[.agg #[.slice sa l.length sc, .int .i64 wi], .slice ea es.length ec, .slice za T.length zc] w fun e w'=>e= .returned (.bool (rgB (Mt.pm ⟨stgs l,wi⟩ es) wi T))/\Kp [] w w':=by
 obtain ⟨W1,hW1⟩: ∃W1,W1=w.alloc (.cells #[.slice sa l.length sc, .int .i64 wi] 24):=⟨_,rfl⟩
 have k1:Kp [] w W1:=by rw[hW1];exact Kp.alloc _ _
 have b1:CBox w.heap.size #[.slice sa l.length sc, .int .i64 wi] 24 W1:=by rw[hW1];exact CBox.new _ _ _
 have p0:=b1.cell (i:=0) (v:= .slice sa l.length sc) rfl
 have p1:=b1.cell (i:=1) (v:= .int .i64 wi) rfl
 have NT:=hZq (q3f sa sc l wi ea es.length ec W1 (hst.kp k1) hl8)
 obtain ⟨P,hP⟩: ∃P,P=Mt.pm ⟨stgs l,wi⟩ es:=⟨_,rfl⟩
 have hPl:P.len=es.length:=by rw[hP];rfl
 have hPN:P.N=l.length:=by rw[hP];exact q02 l
 have HHK:Hid (∀w2 nv,NwS W1 sa l.length sc wi ea es.length ec nv (q00 (stgs l)) w2-> ∃k:HK,HkI k/\HkS k w2 [] (hkL k []) (.slice none 0 0) (.slice none 0 0) []/\k.gt=W1.heap.size+1/\k.P=P/\k.l.length=l.length/\k.es.length=es.length/\k.wB=W1):=hZq (fun w2 nv h=>by
  obtain ⟨an,cn,h1,h2⟩:=h.hk (hst.kp k1) (hev.kp k1 (by simp)) (htb.kp k1 (by simp)) hft hl8 hel
  exact ⟨_,h1,h2,rfl,hP.symm,rfl,rfl,rfl⟩)
 rw[<-hP]at ha ⊢
 have HZC:Hid (∀i (hi:i<T.length), ∃zb zo a c,za=some ⟨zb,zo,none⟩/\W1.cell? ⟨zb,zo+i,none⟩=some (.slice a (T[i]).length c)/\IntsAt W1 a (T[i].map Int.ofNat)):=hZq (fun i hi=>by
  have hi':i<(Mt.toZ T).length:=by rw[q0C];exact hi
  obtain ⟨zb,zo,e,_,hc⟩:=(q1l hz k1) (fun e=>by rw[e]at hi';cases hi')
  obtain ⟨a,c,h1,h2⟩:=hc i hi'
  have:(Mt.toZ T)[i]=T[i].map Int.ofNat:=List.getElem_map _
  rw[this]at h1 h2
  rw[zI]at h1
  exact ⟨zb,zo,a,c,e,h1,h2⟩)
 have hT0:0<T.length:=List.length_pos_iff.2 ha.ne
 have hTN:T.length<=l.length:=by rw[<-hPN];exact ha.le
 have hTl:T.length<=8:=by omega
 have HUP:=hZq (qdY ha)
 have HRW:Hid (∀l∈T,l.length<=4096):=hZq (fun x hx=>Nat.le_trans (qaG ha x hx) (by omega))
 have HNE:Hid (∀i (hi:i<T.length),T[i]≠[]):=hZq (fun i hi=>(ha.one i T[i] (zE hi)).1)
 have HK1:=hZq k1
 obtain ⟨R,hR⟩: ∃R,R=rgB P wi T:=⟨_,rfl⟩
 rw[<-hR]
 have HR:Hid (R=(decide ((Mt.endT T:Int)-(Mt.fstT T:Int)<wi) && allB P [] (Mt.fstT T) T)):=hZq hR
 have HFI:Hid (∃zb zo ib io c x0,za=some ⟨zb,zo,none⟩/\W1.cell? ⟨zb,zo,none⟩=some (.slice (some ⟨ib,io,none⟩) (x0+1) c)/\W1.cell? ⟨ib,io,none⟩=some (.int .i64 (Mt.fstT T:Int))/\Mt.fstT T<P.len):=hZq (by
  obtain ⟨zb,zo,a,c,e,h1,h2⟩:=uQ HZC 0 hT0
  have hne:=uQ HNE 0 hT0
  obtain ⟨ib,io,rfl,_,hc⟩:=h2 (fun e=>hne (List.map_eq_nil_iff.1 e))
  have hp:=List.length_pos_iff.2 hne
  have h3:=hc 0 (by rw[zI];exact hp)
  have hft0:T[0][0]=Mt.fstT T:=by
   cases T with
   |nil=>cases hT0
   |cons x r=>cases x with
    |nil=>exact absurd rfl hne
    |cons y z=>rfl
  refine ⟨zb,zo,ib,io,c,T[0].length-1,e,by rw[show T[0].length-1+1=T[0].length by omega];exact h1,?_,?_⟩
  ·rw[Nat.add_zero]at h3
   rw[h3,List.getElem_map]
   congr 2
   show ((T[0][0]:Nat):Int)=_
   rw[hft0]
  ·rw[<-hft0]
   exact ha.low _ (List.mem_flatten.2 ⟨T[0],zJ _,zJ _⟩))
 have HLA:Hid (∃zb zo ib io c x0,za=some ⟨zb,zo,none⟩/\W1.cell? ⟨zb,zo+(T.length-1),none⟩=some (.slice (some ⟨ib,io,none⟩) (x0+1) c)/\x0<=4096/\W1.cell? ⟨ib,io+x0,none⟩=some (.int .i64 (Mt.endT T:Int))/\Mt.endT T<P.len):=hZq (by
  have hl1:T.length-1<T.length:=by omega
  obtain ⟨zb,zo,a,c,e,h1,h2⟩:=uQ HZC (T.length-1) hl1
  have hne:=uQ HNE _ hl1
  obtain ⟨ib,io,rfl,_,hc⟩:=h2 (fun e=>hne (List.map_eq_nil_iff.1 e))
  have hp:=List.length_pos_iff.2 hne
  have h3:=hc (T[T.length-1].length-1) (by rw[zI];omega)
  have hft0:T[T.length-1][T[T.length-1].length-1]=Mt.endT T:=by
   unfold Mt.endT Mt.lst
   rw[List.getLastD_eq_getLast?,List.getLast?_eq_getElem?,List.getLastD_eq_getLast?,List.getLast?_eq_getElem?,zE hl1,Option.getD_some,zE (by omega)]
   rfl
  refine ⟨zb,zo,ib,io,c,T[T.length-1].length-1,e,by rw[show T[T.length-1].length-1+1=T[T.length-1].length by omega];exact h1,by have:=uQ HRW _ (zJ hl1);omega,?_,?_⟩
  ·rw[h3,List.getElem_map]
   congr 2
   show ((T[T.length-1][T[T.length-1].length-1]:Nat):Int)=_
   rw[hft0]
  ·rw[<-hft0]
   exact ha.low _ (List.mem_flatten.2 ⟨T[T.length-1],zJ _,zJ _⟩))
 have HKR:Hid (∀(k:HK),HkI k->k.wB=W1-> ∀(U:List (List Nat)) (pv lv:Value) (vs:List Value) (W:World),HkS k W U (hkL k U) pv lv vs->Kp [] W1 W):=hZq (fun k hI e U pv lv vs W h=>by have:=h.kb hI;rwa [e]at this)
 clear hst hev htb hft hz ha b1 hR hP k1
 obtain ⟨f,hf⟩: ∃f,f=Mt.fstT T:=⟨_,rfl⟩
 obtain ⟨en,hen⟩: ∃en,en=Mt.endT T:=⟨_,rfl⟩
 rw[<-hf]at HUP HR HFI
 rw[<-hen]at HR HLA
 clear hf hen
 obtain ⟨zm,hzm⟩: ∃zm,zm+1=T.length:=⟨T.length-1,by omega⟩
 have HZM:=hZq hzm
 rw[show T.length-1=zm by omega]at HLA
 rw[<-hzm]
 have hzm8:zm<=8:=by rw[<-hzm]at hTl;omega
 have hzl:zm+1<=l.length:=by rw[hzm];exact hTN
 obtain ⟨zb,zo,ib,io,lc,x0,rfl,z1,hx0,z2,henl⟩:=uQ HLA
 obtain ⟨zb',zo',ab,ao,c0,y0,e',f1,f2,hfl⟩:=uQ HFI
 injection e' with e'
 injection e' with e1 e2 _
 subst e1 e2
 obtain ⟨n,hn⟩: ∃n,n=es.length:=⟨_,rfl⟩
 rw[<-hn]at NT HHK hPl
 obtain ⟨ln,hln⟩: ∃ln,ln=l.length:=⟨_,rfl⟩
 rw[<-hln]at NT HHK hPN p0 hW1 hl8 hzl
 rw[<-hn, <-hln]
 rw[<-hn]at hel
 have HNN:=hZq hn
 clear hzm HLA HFI hTl hTN hn hln hT0
 go_enter Tryz.func19,Tryz.ntmps19
 go_upto_region 1 with fail
 rw[<-hW1]
 clear hW1
 go_wp2_with fail
 refine (uQ NT).mono ?_
 rintro e w2 ⟨rfl,nv,hns⟩
 obtain ⟨k,hI,hS,hgt,hkP,hkl,hke,hkB⟩:=uQ HHK w2 nv hns
 have hk2:Kp [] W1 w2:=hns.kp
 obtain ⟨gt,hgt'⟩: ∃gt,gt=W1.heap.size+1:=⟨_,rfl⟩
 rw[<-hgt']at hgt ⊢
 have HS:=hZq hS
 have HKX:=hZq (uQ HKR k hI hkB)
 have ML:Hid (∀(W:World) (A:List (List Nat)) (m:List Nat) (pv lv:Value) (vs:List Value) (t b q:Nat),HkS k W (uA A m) (hkL k (uA A m)) pv lv vs->A.length=t->t<ln->q<n->b<=q->Calls Tryz.prog 43 #[.pointer (some ⟨gt,0,none⟩), .int .i64 (t:Int), .int .i64 ((b:Int)-1), .int .i64 (q:Int)] W fun e w'=>e= .returned (.bool (mlB P A A.length b q))/\Kp [] W w'):=hZq (fun W A m pv lv vs t b q h e ht hq hb=>by
  subst e
  have hu:=q6M A m
  have:=q8E k hI W _ pv lv vs h A.length b q (by omega) (by omega) (by omega) hb
  rwa [hgt,qfr,hkP]at this)
 have HO:Hid (∀(W:World) (A:List (List Nat)) (m:List Nat) (pv lv:Value) (vs:List Value) (t q:Nat),HkS k W (uA A m) (hkL k (uA A m)) pv lv vs->A.length=t->t<ln->q<n->Calls Tryz.prog 44 #[.pointer (some ⟨gt,0,none⟩), .int .i64 (t:Int), .int .i64 (q:Int)] W fun e w'=>e= .returned (.bool (P.H A.length (Mt.las A A.length) q))/\Kp [] W w'):=hZq (fun W A m pv lv vs t q h e ht hq=>by
  subst e
  have hu:=q6M A m
  have:=q1P k hI W _ pv lv vs h A.length q (by omega) (by omega) (by omega)
  rwa [hgt,qav,hkP]at this)
 have PU:Hid (∀(W:World) (A:List (List Nat)) (m:List Nat) (pv lv:Value) (vs:List Value) (t q:Nat),HkS k W (uA A m) (hkL k (uA A m)) pv lv vs->A.length=t->t<ln->q<n->(∀l∈A,l.length<=4096)->m.length<=4096->Calls Tryz.prog 45 #[.pointer (some ⟨gt,0,none⟩), .int .i64 (t:Int), .int .i64 (q:Int)] W fun e w'=>(∃v,e= .returned v)/\ ∃pv' lv' vs',HkS k w' (uA A (m++[q])) (hkL k (uA A (m++[q]))) pv' lv' vs'):=hZq (fun W A m pv lv vs t q h e ht hq hA hm=>by
  subst e
  have:=q6L k hI W _ pv lv vs h A.length q (by have:=q6M A m;omega) (by omega) (by omega) (qdR hA hm)
  rw[hgt,qeV]at this
  exact Calls.mono this (fun e w' ⟨h1,pv',lv',vs',h2⟩=>⟨h1,pv',lv',vs',h2.s⟩))
 have HAL:Hid (∀(W:World) (U:List (List Nat)) (pv lv:Value) (vs:List Value),HkS k W U (hkL k U) pv lv vs-> ∀W',Kp [] W W'->HkS k W' U (hkL k U) pv lv vs):=hZq (fun W U pv lv vs h W' hk=>h.al hk)
 have HFN:Hid (∀W',Kp [] W1 W'->Kp [] w W'):=hZq (fun W' hk=>(uQ HK1).trans hk (by simp))
 have hk3:Kp [] W1 w2.drew:=hk2.trans (Kp.drew w2) (by simp)
 have g1:=hk2.cell z1 (by simp)
 have cS:w2.drew.cell? ⟨zb,zo,none⟩=some (.slice (some ⟨ab,ao,none⟩) (y0+1) c0)/\w2.drew.cell? ⟨ab,ao,none⟩=some (.int .i64 (f:Int))/\w2.drew.cell? ⟨ib,io+x0,none⟩=some (.int .i64 (en:Int)):=⟨hk3.cell f1 (by simp),hk3.cell f2 (by simp),hk3.cell z2 (by simp)⟩
 have q0:=hk3.cell p0 (by simp)
 have q1:=hk3.cell p1 (by simp)
 have hfin:=hZq (uQ HFN w2.drew hk3)
 have HS3:=hZq (uQ HAL _ _ _ _ _ (uQ HS) _ (Kp.drew w2))
 have hen4:en<=4096:=by omega
 have hz00:(0:Int)<(zm:Int)+1:=by omega
 have hx0i:(x0:Int)<(x0:Int)+1:=by omega
 have hx00:(0:Int)<=(x0:Int):=by omega
 have hxw1:IntKind.i64.wrap (x0:Int)=(x0:Int):=by rw[IntKind.wrap_i64];omega
 have hxw2:IntKind.i64.wrap ((x0:Int)+1-1)=(x0:Int):=by rw[IntKind.wrap_i64];omega
 have hxw3:wrap64 (x0:Int)=(x0:Int):=by unfold wrap64;omega
 have hy00:(0:Int)<(y0:Int)+1:=by omega
 have hf4:f<=4096:=by omega
 have HPL:=hZq hPl
 clear NT HHK hns hI hS hgt hkP hkl hke hkB hgt' HKR HK1 p0 p1 z1 z2 f1 f2 henl hfl hPl
 go_upto_region 3 with fail
 go_region_held3 (fun W=>W.cell? ⟨zb,zo,none⟩=some (.slice (some ⟨ab,ao,none⟩) (y0+1) c0)/\W.cell? ⟨ab,ao,none⟩=some (.int .i64 (f:Int))/\W.cell? ⟨ib,io+x0,none⟩=some (.int .i64 (en:Int)))
  (with_reducible exact cS)
  (fail)
 clear cS g1 HS
 generalize w2.drew=W3 at *
 by_cases hwin:wi<=(en:Int)-(f:Int)
 ·have HF:Hid (R=false):=hZq (by rw[uQ HR,zK (by omega)];rfl)
  clear HR HUP HRW HNE HZM HZC ML HO PU HAL HS3 HKX HFN
  go_wp2
  go_ret
  exact ⟨by rw[uQ HF] <;> rfl,uQ hfin⟩
 ·have HR2:Hid (R=allB P [] f T):=hZq (by rw[uQ HR,decide_eq_true (by omega)];rfl)
  clear HR hfin
  go_wp2_with fail
  go_loopw [11,46] (fun bv iv wr=> ∃(i b:Nat),i<=zm+1/\iv= .int .i64 (i:Int)/\bv= .int .i64 ((b:Int)-1)/\Hid (∃pv lv vs,HkS k wr (T.take i) (hkL k (T.take i)) pv lv vs)/\Hid (R=allB P (T.take i) b (T.drop i))/\Hid (Up P.len b (T.drop i).flatten)) (fun _ iv _=>zm+1-(intOf iv).toNat)
  case atStart=>exact ⟨0,f,Nat.zero_le _,rfl,rfl,hZq ⟨_,_,_,uQ HS3⟩,HR2,HUP⟩
  case round=>
   clear HS3 HR2 HUP q0 q1
   obtain ⟨i,b,hi,rfl,rfl,HST,HRR,HU⟩:=hrel
   by_cases hlt:i<zm+1
   ·have hlti:(i:Int)<(zm:Int)+1:=by omega
    have hiT:i<T.length:=by rw[<-uQ HZM];exact hlt
    obtain ⟨pv,lv,vs,hS⟩:=uQ HST
    have hkW:=uQ HKX _ _ _ _ _ hS
    obtain ⟨zb',zo',a,c,e',c1,hint⟩:=uQ HZC i hiT
    injection e' with e'
    injection e' with e1 e2 _
    subst e1 e2
    have c2:=hkW.cell c1 (by simp)
    have hxl:=uQ HRW T[i] (zJ hiT)
    have hxe:=uQ HNE i hiT
    have HXI:=hZq hint
    obtain ⟨A,hA⟩: ∃A,A=T.take i:=⟨_,rfl⟩
    have hAl:A.length=i:=by rw[hA,zL];omega
    have HAR:Hid (∀y∈A,y.length<=4096):=hZq (fun y hy=>uQ HRW y (List.mem_of_mem_take (by rw[<-hA];exact hy)))
    have htk:=List.take_succ_eq_append_getElem hiT
    have hdr:=List.drop_eq_getElem_cons hiT
    rw[<-hA]at htk hS
    have HRR2:=uQ HRR
    have HU2:=uQ HU
    rw[<-hA,hdr]at HRR2
    rw[hdr,List.flatten_cons]at HU2
    obtain ⟨D,hD⟩: ∃D,D=T.drop (i+1):=⟨_,rfl⟩
    rw[<-hD]at HRR2 HU2
    have HD:=hZq hD
    have HNE2:=hZq hxe
    have HTK:=hZq htk
    clear HST HRR HU hkW c1 hint hA htk hdr hD hxe
    generalize T[i]=x at *
    have HR3:Hid (R=(rowB P A b (x.drop 0) && allB P (A++[x]) (lsd b (x.drop 0)) D)):=hZq HRR2
    have HU3:Hid (Up P.len b (x.drop 0++D.flatten)):=hZq HU2
    have HS4:Hid (HkS k wr (uA A (x.take 0)) (hkL k (uA A (x.take 0))) pv lv vs):=hZq hS
    obtain ⟨xn,hxn⟩: ∃xn,xn=x.length:=⟨_,rfl⟩
    have HXN:=hZq hxn
    rw[<-hxn]at c2 hxl
    have HAL2:=hZq hAl
    clear HRR2 HU2 hS hxn
    go_wp2_with fail
    go_loopw [11,53] (fun bv jv wr=> ∃(j b':Nat),j<=xn/\jv= .int .i64 (j:Int)/\bv= .int .i64 ((b':Int)-1)/\Hid (∃pv lv vs,HkS k wr (uA A (x.take j)) (hkL k (uA A (x.take j))) pv lv vs)/\Hid (R=(rowB P A b' (x.drop j) && allB P (A++[x]) (lsd b' (x.drop j)) D))/\Hid (Up P.len b' (x.drop j++D.flatten))) (fun _ jv _=>xn-(intOf jv).toNat)
    case atStart=>exact ⟨0,b,Nat.zero_le _,rfl,rfl,hZq ⟨_,_,_,uQ HS4⟩,HR3,HU3⟩
    case round=>
     clear HS4 HR3 HU3 c2
     obtain ⟨j,b',hj,rfl,rfl,HST,HRR,HU⟩:=hrel
     by_cases hjl:j<xn
     ·have hjli:(j:Int)<(xn:Int):=by omega
      have hjx:j<x.length:=by rw[<-uQ HXN];exact hjl
      obtain ⟨pv,lv,vs,hS⟩:=uQ HST
      have hkW:=uQ HKX _ _ _ _ _ hS
      obtain ⟨jb,jo,rfl,_,hc⟩:=(uQ HXI) (fun e=>by rw[List.map_eq_nil_iff.1 e]at hjx;cases hjx)
      have c3:=hkW.cell (hc j (by rw[zI];exact hjx)) (by simp)
      rw[List.getElem_map]at c3
      have htk:=List.take_succ_eq_append_getElem hjx
      have hdr:=List.drop_eq_getElem_cons hjx
      have HU2:=uQ HU
      have HR4:=uQ HRR
      rw[hdr,List.cons_append]at HU2
      rw[hdr]at HR4
      obtain ⟨hbq,hqn,HU5⟩:=HU2.next
      rw[uQ HPL]at hqn
      have hln1:i<ln:=by omega
      have c4:wr.cell? ⟨jb,jo+j,none⟩=some (.int .i64 ((x[j]:Nat):Int)):=c3
      have hml:(x.take j).length<=4096:=by rw[zL];omega
      have MLq:=hZq (uQ ML wr A (x.take j) pv lv vs i b' x[j] hS hAl hln1 hqn hbq)
      have HOq:=hZq (fun W (hk:Kp [] wr W)=>uQ HO W A (x.take j) pv lv vs i x[j] (uQ HAL _ _ _ _ _ hS W hk) hAl hln1 hqn)
      have PUq:Hid (∀W,Kp [] wr W->Calls Tryz.prog 45 #[.pointer (some ⟨gt,0,none⟩), .int .i64 (i:Int), .int .i64 ((x[j]:Nat):Int)] W fun e w'=>(∃v,e= .returned v)/\ ∃pv' lv' vs',HkS k w' (uA A (x.take (j+1))) (hkL k (uA A (x.take (j+1)))) pv' lv' vs'):=hZq (fun W hk=>by rw[htk];exact uQ PU W A (x.take j) pv lv vs i x[j] (uQ HAL _ _ _ _ _ hS W hk) hAl hln1 hqn (uQ HAR) hml)
      have HK0:=hZq hkW
      have HU6:=hZq HU5
      have HR5:Hid (R=((mlB P A A.length b' x[j] && P.H A.length (Mt.las A A.length) x[j]) && rowB P A (x[j]+1) (x.drop (j+1)) && allB P (A++[x]) (lsd (x[j]+1) (x.drop (j+1))) D)):=hZq HR4
      have hq4:x[j]<=4096:=by omega
      clear HST HRR HU hkW hc c3 htk hdr HU2 HR4 HU5 hS hbq hqn hml ML HO PU HAL
      generalize x[j]=q at *
      generalize mlB P A A.length b' q=D1 at *
      generalize P.H A.length (Mt.las A A.length) q=D2 at *
      go_wp2_with fail
      refine (uQ MLq).mono ?_
      rintro e w4 ⟨rfl,k4⟩
      have HK4:=hZq k4
      clear MLq k4
      cases D1 with
      |false=>
       have HF:Hid (R=false):=hZq (by rw[uQ HR5] <;> rfl)
       have HE:=hZq (uQ HFN _ ((uQ HK0).trans (uQ HK4) (by simp)))
       clear HR5 HU6 HOq PUq HK0 HK4
       go_wp2
       go_ret
       exact ⟨by rw[uQ HF] <;> rfl,uQ HE⟩
      |true=>
       go_wp2_with fail
       refine (uQ HOq w4 (uQ HK4)).mono ?_
       rintro e w5 ⟨rfl,k5⟩
       have HK5:=hZq ((uQ HK4).trans k5 (by simp))
       clear HOq k5 HK4
       cases D2 with
       |false=>
        have HF:Hid (R=false):=hZq (by rw[uQ HR5] <;> rfl)
        have HE:=hZq (uQ HFN _ ((uQ HK0).trans (uQ HK5) (by simp)))
        clear HR5 HU6 PUq HK0 HK5
        go_wp2
        go_ret
        exact ⟨by rw[uQ HF] <;> rfl,uQ HE⟩
       |true=>
        have HR6:Hid (R=(rowB P A (q+1) (x.drop (j+1)) && allB P (A++[x]) (lsd (q+1) (x.drop (j+1))) D)):=hZq (by rw[uQ HR5] <;> rfl)
        clear HR5
        go_wp2_with fail
        refine (uQ PUq w5 (uQ HK5)).mono ?_
        rintro e w6 ⟨⟨v,rfl⟩,pv6,lv6,vs6,h6⟩
        have HS6:=hZq h6
        clear PUq h6 HK5 HK0
        go_wp2
        go_roundw
        case rel=>exact ⟨j+1,q+1,by omega,by go_num,by congr 1;omega,hZq ⟨_,_,_,uQ HS6⟩,HR6,HU6⟩
        case measure=>simp[intOf];omega
     ·obtain rfl:j=xn:=by omega
      have hjli: ¬ (j:Int)<(j:Int):=by omega
      have hdr:x.drop j=[]:=List.drop_of_length_le (by rw[uQ HXN];exact zM _)
      have htk:x.take j=x:=List.take_of_length_le (by rw[uQ HXN];exact zM _)
      have HS7:Hid (∃pv lv vs,HkS k wr (T.take (i+1)) (hkL k (T.take (i+1))) pv lv vs):=hZq (by
       have:=uQ HST
       rw[htk,q8d A (uQ HNE2), <-uQ HTK]at this
       exact this)
      have HR7:Hid (R=allB P (T.take (i+1)) b' (T.drop (i+1))):=hZq (by
       have:=uQ HRR
       rw[hdr,uQ HD, <-uQ HTK]at this
       exact this)
      have HU7:Hid (Up P.len b' (T.drop (i+1)).flatten):=hZq (by
       have:=uQ HU
       rw[hdr,uQ HD]at this
       exact this)
      clear HST HRR HU hdr htk ML HO PU HAL
      go_wp2
      go_roundw
      case rel=>exact ⟨i+1,b',by omega,by go_num,rfl,HS7,HR7,HU7⟩
      case measure=>simp[intOf];omega
   ·obtain rfl:i=zm+1:=by omega
    have hlti: ¬ ((zm+1:Nat):Int)<(zm:Int)+1:=by omega
    have HF:Hid (R=true):=hZq (by
     have:=uQ HRR
     rw[List.drop_of_length_le (by rw[uQ HZM];exact zM _)]at this
     exact this)
    obtain ⟨pv,lv,vs,hS⟩:=uQ HST
    have HE:=hZq (uQ HFN _ (uQ HKX _ _ _ _ _ hS))
    clear HST HRR HU hS ML HO PU HAL HZC
    go_wp2
    go_ret
    exact ⟨by rw[uQ HF] <;> rfl,uQ HE⟩
end Go.Proofs.YtfgkikeeadlcfaaGreatDoor
