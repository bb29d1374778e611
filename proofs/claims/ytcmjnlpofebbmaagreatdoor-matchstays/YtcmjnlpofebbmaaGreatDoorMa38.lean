/-
  Walks and plain facts, made small.
-/
import Derived.Test.YtcmjnlpofebbmaaGreatDoorMa37
import Derived.Sort.Grow
import Derived.Shelf.SlSortCmp.Insertion
set_option maxRecDepth 100000
set_option maxHeartbeats 8000000
set_option linter.unusedSimpArgs false
namespace Go.Proofs.YtcmjnlpofebbmaaGreatDoor
open Go.RowKit
def cM (k1:ByteArray)(s1:List (List Int))(k2:ByteArray)(s2:List (List Int)):Int:=
 orI (Lib.compareInt (q1b s1) (q1b s2)) (orI (cL (cL Lib.compareInt) s1 s2) (Lib.compareBytes k1.data.toList k2.data.toList))
def cmpE (k1:ByteArray)(s1:List (List Int))(k2:ByteArray)(s2:List (List Int)):Int:=if mayM k1 s1=true/\mayM k2 s2=true then 0 else 20
def cmpV (k1:ByteArray)(s1:List (List Int))(k2:ByteArray)(s2:List (List Int)):Int:=if mayM k1 s1=true/\mayM k2 s2=true then cM k1 s1 k2 s2 else 0
def MBox (g:Nat)(k:ByteArray)(ad:Option Addr)(n cap:Nat)(w:World):Prop:=w.heap[g]?=some (.cells #[.string k, .slice ad n cap] 37 (0,0))
theorem MBox.cells {g:Nat}{k:ByteArray}{ad:Option Addr}{n cap:Nat}{w:World}(h:MBox g k ad n cap w):w.cell? ⟨g,0,none⟩=some (.string k)/\w.cell? ⟨g,1,none⟩=some (.slice ad n cap):=by
 unfold MBox at h
 simp[World.cell?,h]
theorem MBox.lt {g:Nat}{k:ByteArray}{ad:Option Addr}{n cap:Nat}{w:World}(h:MBox g k ad n cap w):g<w.heap.size:=by
 unfold MBox at h
 rcases Nat.lt_or_ge g w.heap.size with h1|h1
 ·exact h1
 ·rw[Array.getElem?_eq_none h1]at h;cases h
theorem MBox.alloc {g:Nat}{k:ByteArray}{ad:Option Addr}{n cap:Nat}{w:World}(h:MBox g k ad n cap w)(o:Obj):MBox g k ad n cap (w.alloc o):=(Below.heap_alloc _ _ _ h.lt).trans h
theorem q8b {w W:World}(h: ∃q os,W=Go.Sort.grow (w.drewN q) os): ∃q os,W.drew=Go.Sort.grow (w.drewN q) os:=by
 obtain ⟨q,os,rfl⟩:=h
 exact ⟨q+1,os,rfl⟩
theorem q17 {w W:World}(h: ∃q os,W=Go.Sort.grow (w.drewN q) os)(o:Obj): ∃q os,W.alloc o=Go.Sort.grow (w.drewN q) os:=by
 obtain ⟨q,os,rfl⟩:=h
 exact ⟨q,os++#[o],by rw[Go.Sort.alloc_eq_grow,Go.Sort.grow_grow]⟩
theorem q3Y (w:World): ∃q os,w=Go.Sort.grow (w.drewN q) os:=⟨0,#[],by rw[Go.Sort.grow_empty];rfl⟩
theorem q6P {a b c:World}(h: ∃q os,b=Go.Sort.grow (a.drewN q) os)(k: ∃q os,c=Go.Sort.grow (b.drewN q) os): ∃q os,c=Go.Sort.grow (a.drewN q) os:=by
 obtain ⟨q,os,rfl⟩:=h
 obtain ⟨p,os',rfl⟩:=k
 refine ⟨q+p,os++os',?_⟩
 have e:(Go.Sort.grow (a.drewN q) os).drewN p=Go.Sort.grow (a.drewN (q+p)) os:=by
  rw[<-World.drewN_drewN];rfl
 rw[e,Go.Sort.grow_grow]
structure CmpS (w:World)(g1 g2:Nat)(k1:ByteArray)(a1:Option Addr)(n1 c1:Nat)(k2:ByteArray)(a2:Option Addr)(n2 c2:Nat)(W:World):Prop where
 bel:Below w.heap.size w W
 b1:MBox g1 k1 a1 n1 c1 W
 b2:MBox g2 k2 a2 n2 c2 W
section
variable {w:World} {g1 g2:Nat} {k1:ByteArray} {a1:Option Addr} {n1 c1:Nat} {k2:ByteArray} {a2:Option Addr} {n2 c2:Nat} {W:World}
theorem CmpS.full (h:CmpS w g1 g2 k1 a1 n1 c1 k2 a2 n2 c2 W):CmpS w g1 g2 k1 a1 n1 c1 k2 a2 n2 c2 W/\W.cell? ⟨g1,0,none⟩=some (.string k1)/\W.cell? ⟨g1,1,none⟩=some (.slice a1 n1 c1)/\W.cell? ⟨g2,0,none⟩=some (.string k2)/\W.cell? ⟨g2,1,none⟩=some (.slice a2 n2 c2):=
 ⟨h,h.b1.cells.1,h.b1.cells.2,h.b2.cells.1,h.b2.cells.2⟩
end
structure CmpG (w:World)(g1 g2:Nat)(k1:ByteArray)(a1:Option Addr)(n1 c1:Nat)(k2:ByteArray)(a2:Option Addr)(n2 c2:Nat)(W:World):Prop where
 bel:Below w.heap.size w W
 gr: ∃q os,W=Go.Sort.grow (w.drewN q) os
 b1:MBox g1 k1 a1 n1 c1 W
 b2:MBox g2 k2 a2 n2 c2 W
section
variable {w:World} {g1 g2:Nat} {k1:ByteArray} {a1:Option Addr} {n1 c1:Nat} {k2:ByteArray} {a2:Option Addr} {n2 c2:Nat} {W:World}
theorem CmpG.drew (h:CmpG w g1 g2 k1 a1 n1 c1 k2 a2 n2 c2 W):CmpG w g1 g2 k1 a1 n1 c1 k2 a2 n2 c2 W.drew:=⟨h.bel.drew,q8b h.gr,h.b1,h.b2⟩
theorem CmpG.alloc (h:CmpG w g1 g2 k1 a1 n1 c1 k2 a2 n2 c2 W)(o:Obj):CmpG w g1 g2 k1 a1 n1 c1 k2 a2 n2 c2 (W.alloc o):=⟨h.bel.alloc h.bel.size o,q17 h.gr o,h.b1.alloc o,h.b2.alloc o⟩
theorem CmpG.full (h:CmpG w g1 g2 k1 a1 n1 c1 k2 a2 n2 c2 W):CmpG w g1 g2 k1 a1 n1 c1 k2 a2 n2 c2 W/\W.cell? ⟨g1,0,none⟩=some (.string k1)/\W.cell? ⟨g1,1,none⟩=some (.slice a1 n1 c1)/\W.cell? ⟨g2,0,none⟩=some (.string k2)/\W.cell? ⟨g2,1,none⟩=some (.slice a2 n2 c2):=
 ⟨h,h.b1.cells.1,h.b1.cells.2,h.b2.cells.1,h.b2.cells.2⟩
end
theorem orL3 (a b c:Int):orL [a,b,c]=orI a (orI b c):=by
 unfold orI
 simp only[orL]
 split
 ·split
  ·split <;> omega
  ·rfl
 ·rfl
theorem qew (W:World)(a b c:Int)(t:TypeId):IntsAt (W.alloc (.cells #[.int .i64 a, .int .i64 b, .int .i64 c] t)) (some ⟨W.heap.size,0,none⟩) [a,b,c]:=fun _=>by
 refine ⟨W.heap.size,0,rfl,by simp,fun i hi=>?_⟩
 match i,hi with
 |0,_=>simp
 |1,_=>simp
 |2,_=>simp
theorem q5z (k1:ByteArray)(a1:Option Addr)(c1:Nat)(s1:List (List Int))(k2:ByteArray)(a2:Option Addr)(c2:Nat)(s2:List (List Int))(w:World)(ok1:MtOk k1 s1)(ok2:MtOk k2 s2)(h1:StagesAt w a1 s1)(h2:StagesAt w a2 s2):
  Calls Tryz.prog 30 #[.agg #[.string k1, .slice a1 s1.length c1], .agg #[.string k2, .slice a2 s2.length c2]] w fun e w'=>e= .returned (.tuple #[.int .i64 (cmpV k1 s1 k2 s2), .int .i64 (cmpE k1 s1 k2 s2)])/\Below w.heap.size w w'/\ ∃q os,w'=Go.Sort.grow (w.drewN q) os:=by
 have s0:CmpG w w.heap.size (w.heap.size+1) k1 a1 s1.length c1 k2 a2 s2.length c2 ((w.alloc (.cells #[.string k1, .slice a1 s1.length c1] 37)).alloc (.cells #[.string k2, .slice a2 s2.length c2] 37)):=by
  refine ⟨((Below.refl _ _).alloc (Nat.le_refl _) _).alloc (by simp) _,q17 (q17 (q3Y w) _) _,MBox.alloc (heap_alloc_new w _) _,?_⟩
  have:=heap_alloc_new (w.alloc (.cells #[.string k1, .slice a1 s1.length c1] 37)) (.cells #[.string k2, .slice a2 s2.length c2] 37)
  unfold MBox
  simpa using this
 have ck1:=fun W (hW:Below w.heap.size w W)=>q2m k1 a1 c1 s1 W ok1 (h1.below hW (Nat.le_refl _))
 have ck2:=fun W (hW:Below w.heap.size w W)=>q2m k2 a2 c2 s2 W ok2 (h2.below hW (Nat.le_refl _))
 have lp1:=fun W (hW:Below w.heap.size w W) (hm:mayM k1 s1=true)=>q2W k1 a1 c1 s1 W ok1 hm (h1.below hW (Nat.le_refl _))
 have lp2:=fun W (hW:Below w.heap.size w W) (hm:mayM k2 s2=true)=>q2W k2 a2 c2 s2 W ok2 hm (h2.below hW (Nat.le_refl _))
 have cf:=fun W (hW:Below w.heap.size w W)=>q3L a1 a2 c1 c2 s1 s2 W ok1.2.1 ok2.2.1 ok1.2.2 ok2.2.2 (h1.below hW (Nat.le_refl _)) (h2.below hW (Nat.le_refl _))
 have sc:=fun W=>Tryz.strings_Compare k1 k2 W
 clear h1 h2
 have CK1:=hZq ck1
 have CK2:=hZq ck2
 have LP1:=hZq lp1
 have LP2:=hZq lp2
 have CF:=hZq cf
 have SC:=hZq sc
 clear ck1 ck2 lp1 lp2 cf sc
 unfold cmpV cmpE
 by_cases m1:mayM k1 s1=true
 ·have e1:chkM k1 s1=0:=if_pos m1
  by_cases m2:mayM k2 s2=true
  ·have e2:chkM k2 s2=0:=if_pos m2
   rw[if_pos ⟨m1,m2⟩,if_pos ⟨m1,m2⟩]
   rw[e1]at CK1
   rw[e2]at CK2
   unfold cM
   rw[<-orL3]
   have LQ1:Hid (∀W,Below w.heap.size w W->_):=hZq (fun W hW=>uQ LP1 W hW m1)
   have LQ2:Hid (∀W,Below w.heap.size w W->_):=hZq (fun W hW=>uQ LP2 W hW m2)
   have cc:=fun W=>q5w (q1b s1) (q1b s2) W
   have CC:=hZq cc
   clear LP1 LP2 e1 e2 m1 m2 cc
   generalize Lib.compareInt (q1b s1) (q1b s2)=X at *
   generalize cL (cL Lib.compareInt) s1 s2=Y at *
   generalize Lib.compareBytes k1.data.toList k2.data.toList=Z at *
   generalize q1b s1=L1 at *
   generalize q1b s2=L2 at *
   have oc:=fun W=>qdN (some ⟨W.heap.size,0,none⟩) 3 [X,Y,Z] (W.alloc (.cells #[.int .i64 X, .int .i64 Y, .int .i64 Z] 3)) (by simp) (qew W X Y Z _)
   generalize orL [X,Y,Z]=T at *
   have OC:=hZq oc
   clear oc ok1 ok2
   generalize s1.length=n1 at *
   generalize s2.length=n2 at *
   go_enter Tryz.func30,Tryz.ntmps30
   go_wp2_with fail
   generalize ((w.alloc (.cells #[.string k1, .slice a1 n1 c1] 37)).alloc (.cells #[.string k2, .slice a2 n2 c2] 37))=W0 at *
   have f0:=s0.full.2
   refine (uQ CK1 W0 s0.bel).mono ?_
   rintro e w1 ⟨rfl,rfl⟩
   have s1:=s0.alloc (.cells #[.string k1, .slice a1 n1 c1] 37)
   generalize (W0.alloc (.cells #[.string k1, .slice a1 n1 c1] 37))=W1 at *
   clear f0 s0
   have f1:=s1.full.2
   go_wp2_with fail
   refine (uQ CK2 W1 s1.bel).mono ?_
   rintro e w2 ⟨rfl,rfl⟩
   have s2:=s1.alloc (.cells #[.string k2, .slice a2 n2 c2] 37)
   generalize (W1.alloc (.cells #[.string k2, .slice a2 n2 c2] 37))=W2 at *
   clear f1 s1
   have f2:=s2.full.2
   go_wp2_with fail
   have ls1: ∀W,CmpG w w.heap.size (w.heap.size+1) k1 a1 n1 c1 k2 a2 n2 c2 W->Calls Tryz.prog 57 #[.agg #[.string k1, .slice a1 n1 c1]] W fun e w'=>e= .returned (.int .i64 L1)/\CmpG w w.heap.size (w.heap.size+1) k1 a1 n1 c1 k2 a2 n2 c2 w':=
    fun W hS=>(uQ LQ1 W hS.bel).mono (fun e w' h=>⟨h.1,h.2 ▸ hS.alloc _⟩)
   have ls2: ∀W,CmpG w w.heap.size (w.heap.size+1) k1 a1 n1 c1 k2 a2 n2 c2 W->Calls Tryz.prog 57 #[.agg #[.string k2, .slice a2 n2 c2]] W fun e w'=>e= .returned (.int .i64 L2)/\CmpG w w.heap.size (w.heap.size+1) k1 a1 n1 c1 k2 a2 n2 c2 w':=
    fun W hS=>(uQ LQ2 W hS.bel).mono (fun e w' h=>⟨h.1,h.2 ▸ hS.alloc _⟩)
   have LS1:=hZq ls1
   have LS2:=hZq ls2
   clear ls1 ls2 LQ1 LQ2 CK1 CK2
   go_region_held3 (fun W=>CmpG w w.heap.size (w.heap.size+1) k1 a1 n1 c1 k2 a2 n2 c2 W/\W.cell? ⟨w.heap.size,0,none⟩=some (.string k1)/\W.cell? ⟨w.heap.size,1,none⟩=some (.slice a1 n1 c1)/\W.cell? ⟨w.heap.size+1,0,none⟩=some (.string k2)/\W.cell? ⟨w.heap.size+1,1,none⟩=some (.slice a2 n2 c2)) (first|exact s2.full|exact s2.drew.full|exact s3.full|exact s4.full|exact (s4.alloc _).full)
    (first
     |(go_at_call 57;refine (uQ LS2 _ s3).mono ?_;rintro e w4 ⟨rfl,s4⟩)
     |(go_at_call 57;refine (uQ LS1 _ s2.drew).mono ?_;rintro e w3 ⟨rfl,s3⟩)
     |(go_at_call 56;refine (uQ CC _).mono ?_;rintro e w5 ⟨rfl,rfl⟩)
     |(go_at_call 58;refine (uQ CF _ s4.bel).mono ?_;rintro e w6 ⟨rfl,rfl⟩)
     |(go_at_call 60;refine (uQ SC _).mono ?_;rintro e w7 ⟨rfl,rfl⟩)
     |(go_at_call 55;refine (uQ OC _).mono ?_;rintro e w8 ⟨rfl,rfl⟩))
   go_wp2
   go_ret2
   exact ⟨rfl,(s4.alloc _).bel,(s4.alloc _).gr⟩
  ·have e2:chkM k2 s2=20:=if_neg m2
   rw[if_neg (fun h=>m2 h.2),if_neg (fun h=>m2 h.2)]
   rw[e1]at CK1
   rw[e2]at CK2
   clear LP1 LP2 e1 e2 m1 m2 CF SC ok1 ok2
   generalize s1.length=n1 at *
   generalize s2.length=n2 at *
   go_enter Tryz.func30,Tryz.ntmps30
   go_wp2_with fail
   generalize ((w.alloc (.cells #[.string k1, .slice a1 n1 c1] 37)).alloc (.cells #[.string k2, .slice a2 n2 c2] 37))=W0 at *
   have f0:=s0.full.2
   refine (uQ CK1 W0 s0.bel).mono ?_
   rintro e w1 ⟨rfl,rfl⟩
   have s1:=s0.alloc (.cells #[.string k1, .slice a1 n1 c1] 37)
   generalize (W0.alloc (.cells #[.string k1, .slice a1 n1 c1] 37))=W1 at *
   clear f0 s0
   have f1:=s1.full.2
   go_wp2_with fail
   refine (uQ CK2 W1 s1.bel).mono ?_
   rintro e w2 ⟨rfl,rfl⟩
   go_wp2
   go_ret2
   exact ⟨rfl,(s1.alloc _).bel,(s1.alloc _).gr⟩
 ·have e1:chkM k1 s1=20:=if_neg m1
  rw[if_neg (fun h=>m1 h.1),if_neg (fun h=>m1 h.1)]
  rw[e1]at CK1
  clear LP1 LP2 e1 m1 CF SC ok1 ok2 CK2
  generalize s1.length=n1 at *
  generalize s2.length=n2 at *
  go_enter Tryz.func30,Tryz.ntmps30
  go_wp2_with fail
  generalize ((w.alloc (.cells #[.string k1, .slice a1 n1 c1] 37)).alloc (.cells #[.string k2, .slice a2 n2 c2] 37))=W0 at *
  have f0:=s0.full.2
  refine (uQ CK1 W0 s0.bel).mono ?_
  rintro e w1 ⟨rfl,rfl⟩
  go_wp2
  go_ret2
  exact ⟨rfl,(s0.alloc _).bel,(s0.alloc _).gr⟩
open Go.RowKit Go.Shelf
theorem q5Q (k1:ByteArray)(a1:Option Addr)(c1:Nat)(s1:List (List Int))(k2:ByteArray)(a2:Option Addr)(c2:Nat)(s2:List (List Int))(w:World)(ok1:MtOk k1 s1)(ok2:MtOk k2 s2)(h1: ∀W,Kp [] w W->StagesAt W a1 s1)(h2: ∀W,Kp [] w W->StagesAt W a2 s2):
  Calls Tryz.prog 15 #[.agg #[.string k1, .slice a1 s1.length c1], .agg #[.string k2, .slice a2 s2.length c2]] w fun e w'=>e= .returned (.int .i64 (cmpV k1 s1 k2 s2))/\Kp [] w w'/\ ∃q os,w'=Go.Sort.grow (w.drewN q) os:=by
 have ka:=Kp.alloc w (.cells #[.string k1, .slice a1 s1.length c1] 37)
 have pa:=CBox.new w #[.string k1, .slice a1 s1.length c1] 37
 have hza:(w.alloc (.cells #[.string k1, .slice a1 s1.length c1] 37)).heap.size=w.heap.size+1:=by simp
 have kb:=Kp.alloc (w.alloc (.cells #[.string k1, .slice a1 s1.length c1] 37)) (.cells #[.string k2, .slice a2 s2.length c2] 37)
 have pb:=CBox.new (w.alloc (.cells #[.string k1, .slice a1 s1.length c1] 37)) #[.string k2, .slice a2 s2.length c2] 37
 rw[hza]at pb
 have pa2:=pa.kp kb (by simp)
 have x0:=pa2.cell (i:=0) (v:= .string k1) rfl
 have x1:=pa2.cell (i:=1) (v:= .slice a1 s1.length c1) rfl
 have y0:=pb.cell (i:=0) (v:= .string k2) rfl
 have y1:=pb.cell (i:=1) (v:= .slice a2 s2.length c2) rfl
 have kab:=ka.trans kb (by simp)
 have CM:=hZq (q5z k1 a1 c1 s1 k2 a2 c2 s2 _ ok1 ok2 (h1 _ kab) (h2 _ kab))
 have HK:=hZq kab
 have HG:=hZq (q17 (q17 (q3Y w) (.cells #[.string k1, .slice a1 s1.length c1] 37)) (.cells #[.string k2, .slice a2 s2.length c2] 37))
 generalize s1.length=n1 at *
 generalize s2.length=n2 at *
 generalize cmpV k1 s1 k2 s2=V at *
 generalize cmpE k1 s1 k2 s2=E at *
 clear ka pa hza kb pb pa2 kab h1 h2 ok1 ok2
 go_enter Tryz.func15,Tryz.ntmps15
 go_wp2_with fail
 refine (uQ CM).mono ?_
 rintro e w2 ⟨rfl,hb,hg⟩
 have HKF:=hZq ((uQ HK).trans (Kp.ofBelow hb) (by simp))
 have HGF:=hZq (q6P (uQ HG) hg)
 clear CM hb HK HG hg
 go_wp2
 go_ret
 exact ⟨rfl,uQ HKF,uQ HGF⟩
open Go.RowKit
theorem cM_pre:Pre fun x y:ByteArray × List (List Int)=>cM x.1 x.2 y.1 y.2:=
 (pre_int.on fun x:ByteArray × List (List Int)=>q1b x.2).or (((q3H (q3H pre_int)).on fun x:ByteArray × List (List Int)=>x.2).or (pre_bytes.on fun x:ByteArray × List (List Int)=>x.1.data.toList))
theorem q6e (a b:Int):orI a b=0↔a=0/\b=0:=by unfold orI;split <;> omega
theorem qdm {a b:ByteArray}(h:a.data.toList=b.data.toList):a=b:=ByteArray.ext (Array.ext' h)
theorem qc (k1:ByteArray)(s1:List (List Int))(k2:ByteArray)(s2:List (List Int)):cM k1 s1 k2 s2=0↔k1=k2/\s1=s2:=by
 unfold cM
 rw[q6e,q6e,q3S,q2h (q2h q3S),q2T]
 exact ⟨fun h=>⟨qdm h.2.2,h.2.1⟩,fun h=>⟨by rw[h.2],h.2,by rw[h.1]⟩⟩
open Go.Sort
theorem q7I: ∀(l:List Nat) (a:Int),l.Pairwise (· < ·)->(∀q∈l,a<(q:Int)/\q<=1073741824)->q1t a (l.map Int.ofNat)=true
 |[],_,_,_=>rfl
 |q::r,a,hp,h=>by
  rw[List.pairwise_cons]at hp
  have h1:=h q (by simp)
  rw[List.map_cons,q1t,if_neg (by show ¬ ((q:Int)<=a\/1073741824<(q:Int));omega)]
  exact q7I r _ hp.2 (fun x hx=>⟨by show (q:Int)<x;have:=hp.1 x hx;omega,(h x (by simp[hx])).2⟩)
theorem q9o (m:List Nat):q1L (m.map Int.ofNat)=(Mt.lst m:Int):=by
 rcases List.eq_nil_or_concat m with e|⟨l,x,rfl⟩
 ·subst e;rfl
 ·rw[List.concat_eq_append,Mt.lst_snoc]
  unfold q1L
  simp
theorem q56: ∀(T:List (List Nat)) (left a:Int),(∀l∈T,l≠[])->T.flatten.Pairwise (· < ·)->(∀q∈T.flatten,a<(q:Int)/\q<=1073741824)->(T.flatten.length:Int)<=left->q0x left a (Mt.toZ T)=true
 |[],_,_,_,_,_,_=>rfl
 |l::r,left,a,hn,hp,hq,hl=>by
  have hl0:=hn l (by simp)
  have hpos:=List.length_pos_iff.2 hl0
  rw[List.flatten_cons]at hp hq hl
  rw[List.pairwise_append]at hp
  rw[List.length_append]at hl
  have e:Mt.toZ (l::r)=l.map Int.ofNat::Mt.toZ r:=rfl
  have hr:=q7I l a hp.1 (fun q h=>hq q (by simp[h]))
  rw[e,q0x,List.length_map,if_neg (by rw[hr];rintro (h|h|h) <;> first|omega|cases h),q9o]
  refine q56 r _ _ (fun l h=>hn l (by simp[h])) hp.2.1 (fun q h=>⟨?_,(hq q (by simp only[List.mem_append];exact Or.inr h)).2⟩) (by omega)
  have:=hp.2.2 _ (Mt.lst_mem hl0) q h
  omega
theorem q7x: ∀(l:List Nat) (lo hi:Nat),l.Pairwise (· < ·)->(∀q∈l,lo<=q/\q<=hi)->l.length<=hi+1-lo
 |[],_,_,_,_=>Nat.zero_le _
 |x::r,lo,hi,hp,h=>by
  rw[List.pairwise_cons]at hp
  have h1:=h x (by simp)
  have:=q7x r (x+1) hi hp.2 (fun q hq=>⟨hp.1 q hq,(h q (by simp[hq])).2⟩)
  rw[List.length_cons]
  omega
theorem q4Q {T:List (List Nat)}(h0:T≠[])(hn: ∀l∈T,l≠[])(hp:T.flatten.Pairwise (· < ·)): ∀q∈T.flatten,Mt.fstT T<=q/\q<=Mt.endT T:=by
 intro q hq
 constructor
 ·cases T with
  |nil=>exact absurd rfl h0
  |cons l r=>
   cases l with
   |nil=>exact absurd rfl (hn [] (by simp))
   |cons x l=>
    rw[List.flatten_cons,List.cons_append,List.pairwise_cons]at hp
    rw[List.flatten_cons,List.cons_append,List.mem_cons]at hq
    show x<=q
    rcases hq with rfl|hq
    ·exact Nat.le_refl _
    ·exact Nat.le_of_lt (hp.1 q hq)
 ·rcases List.eq_nil_or_concat T with e|⟨A,m,rfl⟩
  ·exact absurd e h0
  ·rw[List.concat_eq_append]at *
   rw[Mt.endT_snoc]
   rw[List.flatten_append,List.pairwise_append]at hp
   rw[List.flatten_append,List.mem_append]at hq
   have e:[m].flatten=m:=by simp
   rw[e]at hp hq
   rcases hq with hq|hq
   ·exact Nat.le_of_lt (hp.2.2 q hq _ (Mt.lst_mem (hn m (by simp))))
   ·exact Mt.le_lst hp.2.1 q hq
theorem q7s {P:Mt.Pm}{wi:Nat}(hwi:1<=wi)(hw:wi<=256)(hN:1<=P.N)(h8:P.N<=8)(hlen:P.len<=4096){k:ByteArray}(hk:q0q k=true){T:List (List Nat)}(h:T∈Mt.fnd P wi):mayM k (Mt.toZ T)=true:=by
 obtain ⟨hr,hl,he⟩:=(Mt.fnd_iff hwi hN T).1 h
 have h0:T≠[]:=fun e=>by rw[e]at hl;simp at hl;omega
 have ha:=hr.asg h0
 have hfe:=q4Q h0 hr.full ha.inc
 have hc:=q7x T.flatten (Mt.fstT T) (Mt.endT T) ha.inc hfe
 unfold mayM
 rw[hk,q0I,decide_eq_true (by omega),decide_eq_true (by omega)]
 refine q56 T 256 (-1) hr.full ha.inc (fun q hq=>⟨by omega,?_⟩) (by omega)
 have:=ha.low q hq
 omega
theorem q7U {T U:List (List Nat)}(h:Mt.toZ T=Mt.toZ U):T=U:=by
 unfold Mt.toZ at h
 exact (List.map_inj_right (fun a b e=>(List.map_inj_right (fun x y e=>Int.ofNat.inj e)).1 e)).1 h
def cT (T U:List (List Nat)):Int:=cM ByteArray.empty (Mt.toZ T) ByteArray.empty (Mt.toZ U)
theorem qdo (k:ByteArray)(s t:List (List Int)):cM k s k t=cM ByteArray.empty s ByteArray.empty t:=by
 unfold cM
 rw[(q2T k.data.toList k.data.toList).2 rfl,(q2T ByteArray.empty.data.toList ByteArray.empty.data.toList).2 rfl]
theorem cT_pre:Pre cT:=(cM_pre.on fun T:List (List Nat)=>(ByteArray.empty,Mt.toZ T))
theorem q4q (T U:List (List Nat)):cT T U=0↔T=U:=by
 unfold cT
 rw[qc]
 exact ⟨fun h=>q7U h.2,fun h=>⟨rfl,by rw[h]⟩⟩
theorem qdf {α:Type}{c:α->α->Int}(h:Pre c):SWO (Go.Proofs.ltOf c) where
 irrefl x:=by
  have:=h.anti x x
  unfold Go.Proofs.ltOf
  exact decide_eq_false (by omega)
 trans x y z h1 h2:=by
  unfold Go.Proofs.ltOf at *
  rw[decide_eq_true_eq]at *
  have t:=h.trans x y z (by omega) (by omega)
  have:c x z≠0:=fun e=>by have:=(t.2 e).1;omega
  omega
 ntrans x y z h1 h2:=by
  unfold Go.Proofs.ltOf at *
  rw[decide_eq_false_iff_not]at *
  have a1:=h.anti x y
  have a2:=h.anti y z
  have a3:=h.anti x z
  have t:=h.trans z y x (by omega) (by omega)
  omega
def Srt (l:List (List (List Nat))):Prop:=l.Pairwise fun a b=>cT a b<0
theorem q4I: ∀{l m:List (List (List Nat))},Srt l->Srt m->l.Perm m->l=m
 |[],m,_,_,hp=>(List.nil_perm.1 hp).symm
 |a::l,m,h1,h2,hp=>by
  cases m with
  |nil=>exact absurd (List.perm_nil.1 hp) (by simp)
  |cons b m=>
   have h1':=List.pairwise_cons.1 h1
   have h2':=List.pairwise_cons.1 h2
   have hb:b∈a::l:=hp.symm.subset (by simp)
   have ha:a∈b::m:=hp.subset (by simp)
   have e:a=b:=by
    rcases List.mem_cons.1 hb with e|hb
    ·exact e.symm
    ·rcases List.mem_cons.1 ha with e|ha
     ·exact e
     ·have x1:=h1'.1 b hb
      have x2:=h2'.1 a ha
      have:=cT_pre.anti a b
      omega
   subst e
   rw[q4I h1'.2 h2'.2 (List.Perm.cons_inv hp)]
def fdS (P:Mt.Pm)(wi:Nat):List (List (List Nat)):=(Mt.fnd P wi).mergeSort fun a b=>decide (cT a b<=0)
theorem q9V {l:List (List (List Nat))}(hn:l.Nodup):Srt (l.mergeSort fun a b=>decide (cT a b<=0)):=by
 have hs:=List.pairwise_mergeSort (le:=fun a b=>decide (cT a b<=0)) (fun a b c h1 h2=>by
  simp only[decide_eq_true_eq]at *
  exact (cT_pre.trans a b c h1 h2).1) (fun a b=>by
  have:=cT_pre.anti a b
  simp only[Bool.or_eq_true,decide_eq_true_eq]
  omega) l
 have hd:(l.mergeSort fun a b=>decide (cT a b<=0)).Nodup:=(List.mergeSort_perm l _).nodup_iff.2 hn
 unfold Srt
 refine List.Pairwise.imp₂ (fun a b h1 h2=>?_) hs hd
 have h1:cT a b<=0:=by simpa using h1
 have h3:cT a b≠0:=fun e=>h2 ((q4q a b).1 e)
 omega
theorem q1V (P:Mt.Pm)(wi:Nat):(fdS P wi).Perm (Mt.fnd P wi):=List.mergeSort_perm _ _
theorem q3n (P:Mt.Pm)(wi:Nat):Srt (fdS P wi):=q9V (Mt.fnd_nodup P wi)
theorem q7p {P:Mt.Pm}{wi:Nat}(hwi:1<=wi)(hN:1<=P.N)(X:List (List Nat)):X∈fdS P wi↔Mt.Rgt P X/\X.length=P.N/\Mt.endT X<Mt.fstT X+wi:=by rw[(q1V P wi).mem_iff,Mt.fnd_iff hwi hN]
theorem q7q (P:Mt.Pm)(wi:Nat):(fdS P wi).length=(Mt.fnd P wi).length:=(q1V P wi).length_eq
theorem q7Q: ∀{l m:List (List (List Nat))},Srt l->Srt m->(∀x,x∈l↔x∈m)->l=m
 |[],m,_,_,hp=>by
  cases m with
  |nil=>rfl
  |cons b m=>exact absurd ((hp b).2 (by simp)) (by simp)
 |a::l,m,h1,h2,hp=>by
  cases m with
  |nil=>exact absurd ((hp a).1 (by simp)) (by simp)
  |cons b m=>
   have h1':=List.pairwise_cons.1 h1
   have h2':=List.pairwise_cons.1 h2
   have hself: ∀x, ¬ cT x x<0:=fun x=>by have:=(q4q x x).2 rfl;omega
   have e:a=b:=by
    rcases List.mem_cons.1 ((hp b).2 (by simp))with e|hb
    ·exact e.symm
    ·rcases List.mem_cons.1 ((hp a).1 (by simp))with e|ha
     ·exact e
     ·have x1:=h1'.1 b hb
      have x2:=h2'.1 a ha
      have:=cT_pre.anti a b
      omega
   subst e
   rw[q7Q h1'.2 h2'.2 (fun x=>?_)]
   constructor
   ·intro hx
    rcases List.mem_cons.1 ((hp x).1 (by simp[hx]))with e|h
    ·subst e;exact absurd (h1'.1 x hx) (hself x)
    ·exact h
   ·intro hx
    rcases List.mem_cons.1 ((hp x).2 (by simp[hx]))with e|h
    ·subst e;exact absurd (h2'.1 x hx) (hself x)
    ·exact h
theorem Srt.filter {l:List (List (List Nat))}(h:Srt l)(f:List (List Nat)->Bool):Srt (l.filter f):=List.Pairwise.filter f h
namespace Mt
structure Sm (P Q:Pm)(c:Nat):Prop where
 N:Q.N=P.N
 mn:Q.many=P.many
 hw:Q.how=P.how
 H: ∀t L q,q<c->(∀x∈L,x<c)->Q.H t L q=P.H t L q
theorem Sm.symm {P Q:Pm}{c:Nat}(h:Sm P Q c):Sm Q P c:=⟨h.N.symm,h.mn.symm,h.hw.symm,fun t L q h1 h2=>(h.H t L q h1 h2).symm⟩
theorem qcN {T:List (List Nat)}{c:Nat}(hn: ∀l∈T,l≠[])(hc: ∀l∈T, ∀q∈l,q<c)(t:Nat): ∀x∈las T t,x<c:=fun x hx=>by
 unfold las at hx
 rw[List.mem_map]at hx
 obtain ⟨l,hl,rfl⟩:=hx
 have hl:=List.mem_of_mem_take hl
 exact hc l hl _ (lst_mem (hn l hl))
theorem Sm.btw {P Q:Pm}{c:Nat}(h:Sm P Q c){T:List (List Nat)}{t p q:Nat}(hl: ∀x∈las T t,x<c)(hq:q<=c):btw Q T t p q=btw P T t p q:=by
 unfold Mt.btw
 rw[h.hw]
 congr 1
 split
 ·have e: ∀r∈List.range' (p+1) (q-(p+1)),(!Q.H t (las T t) r)= !P.H t (las T t) r:=fun r hr=>by
   rw[List.mem_range'_1]at hr
   rw[h.H t _ r (by omega) hl]
  rw[Bool.eq_iff_iff,List.all_eq_true,List.all_eq_true]
  exact ⟨fun h1 r hr=>by rw[<-e r hr];exact h1 r hr,fun h1 r hr=>by rw[e r hr];exact h1 r hr⟩
 ·rfl
theorem Sm.rgt {P Q:Pm}{c:Nat}(h:Sm P Q c){T:List (List Nat)}(hr:Rgt P T)(hc: ∀l∈T, ∀q∈l,q<c)(hlen:c<=Q.len):Rgt Q T:=by
 refine ⟨by rw[h.N];exact hr.le,fun l hl q hq=>Nat.lt_of_lt_of_le (hc l hl q hq) hlen,fun A l B e=>?_⟩
 have o:=hr.ok A l B e
 have hA: ∀x∈A,x∈T:=fun x hx=>by rw[e];simp[hx]
 have hl:l∈T:=by rw[e];simp
 have hlas:=qcN (T:=A) (c:=c) (fun x hx=>hr.full x (hA x hx)) (fun x hx=>hc x (hA x hx)) A.length
 refine ⟨o.ne,by rw[h.mn];exact o.one,fun q hq=>(h.H _ _ q (hc l hl q hq) hlas).trans (o.met q hq),fun B' p q C e2=>?_,fun h0 q C e2=>?_⟩
 ·have g:=o.gap B' p q C e2
  have hq:=hc l hl q (by rw[e2];simp)
  exact ⟨g.1,(h.btw hlas (by omega)).trans g.2⟩
 ·have g:=o.fst h0 q C e2
  have hq:=hc l hl q (by rw[e2];simp)
  exact ⟨g.1,(h.btw hlas (by omega)).trans g.2⟩
theorem low_end {P:Pm}{T:List (List Nat)}(h:Rgt P T)(h0:T≠[]){c:Nat}(hc:endT T<c): ∀l∈T, ∀q∈l,q<c:=fun l hl q hq=>by
 have:=(q4Q h0 h.full (h.asg h0).inc q (List.mem_flatten.2 ⟨l,hl,hq⟩)).2
 omega
theorem end_low {P:Pm}{T:List (List Nat)}(h:Rgt P T)(h0:T≠[]):endT T<P.len:=by
 rcases List.eq_nil_or_concat T with e|⟨A,m,rfl⟩
 ·exact absurd e h0
 ·rw[List.concat_eq_append]at *
  rw[endT_snoc]
  exact h.low m (by simp) _ (lst_mem (h.full m (by simp)))
end Mt
theorem q3b {P:Mt.Pm}(hN:1<=P.N){X:List (List Nat)}(h:X.length=P.N):X≠[]:=fun e=>by rw[e]at h;simp at h;omega
theorem qaw {P Q:Mt.Pm}{wi c:Nat}(h:Mt.Sm P Q c)(hQ:Q.len=c)(hP:c<=P.len)(hwi:1<=wi)(hN:1<=P.N):fdS Q wi=(fdS P wi).filter fun T=>decide (Mt.endT T<c):=by
 refine q7Q (q3n Q wi) ((q3n P wi).filter _) (fun X=>?_)
 rw[List.mem_filter,q7p hwi (by rw[h.N];exact hN),q7p hwi hN,decide_eq_true_eq,h.N]
 constructor
 ·rintro ⟨h1,h2,h3⟩
  have h0:=q3b hN h2
  have he:=Mt.end_low h1 h0
  rw[hQ]at he
  exact ⟨⟨h.symm.rgt h1 (Mt.low_end h1 h0 he) hP,h2,h3⟩,he⟩
 ·rintro ⟨⟨h1,h2,h3⟩,he⟩
  have h0:=q3b hN h2
  exact ⟨h.rgt h1 (Mt.low_end h1 h0 he) (by rw[hQ];exact Nat.le_refl _),h2,h3⟩
open Go.RowKit Go.Shelf
theorem q8Y {w:World}{b off:Nat}{l:List Ev}(h:EvsAt w (some ⟨b,off,none⟩) l): ∀j u,(l.flatMap evW)[j]?=some u->w.cell? ((⟨b,off,none⟩:Addr).add j)=some u:=by
 intro j u hj
 have hlt:j<l.length * 7:=by
  have:=(List.getElem?_eq_some_iff.1 hj).1
  rw[q1W evW 7 q1h]at this
  exact this
 have hi:j / 7<l.length:=by omega
 have e:j / 7 * 7+j % 7=j:=by omega
 have hf:=q3o evW 7 q1h l (j / 7) (j % 7) hi (by omega)
 rw[e,hj]at hf
 obtain ⟨b',off',e2,_,hc⟩:=h (fun e=>by rw[e]at hi;simp at hi)
 cases e2
 have:=hc (j / 7) l[j / 7] (List.getElem?_eq_getElem hi) (j % 7) u (by
  rw[hf]
  unfold evW Ev.c
  simp)
 rw[Go.WideShapes.add_plain]
 rw[Nat.add_assoc,e]at this
 exact this
theorem qc8 (l:List Ev): ∀u∈l.flatMap evW,u.oneCell'=true:=fun u hu=>by
 rw[List.mem_flatMap]at hu
 obtain ⟨e,_,hu⟩:=hu
 unfold evW at hu
 simp only[List.mem_cons,List.not_mem_nil,or_false]at hu
 rcases hu with rfl|rfl|rfl|rfl|rfl|rfl|rfl <;> rfl
theorem OwnsX.empty (w:World):OwnsX w.heap.size (w.alloc (.cells #[] 29)) (.slice (some ⟨w.heap.size,0,none⟩) 0 0) []:=
 ⟨rfl,Or.inr ⟨w.heap.size,0,#[],rfl,Nat.le_refl _,CBox.new w _ _,Nat.le_refl _,by unfold maxLen;omega,rfl,rfl⟩⟩
theorem q6r {w:World}{ad:Option Addr}{c:Nat}{l:List Ev}(h:EvsAt w ad l)(ha:ad=none->c=0)(hl:l.length<=1000000)(ty:TypeId):
  ∃g cap w',(Builtin.append_ #[25,25] ty #[.slice (some ⟨w.heap.size,0,none⟩) 0 0, .slice ad l.length c]).run Tryz.prog (w.alloc (.cells #[] 29))= .ok (.slice (some ⟨g,0,none⟩) l.length cap) w'/\OwnsX w.heap.size w' (.slice (some ⟨g,0,none⟩) l.length cap) l/\Kp [] w w':=by
 obtain ⟨i0,hi,hz0,hz1,hz2⟩:=info_parts q3B
 have ho:=OwnsX.empty w
 have k0:=Kp.alloc w (.cells #[] 29)
 have hz:(w.alloc (.cells #[] 29)).heap.size=w.heap.size+1:=by simp
 have h':=h.kp k0 (by simp)
 have ho0:(w.alloc (.cells #[] 29)).ownsRow 0 29 7 (.slice (some ⟨w.heap.size,0,none⟩) 0 0) 0 []:=by
  obtain ⟨h1,⟨e,_⟩|⟨g',c',cur,e,_,r⟩⟩:=ho
  ·cases e
  ·exact ⟨h1,Or.inr ⟨g',c',cur,e,Nat.zero_le _,r⟩⟩
 by_cases h0:l=[]
 ·subst h0
  cases ad with
  |none=>
   obtain rfl:=ha rfl
   exact ⟨w.heap.size,0,_,by simpa using run_append_owned_none (P:=Tryz.prog) (w:=w.alloc (.cells #[] 29)) w.heap.size _ ty 29 i0 7 Tryz.underlying25 hi _ _ _ ho,ho,k0⟩
  |some a=>
   have:=run_append_room_cells (P:=Tryz.prog) (w:=w.alloc (.cells #[] 29)) 25 ty 29 i0 Tryz.underlying25 hi w.heap.size 0 0 0 a 0 c [] (by simp) (fun j u hj=>by simp at hj) (fun u hu=>by cases hu) (by omega) (fun j hj=>absurd hj (by simp)) (fun j hj=>absurd hj (by simp))
   exact ⟨w.heap.size,0,_,by simpa [World.setCells] using this,ho,k0⟩
 ·obtain ⟨b,off,rfl,_⟩:=id (h h0)
  obtain ⟨g,cap,w',hr,r1,r2,r3⟩:=q74 (P:=Tryz.prog) (w:=w.alloc (.cells #[] 29)) 25 ty 29 i0 _ 7 80 Tryz.underlying25 hi hz0 hz1 hz2 rfl (by decide) ho0 (some ⟨b,off,none⟩) l.length c (l.flatMap evW) (q1W evW 7 q1h l) (fun e=>by cases e) (fun a e=>by cases e;rfl) (fun a e j u hj=>by
   cases e
   exact q8Y h' j u hj) (qc8 l) (by unfold maxLen;omega) (by omega)
  rw[Nat.zero_add]at hr r1
  have hg:w.heap.size<=g:=by rcases r3 with e|e <;> omega
  refine ⟨g,cap,w',hr,?_,k0.trans (Kp.of r2) (fun y hy=>Or.inr (by simp at hy;omega))⟩
  rw[List.nil_append]at r1
  obtain ⟨h1,⟨e,_⟩|⟨g',c',cur,e,_,r⟩⟩:=r1
  ·cases e
  ·cases e
   exact ⟨h1,Or.inr ⟨_,_,cur,rfl,hg,r⟩⟩
theorem qcZ {w:World}{B e sz g n cap:Nat}{xs:List Value}(h:w.ownsRow B e sz (.slice (some ⟨g,0,none⟩) n cap) n xs)(i:Nat)(v:Value):(w.setCell ⟨g,i,none⟩ v).ownsRow B e sz (.slice (some ⟨g,0,none⟩) n cap) n (xs.set i v):=by
 obtain ⟨h1,⟨e2,_⟩|⟨g',c',cur,e2,h3,h4,h5,h6,h7,h8⟩⟩:=h
 ·cases e2
 ·cases e2
  refine ⟨by rw[List.length_set];exact h1,Or.inr ⟨g,cap,cur.setIfInBounds i v,rfl,h3,CBox.set (show CBox g cur e w from h4) i v,h5,h6,by rw[Array.size_setIfInBounds];exact h7,?_⟩⟩
  rw[Array.toList_setIfInBounds,List.take_set,h8]
def q0M (k:ByteArray)(e:Ev):Ev:={ e with k:=k }
theorem q7n (k:ByteArray): ∀(l:List Ev) (i:Nat) (h:i<l.length),(l.flatMap evW).set (i * 7) (.string k)=(l.set i (q0M k l[i])).flatMap evW
 |e::r,0,_=>by simp[evW,q0M]
 |e::r,i+1,h=>by
  have ih:=q7n k r i (by simpa using h)
  rw[List.flatMap_cons,List.set_append_right _ _ (by rw[q1h];omega),q1h,show (i+1) * 7-7=i * 7 by omega,ih]
  rfl
def evJ (k:ByteArray)(l:List Ev)(j:Nat):List Ev:=(l.take j).map (q0M k)++l.drop j
theorem q1R (k:ByteArray)(l:List Ev)(j:Nat):(evJ k l j).length=l.length:=by
 unfold evJ
 rw[List.length_append,List.length_map,List.length_take,List.length_drop]
 omega
theorem qar (k:ByteArray)(l:List Ev)(j:Nat)(h:j<l.length):evJ k l (j+1)=(evJ k l j).set j (q0M k ((evJ k l j)[j]'(by rw[q1R];exact h))):=by
 have hl:((l.take j).map (q0M k)).length=j:=by rw[List.length_map,List.length_take];omega
 have e1:(evJ k l j)[j]'(by rw[q1R];exact h)=l[j]:=by
  unfold evJ
  rw[List.getElem_append_right (by rw[hl];exact Nat.le_refl _),List.getElem_drop]
  congr 1
  omega
 rw[e1]
 unfold evJ
 rw[List.set_append_right _ _ (by rw[hl];exact Nat.le_refl _),hl,Nat.sub_self,List.drop_eq_getElem_cons h,List.set_cons_zero,List.take_succ_eq_append_getElem h,List.map_append,List.append_assoc]
 rfl
theorem qc7 (k:ByteArray)(l:List Ev):evJ k l l.length=l.map (q0M k):=by
 unfold evJ
 rw[List.take_length,List.drop_length,List.append_nil]
theorem qas (k:ByteArray)(l:List Ev):evJ k l 0=l:=rfl
theorem OwnsX.key {B g n cap:Nat}{w:World}{k:ByteArray}{l:List Ev}{j:Nat}(h:OwnsX B w (.slice (some ⟨g,0,none⟩) n cap) (evJ k l j))(hn:n=l.length)(hj:j<l.length):OwnsX B (w.setCell ⟨g,j * 7,none⟩ (.string k)) (.slice (some ⟨g,0,none⟩) n cap) (evJ k l (j+1)):=by
 subst hn
 unfold OwnsX at *
 rw[q1R]at *
 rw[qar k l j hj, <-q7n]
 exact qcZ h (j * 7) (.string k)
open Go.RowKit Go.Shelf
def mtE (key:ByteArray)(x:Cp):List Value:=[.string key,x.v]
theorem q15 (key:ByteArray)(x:Cp):(mtE key x).length=2:=rfl
structure FdC where
 L:Nat
 D:Nat
 r:Loop
 kb:Nat
 rb:Nat
 eb:Nat
 ob:Nat
 key:ByteArray
structure FdT (c:FdC)(n0:Nat)(xs:List Cp)(w:World):Prop where
 lo:w.heap[c.L]?=some (.loop c.r)
 dm:w.heap[c.D]?=some (.deferred (some []))
 bk:CBox c.kb #[.string c.key] 9 w
 br:CBox c.rb #[.slice none 0 0] 31 w
 be:CBox c.eb #[.int .i64 0] 32 w
 ow: ∃v,CBox c.ob #[v] 31 w/\w.ownsRow n0 37 2 v xs.length (xs.flatMap (mtE c.key))
 ln:xs.length<=4096
 sz:n0<=w.heap.size
 ne:c.rb≠c.ob
structure FdF (c:FdC)(xs:List Cp)(w:World):Prop where
 lo:w.heap[c.L]?=some (.loop { c.r with state:= .done,pending:=some .ret })
 dm:w.heap[c.D]?=some (.deferred (some []))
 br:CBox c.rb #[.slice none 0 0] 31 w
 be:CBox c.eb #[.int .i64 140] 32 w
 ln:xs.length=4097
def FdJ (c:FdC)(n0:Nat)(go:Bool)(xs:List Cp)(w:World):Prop:=(go=true/\FdT c n0 xs w)\/(go=false/\FdF c xs w)
theorem q6f {w:World}{b:Nat}{o:Obj}(h:Ow w b)(ho:w.heap[b]?=some o):(∃es c,o= .map es c)\/ ∃cs t,o= .cells cs t (0,0)/\t∉fgT:=by
 rcases h with ⟨es,c,h⟩|⟨cs,t,h,h2⟩
 ·rw[ho]at h
  cases h
  exact Or.inl ⟨es,c,rfl⟩
 ·unfold CBox at h
  rw[ho]at h
  cases h
  exact Or.inr ⟨cs,t,rfl,h2⟩
theorem CBox.fg {F:List Nat}{w w':World}{b:Nat}{cs:Array Value}{t:TypeId}(h:CBox b cs t w)(hk:Kp F w w')(hF: ∀b∈F,Ow w b)(ht:t∈fgT):CBox b cs t w':=h.kp hk (fun hm=>by
 rcases q6f (hF b hm) h with ⟨_,_,e⟩|⟨_,_,e,hn⟩
 ·cases e
 ·cases e
  exact hn ht)
theorem q42 {F:List Nat}{w w':World}{b:Nat}{o:Obj}(h:w.heap[b]?=some o)(hk:Kp F w w')(hF: ∀b∈F,Ow w b)(ho: ∀cs t f,o≠ .cells cs t f)(hm: ∀es c,o≠ .map es c):w'.heap[b]?=some o:=
 (hk.block b (Array.getElem?_eq_some_iff.1 h).1 (fun hb=>by
  rcases q6f (hF b hb) h with ⟨es,c,e⟩|⟨cs,t,e,_⟩
  ·exact hm es c e
  ·exact ho cs t _ e)).trans h
theorem FdJ.keep {c:FdC}{n0:Nat}{go:Bool}{xs:List Cp}{w w':World}{F:List Nat}(h:FdJ c n0 go xs w)(hk:Kp F w w')(hF: ∀b∈F,Ow w b):FdJ c n0 go xs w':=by
 rcases h with ⟨rfl,h⟩|⟨rfl,h⟩
 ·refine Or.inl ⟨rfl,q42 h.lo hk hF (by simp) (by simp),q42 h.dm hk hF (by simp) (by simp),h.bk.fg hk hF (by decide),h.br.fg hk hF (by decide),h.be.fg hk hF (by decide),?_,h.ln,Nat.le_trans h.sz hk.size,h.ne⟩
  obtain ⟨v,hb,hr⟩:=h.ow
  refine ⟨v,hb.fg hk hF (by decide),q02 hr hk (fun g hg hm=>?_)⟩
  obtain ⟨cs,hc⟩:=q08 hr hg
  rcases q6f (hF g hm) hc with ⟨_,_,e⟩|⟨_,_,e,hn⟩
  ·cases e
  ·cases e
   exact hn (by decide)
 ·exact Or.inr ⟨rfl,q42 h.lo hk hF (by simp) (by simp),q42 h.dm hk hF (by simp) (by simp),h.br.fg hk hF (by decide),h.be.fg hk hF (by decide),h.ln⟩
theorem FdJ.len {c:FdC}{n0:Nat}{go:Bool}{xs:List Cp}{w:World}(h:FdJ c n0 go xs w):xs.length<=100000:=by
 rcases h with ⟨_,h⟩|⟨_,h⟩
 ·have:=h.ln;omega
 ·have:=h.ln;omega
theorem q7z:(Tryz.prog.info? 37).map (fun i=>(i.zero,i.size,i.bytes))=some (some (.agg #[.string ⟨#[]⟩, .slice none 0 0]),2,40):=by kernel_rfl
theorem FdT.push {c:FdC}{n0:Nat}{xs:List Cp}{w W:World}{x:Cp}(h:FdT c n0 xs w)(hk:Kp [c.L] w W)(hl:W.heap[c.L]?=some (.loop { c.r with state:= .busy })){g:Nat}(hg:CBox g #[.string c.key,x.v] 37 W)(hlt:xs.length<4096){v:Value}(hv:CBox c.ob #[v] 31 w):
  ∃g' cap w6,(Builtin.append_ #[31,31] 31 #[v, .slice (some ⟨g,0,none⟩) 1 1]).run Tryz.prog W= .ok (.slice (some ⟨g',0,none⟩) (xs.length+1) cap) w6/\CBox c.ob #[v] 31 w6/\CBox c.kb #[.string c.key] 9 w6/\
   (w6.setCell ⟨c.ob,0,none⟩ (.slice (some ⟨g',0,none⟩) (xs.length+1) cap)).heap[c.L]?=some (.loop { c.r with state:= .busy })/\
   Kp (c.L::c.ob::v.ownBlock.toList) w (w6.setCell ⟨c.ob,0,none⟩ (.slice (some ⟨g',0,none⟩) (xs.length+1) cap))/\(∀b∈v.ownBlock,Yw w b/\n0<=b)/\
   ∀w7,w7=(w6.setCell ⟨c.ob,0,none⟩ (.slice (some ⟨g',0,none⟩) (xs.length+1) cap)).putObj c.L (.loop { c.r with state:= .ready,pending:=none })->c.r.state= .ready->c.r.pending=none->FdT c n0 (xs++[x]) w7:=by
 obtain ⟨i0,hi,hz0,hz1,hz2⟩:=info_parts q7z
 obtain ⟨v',hv',hrow⟩:=h.ow
 have e:v'=v:=by
  unfold CBox at hv hv'
  rw[hv]at hv'
  cases hv'
  rfl
 subst e
 have hnl: ∀{b:Nat} {cs:Array Value} {t:TypeId},CBox b cs t w->b≠c.L:=fun hb e=>by
  subst e
  unfold CBox at hb
  rw[h.lo]at hb
  cases hb
 have hkv: ∀{b:Nat} {cs:Array Value} {t:TypeId},CBox b cs t w->CBox b cs t W:=fun hb=>hb.kp hk (by simpa using hnl hb)
 have hrW:=q02 hrow hk (fun b hb hm=>by
  obtain ⟨cs,hc⟩:=q08 hrow hb
  exact hnl hc (by simpa using hm))
 obtain ⟨g',cap,w6,hrun,r1,r2,r3,_⟩:=run_append_lies (P:=Tryz.prog) (w:=W) 31 31 n0 37 i0 _ 2 40 Tryz.underlying31 hi hz0 hz1 hz2 rfl (by decide) v' xs.length (xs.flatMap (mtE c.key)) hrW ⟨g,0,none⟩ 1 1 (mtE c.key x) rfl (fun j u hj=>by
  rw[Go.WideShapes.add_plain,Nat.zero_add]
  refine hg.cell ?_
  unfold mtE at hj
  simpa using hj) (fun u hu=>by
   unfold mtE Cp.v at hu
   simp only[List.mem_cons,List.not_mem_nil,or_false]at hu
   rcases hu with rfl|rfl <;> rfl) (by omega) (by unfold maxLen;omega) (by omega) (Nat.le_trans h.sz hk.size) _ rfl
 have k6:=Kp.of r2
 have ks:=Kp.set w6 c.ob 0 (.slice (some ⟨g',0,none⟩) (xs.length+1) cap)
 have hnr: ∀{b:Nat} {cs:Array Value} {t:TypeId},CBox b cs t w->t≠37->b∉v'.ownBlock.toList:=fun hb ht hm=>q0d hrow hb ht (by simpa using hm)
 have hno: ∀{b:Nat} {cs:Array Value} {t:TypeId},CBox b cs t w->t≠31->b≠c.ob:=fun hb ht=>q0p hb hv' ht
 have hb6: ∀{b:Nat} {cs:Array Value} {t:TypeId},CBox b cs t w->t≠37->CBox b cs t w6:=fun hb ht=>(hkv hb).kp k6 (hnr hb ht)
 have hlo: ∀{b:Nat} {o:Obj},W.heap[b]?=some o->(∀cs t f,o≠ .cells cs t f)->(w6.setCell ⟨c.ob,0,none⟩ (.slice (some ⟨g',0,none⟩) (xs.length+1) cap)).heap[b]?=some o:=fun {b o} hb ho=>by
  have h1:w6.heap[b]?=some o:=(k6.block b (Array.getElem?_eq_some_iff.1 hb).1 (fun hm=>by
   obtain ⟨cs,hc⟩:=q08 hrW (by simpa using hm)
   unfold CBox at hc
   rw[hb]at hc
   cases hc
   exact ho _ _ _ rfl)).trans hb
  refine (ks.block b (Array.getElem?_eq_some_iff.1 h1).1 (fun hm=>?_)).trans h1
  rw[List.mem_singleton]at hm
  have:=hb6 hv' (by decide)
  unfold CBox at this
  rw[<-hm,h1]at this
  cases this
  exact ho _ _ _ rfl
 have hdW:W.heap[c.D]?=some (.deferred (some [])):=(hk.block _ (Array.getElem?_eq_some_iff.1 h.dm).1 (fun hm=>by
  rw[List.mem_singleton]at hm
  have:=h.dm
  rw[hm,h.lo]at this
  cases this)).trans h.dm
 have hL7:=hlo hl (by simp)
 refine ⟨g',cap,w6,hrun,hb6 hv' (by decide),hb6 h.bk (by decide),hL7,((hk.mono (by simp)).trans k6 (fun b hb=>Or.inl (by simp[hb]))).trans ks (by simp),fun b hb=>?_,fun w7 e7 hst hpn=>?_⟩
 ·have hb:v'.ownBlock=some b:=by simpa using hb
  obtain ⟨cs,hc⟩:=q08 hrow hb
  exact ⟨Or.inr ⟨cs,_,hc,by simp⟩,(hrow.lt b hb).1⟩
 ·have kp:Kp [c.L] (w6.setCell ⟨c.ob,0,none⟩ (.slice (some ⟨g',0,none⟩) (xs.length+1) cap)) w7:=by
   rw[e7]
   exact ⟨rfl,rfl,rfl,by simp,fun k _ hn=>World.putObj_heap_other (by simpa using hn)⟩
  have c7: ∀{b:Nat} {cs:Array Value} {t:TypeId},CBox b cs t w->t≠37->b≠c.ob->CBox b cs t w7:=fun hb ht hn=>((hb6 hb ht).kp ks (by simpa using hn)).kp kp (by simpa using hnl hb)
  have hLr:({ c.r with state:= .ready,pending:=none }:Loop)=c.r:=by
   rw[<-hst, <-hpn]
  have hlt7:c.L<(w6.setCell ⟨c.ob,0,none⟩ (.slice (some ⟨g',0,none⟩) (xs.length+1) cap)).heap.size:=(Array.getElem?_eq_some_iff.1 hL7).1
  have ob7:=((hb6 hv' (by decide)).set 0 (.slice (some ⟨g',0,none⟩) (xs.length+1) cap)).kp kp (by simpa using hnl hv')
  have hne:=h.ne
  refine ⟨?_,?_,c7 h.bk (by decide) (hno h.bk (by decide)),c7 h.br (by decide) hne,c7 h.be (by decide) (hno h.be (by decide)),⟨_,ob7,?_⟩,by simp;omega,?_,hne⟩
  ·rw[e7,hLr]
   exact World.putObj_heap_same hlt7
  ·refine (kp.block _ (Array.getElem?_eq_some_iff.1 (hlo hdW (by simp))).1 (fun hm=>?_)).trans (hlo hdW (by simp))
   rw[List.mem_singleton]at hm
   have:=h.dm
   rw[hm,h.lo]at this
   cases this
  ·rw[List.length_append,List.flatMap_append]
   refine q02 (F:=[c.ob,c.L]) (W:=w6) ?_ ((ks.mono (by simp)).trans kp (by simp)) (fun b hb hm=>?_)
   ·simpa [mtE] using r1
   ·obtain ⟨cs,hc⟩:=q08 r1 hb
    rw[List.mem_cons,List.mem_singleton]at hm
    rcases hm with hm|hm
    ·exact q0p hc (hb6 hv' (by decide)) (by decide) hm
    ·subst hm
     have h1:w6.heap[c.L]?=some (.loop { c.r with state:= .busy }):=(k6.block c.L (Array.getElem?_eq_some_iff.1 hl).1 (fun hm=>by
      obtain ⟨cs,hc⟩:=q08 hrW (by simpa using hm)
      unfold CBox at hc
      rw[hl]at hc
      cases hc)).trans hl
     unfold CBox at hc
     rw[h1]at hc
     cases hc
  ·have h1:=h.sz
   have h2:=hk.size
   have h3:=k6.size
   have h4:=Nat.le_trans ks.size kp.size
   omega
end Go.Proofs.YtcmjnlpofebbmaaGreatDoor
