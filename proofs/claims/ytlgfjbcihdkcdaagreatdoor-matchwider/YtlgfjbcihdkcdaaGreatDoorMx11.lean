/-
  Walks.
-/
import Derived.Test.YtlgfjbcihdkcdaaGreatDoorMx10
import Derived.SizedLaws
import Derived.ChangeArms
set_option maxRecDepth 100000
set_option maxHeartbeats 8000000
set_option linter.unusedSimpArgs false
namespace Go.Proofs.YtlgfjbcihdkcdaaGreatDoor
open Go.RowKit
theorem q6B {α:Type}{xs ys:List α}{k:Nat}(h1:k<xs.length)(h2:k<ys.length)(h:xs.take k=ys.take k)(he:xs[k]=ys[k]):xs.take (k+1)=ys.take (k+1):=by
 rw[List.take_succ_eq_append_getElem h1,List.take_succ_eq_append_getElem h2,h,he]
theorem q6v (a1 a2:Option Addr)(c1 c2:Nat)(xs ys:List Int)(w:World)(hl1:xs.length<=9223372036854775807)(_hl2:ys.length<=9223372036854775807)(h1:IntsAt w a1 xs)(h2:IntsAt w a2 ys):
  Calls Tryz.prog 16 #[.slice a1 xs.length c1, .slice a2 ys.length c2] w fun e w'=>e= .returned (.bool (decide (xs=ys)))/\ ∃n,w'=w.drewN n:=by
 have H1:=hZq h1
 have H2:=hZq h2
 clear h1 h2
 by_cases hlen:xs.length=ys.length
 ·rw[<-hlen]
  generalize hR:decide (xs=ys)=R
  have HR:=hZq hR
  have HL:=hZq hlen
  clear hR hlen
  go_enter Tryz.func16,Tryz.ntmps16
  go_wp2
  go_loopw [5] (fun i wr=> ∃k n:Nat,k<=xs.length/\i= .int .i64 (k:Int)/\wr=w.drewN n/\Hid (xs.take k=ys.take k)) (fun i _=>xs.length-(intOf i).toNat)
  case atStart=>exact ⟨0,0,Nat.zero_le _,rfl,rfl,hZq (by simp)⟩
  case round=>
   obtain ⟨k,n,hk,rfl,rfl,HK⟩:=hrel
   by_cases hlt:k<xs.length
   ·have hlt2:k<ys.length:=by have:=uQ HL;omega
    obtain ⟨b1,o1,rfl,_,q1⟩:=uQ H1 (fun e=>by rw[e]at hlt;simp at hlt)
    obtain ⟨b2,o2,rfl,_,q2⟩:=uQ H2 (fun e=>by rw[e]at hlt2;simp at hlt2)
    have x1:=q1 k hlt
    have y1:=q2 k hlt2
    have hstep:=fun he=>q6B hlt hlt2 (uQ HK) he
    have hdiff:xs[k]≠ys[k]->xs≠ys:=fun hne e=>hne (by simp[e])
    have HST:=hZq hstep
    have HDI:=hZq hdiff
    have hli:(k:Int)<(xs.length:Int):=by omega
    clear q1 q2 HK hstep hdiff H1 H2
    generalize xs[k]=x at *
    generalize ys[k]=y at *
    by_cases he:x=y
    ·have HT:=hZq (uQ HST he)
     clear HST HDI
     subst he
     go_wp2
     go_quiet (fail)
     go_wp2
     go_roundw
     case rel=>exact ⟨k+1,_,by omega,by go_num,rfl,HT⟩
     case measure=>simp[intOf];omega
    ·have hR:=uQ HR
     rw[decide_eq_false (uQ HDI he)]at hR
     subst hR
     have g:(x != y)=true:=by rw[bne_iff_ne];exact he
     clear he HR HDI HST
     go_wp2
     go_quiet (fail)
     go_wp2
     go_ret
     exact ⟨rfl,_,World.drewN_drewN _ _ _⟩
   ·have hall:xs=ys:=by
     have:=uQ HK
     have hl:=uQ HL
     rw[List.take_of_length_le (by omega),List.take_of_length_le (by omega)]at this
     exact this
    have hR:=uQ HR
    rw[decide_eq_true hall]at hR
    subst hR
    clear HR HK hall H1 H2 HL
    go_wp2
    go_ret
    exact ⟨rfl,n,rfl⟩
 ·have hne:xs≠ys:=fun e=>hlen (by rw[e])
  rw[decide_eq_false hne]
  have g:((xs.length:Int) != (ys.length:Int))=true:=by rw[bne_iff_ne];omega
  clear hlen hne H1 H2
  go_enter Tryz.func16,Tryz.ntmps16
  go_wp2
  go_ret
  exact ⟨rfl,0,rfl⟩
theorem q35 {B:Nat}{a w:World}(h:Below B a w)(n:Nat):Below B a (w.drewN n):=⟨h.os,h.tape,h.output,h.size,h.block⟩
theorem CmpS.drewN {w:World}{g1 g2:Nat}{k1:ByteArray}{a1:Option Addr}{n1 c1:Nat}{k2:ByteArray}{a2:Option Addr}{n2 c2:Nat}{W:World}(h:CmpS w g1 g2 k1 a1 n1 c1 k2 a2 n2 c2 W)(n:Nat):CmpS w g1 g2 k1 a1 n1 c1 k2 a2 n2 c2 (W.drewN n):=⟨q35 h.bel n,h.b1,h.b2⟩
theorem qeB {a b:ByteArray}(h:a≠b):(a.toList==b.toList)=false:=by
 rw[beq_eq_false_iff_ne]
 intro e
 refine h (ByteArray.ext (Array.ext' ?_))
 rw[<-ByteArray.toList_eq, <-ByteArray.toList_eq]
 exact e
theorem q33 (k1:ByteArray)(a1:Option Addr)(c1:Nat)(s1:List (List Int))(k2:ByteArray)(a2:Option Addr)(c2:Nat)(s2:List (List Int))(w:World)(ok1:MtOk k1 s1)(ok2:MtOk k2 s2)(h1:StagesAt w a1 s1)(h2:StagesAt w a2 s2):
  Calls Tryz.prog 7 #[.agg #[.string k1, .slice a1 s1.length c1], .agg #[.string k2, .slice a2 s2.length c2]] w fun e w'=>e= .returned (.bool (decide (k1=k2/\s1=s2)))/\Below w.heap.size w w':=by
 have s0:CmpS w w.heap.size (w.heap.size+1) k1 a1 s1.length c1 k2 a2 s2.length c2 ((w.alloc (.cells #[.string k1, .slice a1 s1.length c1] 41)).alloc (.cells #[.string k2, .slice a2 s2.length c2] 41)):=by
  refine ⟨((Below.refl _ _).alloc (Nat.le_refl _) _).alloc (by simp) _,MBox.alloc (heap_alloc_new w _) _,?_⟩
  have:=heap_alloc_new (w.alloc (.cells #[.string k1, .slice a1 s1.length c1] 41)) (.cells #[.string k2, .slice a2 s2.length c2] 41)
  unfold MBox
  simpa using this
 by_cases hk:k1=k2
 ·by_cases hlen:s1.length=s2.length
  ·subst hk
   generalize hR:decide (k1=k1/\s1=s2)=R
   have HR:=hZq hR
   have H1:=hZq h1
   have H2:=hZq h2
   have P1:=hZq ok1
   have P2:=hZq ok2
   have h8:=ok1.2.1
   have HL:=hZq hlen
   rw[<-hlen]at s0 ⊢
   clear hR h1 h2 ok1 ok2 hlen
   go_enter Tryz.func7,Tryz.ntmps7
   go_wp2_with fail
   generalize ((w.alloc (.cells #[.string k1, .slice a1 s1.length c1] 41)).alloc (.cells #[.string k1, .slice a2 s1.length c2] 41))=W0 at *
   go_loopw [5] (fun i wr=> ∃k:Nat,k<=s1.length/\i= .int .i64 (k:Int)/\CmpS w w.heap.size (w.heap.size+1) k1 a1 s1.length c1 k1 a2 s1.length c2 wr/\Hid (s1.take k=s2.take k)) (fun i _=>s1.length-(intOf i).toNat)
   case atStart=>exact ⟨0,Nat.zero_le _,rfl,s0,hZq (by simp)⟩
   case round=>
    clear s0
    obtain ⟨k,hk,rfl,s0,HK⟩:=hrel
    have f0:=s0.full.2
    by_cases hlt:k<s1.length
    ·have hlt2:k<s2.length:=by have:=uQ HL;omega
     obtain ⟨b1,o1,rfl,_,q1⟩:=(uQ H1).below s0.bel (Nat.le_refl _) (fun e=>by rw[e]at hlt;simp at hlt)
     obtain ⟨b2,o2,rfl,_,q2⟩:=(uQ H2).below s0.bel (Nat.le_refl _) (fun e=>by rw[e]at hlt2;simp at hlt2)
     obtain ⟨p1,m1,x1,i1⟩:=q1 k hlt
     obtain ⟨p2,m2,y1,i2⟩:=q2 k hlt2
     have l1:=(uQ P1).2.2 s1[k] (List.getElem_mem hlt)
     have l2:=(uQ P2).2.2 s2[k] (List.getElem_mem hlt2)
     have hstep:=fun he=>q6B hlt hlt2 (uQ HK) he
     have hdiff:s1[k]≠s2[k]->s1≠s2:=fun hne e=>hne (by simp[e])
     have HST:=hZq hstep
     have HDI:=hZq hdiff
     have hli:(k:Int)<(s1.length:Int):=by omega
     clear q1 q2 HK hstep hdiff H1 H2 P1 P2
     generalize s1[k]=x at *
     generalize s2[k]=y at *
     have hc:=fun q=>q6v p1 p2 m1 m2 x y (wr.drewN q) l1 l2 i1 i2
     by_cases he:x=y
     ·have HT:=hZq (uQ HST he)
      clear HST HDI
      subst he
      simp only[decide_true]at hc
      have HC:=hZq hc
      clear hc i1 i2
      generalize x.length=nx at *
      go_wp2
      go_quiet (first|(go_at_call 16;exact Calls.quiet_of (uQ HC _)))
      go_wp2
      go_roundw
      case rel=>exact ⟨k+1,by omega,by go_num,s0.drewN _,HT⟩
      case measure=>simp[intOf];omega
     ·have hR:=uQ HR
      rw[decide_eq_false (fun h=>uQ HDI he h.2)]at hR
      subst hR
      simp only[decide_eq_false he]at hc
      have HC:=hZq hc
      clear hc i1 i2 HDI HST he HR
      generalize x.length=nx at *
      generalize y.length=ny at *
      go_wp2
      go_quiet (first|(go_at_call 16;exact Calls.quiet_of (uQ HC _)))
      go_wp2
      go_ret
      exact ⟨rfl,q35 s0.bel _⟩
    ·have hall:s1=s2:=by
      have:=uQ HK
      have hl:=uQ HL
      rw[List.take_of_length_le (by omega),List.take_of_length_le (by omega)]at this
      exact this
     have hR:=uQ HR
     rw[decide_eq_true ⟨trivial,hall⟩]at hR
     subst hR
     clear HR HK hall H1 H2 HL P1 P2
     go_wp2
     go_ret
     exact ⟨rfl,s0.bel⟩
  ·have hne: ¬ (k1=k2/\s1=s2):=fun h=>hlen (by rw[h.2])
   rw[decide_eq_false hne]
   have g:((s1.length:Int) != (s2.length:Int))=true:=by rw[bne_iff_ne];omega
   subst hk
   clear hlen hne h1 h2 ok1 ok2
   go_enter Tryz.func7,Tryz.ntmps7
   go_wp2
   go_ret
   exact ⟨rfl,s0.bel⟩
 ·have hne: ¬ (k1=k2/\s1=s2):=fun h=>hk h.1
  rw[decide_eq_false hne]
  have g:=qeB hk
  clear hk hne h1 h2 ok1 ok2
  go_enter Tryz.func7,Tryz.ntmps7
  go_wp2
  go_ret
  exact ⟨rfl,s0.bel⟩
open Go.RowKit Go.Shelf
structure MsR (key:ByteArray)(w:World)(v:Value)(zs:List Cp):Prop where
 row:w.ownsRow 0 41 2 v zs.length (zs.flatMap (mtE key))
 cp: ∀x∈zs,CpAt w x
theorem qbw {w:World}{B e sz n:Nat}{v:Value}{xs:List Value}(h:w.ownsRow B e sz v n xs):w.ownsRow 0 e sz v n xs:=by
 obtain ⟨h1,h2|⟨g,cap,cur,h2,_,h4⟩⟩:=h
 ·exact ⟨h1,Or.inl h2⟩
 ·exact ⟨h1,Or.inr ⟨g,cap,cur,h2,Nat.zero_le _,h4⟩⟩
theorem MsR.kp {key:ByteArray}{F:List Nat}{w w':World}{v:Value}{zs:List Cp}(h:MsR key w v zs)(hk:Kp F w w')(h1: ∀g,v.ownBlock=some g->g∉F)(h2: ∀x∈zs, ∀k∈x.B,k∉F):MsR key w' v zs:=
 ⟨q03 h.row hk h1,fun x hx=>(h.cp x hx).kp hk (h2 x hx)⟩
theorem MsR.up {key:ByteArray}{w w':World}{v:Value}{zs:List Cp}(h:MsR key w v zs)(hk:Kp [] w w'):MsR key w' v zs:=h.kp hk (by simp) (by simp)
theorem MsR.cell {key:ByteArray}{w:World}{g n c:Nat}{zs:List Cp}(h:MsR key w (.slice (some ⟨g,0,none⟩) n c) zs)(hn:n=zs.length)(j:Nat)(hj:j<zs.length):w.cell? ⟨g,j * 2,none⟩=some (.string key)/\w.cell? ⟨g,j * 2+1,none⟩=some zs[j].v:=by
 subst hn
 have c0:=q0o (enc:=mtE key) (sz:=2) (q14 key) h.row j 0 hj (by omega)
 have c1:=q0o (enc:=mtE key) (sz:=2) (q14 key) h.row j 1 hj (by omega)
 rw[Nat.add_zero]at c0
 exact ⟨c0,c1⟩
def tyE (c:UInt8):Ev:=⟨⟨#[107]⟩,⟨#[c]⟩,0,0,0,0,⟨#[]⟩⟩
def tyL (s:ByteArray):List Ev:=s.data.toList.map tyE
theorem q4O (s:ByteArray):(tyL s).length=s.size:=by unfold tyL;rw[List.length_map];exact Array.length_toList
theorem qbU (s:ByteArray)(j:Nat)(h:j<s.size):(tyL s).take (j+1)=(tyL s).take j++[tyE s[j]]:=by
 rw[List.take_succ_eq_append_getElem (by rw[q4O];exact h)]
 congr 1
 unfold tyL
 simp
 rfl
theorem qah (s:ByteArray)(hs:s.size<=1000)(w:World):
  Calls Tryz.prog 9 #[.string s] w fun e w'=> ∃v,e= .returned v/\OwnsX w.heap.size w' v (tyL s)/\Kp [] w w':=by
 have HPU:Hid (∀(j:Nat) (v:Value) (wr:World),j<s.size->OwnsX w.heap.size wr v ((tyL s).take j)->Kp [] w wr-> ∃g' cap w',(Builtin.append_ #[25,25] 25 #[v, .slice (some ⟨wr.heap.size,0,none⟩) 1 1]).run Tryz.prog (wr.alloc (.cells #[.string ⟨#[107]⟩, .string (s.extract j (j+1)), .int .i64 0, .int .i64 0, .int .i64 0, .int .i64 0, .string ⟨#[]⟩] 29))= .ok (.slice (some ⟨g',0,none⟩) (j+1) cap) w'/\OwnsX w.heap.size w' (.slice (some ⟨g',0,none⟩) (j+1) cap) ((tyL s).take (j+1))/\Kp [] w w'):=hZq (fun j v wr hj ho hk=>by
  have hl:((tyL s).take j).length=j:=by rw[List.length_take,q4O];omega
  have e1:s.extract j (j+1)=⟨#[s[j]]⟩:=by
   have hjs:j<s.data.size:=hj
   have h1:(s.extract j (j+1)).data.toList=[s[j]]:=by
    rw[ByteArray.data_extract,Array.toList_extract,List.extract_eq_take_drop,List.drop_eq_getElem_cons (by simpa using hjs)]
    simp
    rfl
   exact ByteArray.ext (Array.ext' h1)
  have ka:=Kp.alloc wr (.cells #[.string ⟨#[107]⟩, .string (s.extract j (j+1)), .int .i64 0, .int .i64 0, .int .i64 0, .int .i64 0, .string ⟨#[]⟩] 29)
  have hb:CBox wr.heap.size (tyE s[j]).c 29 (wr.alloc (.cells #[.string ⟨#[107]⟩, .string (s.extract j (j+1)), .int .i64 0, .int .i64 0, .int .i64 0, .int .i64 0, .string ⟨#[]⟩] 29)):=by
   rw[e1]
   exact CBox.new wr _ _
  obtain ⟨g',cap,w',hrun,h1,h2,_⟩:=OwnsX.app (c:=1) (q03 ho ka (by simp)) (by have:=(hk.trans ka (by simp)).size;exact this) (tyE s[j]) hb (by rw[hl];omega) 25
  rw[hl]at hrun h1
  rw[<-qbU s j hj]at h1
  refine ⟨g',cap,w',hrun,h1,?_⟩
  have hk2:=hk.trans ka (by simp)
  exact ⟨h2.os.trans hk2.os,h2.tape.trans hk2.tape,h2.output.trans hk2.output,Nat.le_trans hk2.size h2.size,fun k hk3 _=>(h2.block k hk3).trans (hk2.block k hk3 (by simp))⟩)
 have HEND:Hid ((tyL s).take s.size=tyL s):=hZq (List.take_of_length_le (by rw[q4O];exact Nat.le_refl _))
 go_enter Tryz.func9,Tryz.ntmps9
 go_wp2_with fail
 go_loopw [7,3] (fun iv ov wr=> ∃(j:Nat),j<=s.size/\iv= .int .i64 (j:Int)/\(∃a c,ov= .slice a j c)/\Hid (OwnsX w.heap.size wr ov ((tyL s).take j)/\Kp [] w wr)) (fun iv _ _=>s.size-(intOf iv).toNat)
 case atStart=>exact ⟨0,Nat.zero_le _,rfl,⟨none,0,rfl⟩,hZq ⟨OwnsX.nil _ _,Kp.refl _ _⟩⟩
 case round=>
  obtain ⟨j,hj,rfl,⟨va,vc,rfl⟩,HR⟩:=hrel
  by_cases hlt:j<s.size
  ·have hli:(j:Int)<(s.size:Int):=by omega
   obtain ⟨g',cap,w',hrun,ho,hk⟩:=uQ HPU j _ wr hlt (uQ HR).1 (uQ HR).2
   have HN:=hZq (And.intro ho hk)
   clear ho hk HR HPU HEND
   have HRUN:=hZq hrun
   clear hrun
   go_wp2_with (at_builtin;refine q0e rfl _ _ _ rfl rfl rfl (uQ HRUN) ?_)
   go_roundw
   case rel=>exact ⟨j+1,by omega,by go_num,⟨_,_,rfl⟩,hZq (uQ HN)⟩
   case measure=>simp[intOf];omega
  ·obtain rfl:j=s.size:=by omega
   have HN:=hZq (uQ HR)
   clear HR HPU
   go_wp2
   go_ret
   exact ⟨_,rfl,by have:=(uQ HN).1;rwa [uQ HEND]at this,(uQ HN).2⟩
def wkS (h:ByteArray):ByteArray:=((⟨#[115,116,97,114,116,32,97,58,32,116,121,112,101,32,61,61,32,39,120,39,59,32]⟩:ByteArray)++h)++⟨#[32,98,43,58,32,116,121,112,101,32,61,61,32,39,121,39,59,32,119,105,116,104,105,110,32,57]⟩
def wkP (h:Int):Ptn:=⟨[⟨⟨#[97]⟩,0,false,[⟨9,0,⟨#[]⟩,⟨#[]⟩,0⟩,⟨3,0,⟨#[]⟩,⟨#[]⟩,4⟩,⟨2,0,⟨#[120]⟩,⟨#[]⟩,0⟩]⟩,⟨⟨#[98]⟩,h,true,[⟨9,0,⟨#[]⟩,⟨#[]⟩,0⟩,⟨3,0,⟨#[]⟩,⟨#[]⟩,4⟩,⟨2,0,⟨#[121]⟩,⟨#[]⟩,0⟩]⟩],9⟩
def wkE:List Ev:=tyL ⟨#[120,121,122,121]⟩
structure WkF (how:ByteArray)(m:Nat)(h:Int)(r:List (List (List Nat))):Prop where
 rd:rdP (wkS how)=⟨wkP h,0,0⟩
 ck:mckE (wkP h) wkE=0
 fd:Mt.fnd (Mt.pm (wkP h) wkE) 9=[[0],[1]]::r
 st:Srt ([[0],[1]]::r)
 ln:r.length+1=m
 sz:(wkS how).size<=1000
 hl:how.size<=9
 hw: -9223372036854775808<=h/\h<=9223372036854775807
theorem qbZ:WkF ⟨#[116,104,101,110]⟩ 2 2 [[[0],[1,3]]]:=⟨by kernel_rfl,by kernel_rfl,by kernel_rfl,(show List.Pairwise (fun a b=>cT a b<0) _ from of_decide_eq_true (by kernel_rfl)),rfl,of_decide_eq_true (by kernel_rfl),by decide,by decide⟩
theorem qdv:WkF ⟨#[97,110,121]⟩ 3 3 [[[0],[1,3]],[[0],[3]]]:=⟨by kernel_rfl,by kernel_rfl,by kernel_rfl,(show List.Pairwise (fun a b=>cT a b<0) _ from of_decide_eq_true (by kernel_rfl)),rfl,of_decide_eq_true (by kernel_rfl),by decide,by decide⟩
theorem qbY:WkF ⟨#[110,101,120,116]⟩ 1 1 []:=⟨by kernel_rfl,by kernel_rfl,by kernel_rfl,(show List.Pairwise (fun a b=>cT a b<0) _ from of_decide_eq_true (by kernel_rfl)),rfl,of_decide_eq_true (by kernel_rfl),by decide,by decide⟩
theorem qf2:arE ⟨#[107]⟩ wkE=true:=by kernel_rfl
theorem WkF.fi {how:ByteArray}{m:Nat}{h:Int}{r:List (List (List Nat))}(f:WkF how m h r)(hm:m<=9):fiE (wkP h) ⟨#[107]⟩ wkE=0/\fiL (wkP h) ⟨#[107]⟩ wkE=[[0],[1]]::r:=by
 have hwi:(wkP h).wi.toNat=9:=rfl
 have e1:fdS (Mt.pm (wkP h) wkE) 9=[[0],[1]]::r:=q4K (q3r _ _) f.st (by rw[<-f.fd];exact q1Z _ _)
 have hl:=f.ln
 have e2:fiE (wkP h) ⟨#[107]⟩ wkE=0:=by
  unfold fiE
  rw[if_pos f.ck,if_pos qf2,hwi,e1,if_neg (by rw[List.length_cons];omega)]
 refine ⟨e2,?_⟩
 unfold fiL
 rw[if_pos e2,hwi,e1]
theorem qf3 (h:Int)(hw: -9223372036854775808<=h/\h<=9223372036854775807):(∀g∈(wkP h).ss,g.ok)/\ ∀g∈(wkP h).ss, ∀q∈g.cd,q.fit:=by
 constructor
 ·intro g hg
  unfold wkP at hg
  simp only[List.mem_cons,List.not_mem_nil,or_false]at hg
  rcases hg with rfl|rfl
  ·refine ⟨by decide,by decide,fun p hp=>?_⟩
   simp only[List.mem_cons,List.not_mem_nil,or_false]at hp
   rcases hp with rfl|rfl|rfl <;> (unfold Pt.ok;decide)
  ·refine ⟨by show (⟨#[98]⟩:ByteArray).size<=_;decide,hw,fun p hp=>?_⟩
   simp only[List.mem_cons,List.not_mem_nil,or_false]at hp
   rcases hp with rfl|rfl|rfl <;> (unfold Pt.ok;decide)
 ·intro g hg q hq
  unfold wkP at hg
  simp only[List.mem_cons,List.not_mem_nil,or_false]at hg
  rcases hg with rfl|rfl
  all_goals
   simp only[List.mem_cons,List.not_mem_nil,or_false]at hq
   rcases hq with rfl|rfl|rfl <;> (unfold Pt.fit;decide)
theorem qf4: ∀e∈wkE,evSz e:=by
 intro e he
 unfold wkE tyL at he
 simp only[List.mem_map]at he
 obtain ⟨c,_,rfl⟩:=he
 unfold tyE evSz
 decide+revert
theorem qai (W:World):StagesAt (((W.alloc (.cells #[.int .i64 0] 3)).alloc (.cells #[.int .i64 1] 3)).alloc (.cells #[.slice (some ⟨W.heap.size,0,none⟩) 1 1, .slice (some ⟨W.heap.size+1,0,none⟩) 1 1] 51)) (some ⟨W.heap.size+1+1,0,none⟩) [[0],[1]]:=fun _=>by
 have k0:=(Kp.alloc (W.alloc (.cells #[.int .i64 0] 3)) (.cells #[.int .i64 1] 3)).trans (Kp.alloc _ (.cells #[.slice (some ⟨W.heap.size,0,none⟩) 1 1, .slice (some ⟨W.heap.size+1,0,none⟩) 1 1] 51)) (by simp)
 have c0:=((CBox.new W #[.int .i64 0] 3).kp k0 (by simp)).cell (i:=0) (v:= .int .i64 0) rfl
 have c1:=((CBox.new (W.alloc (.cells #[.int .i64 0] 3)) #[.int .i64 1] 3).kp (Kp.alloc _ (.cells #[.slice (some ⟨W.heap.size,0,none⟩) 1 1, .slice (some ⟨W.heap.size+1,0,none⟩) 1 1] 51)) (by simp)).cell (i:=0) (v:= .int .i64 1) rfl
 have c2:=CBox.new ((W.alloc (.cells #[.int .i64 0] 3)).alloc (.cells #[.int .i64 1] 3)) #[.slice (some ⟨W.heap.size,0,none⟩) 1 1, .slice (some ⟨W.heap.size+1,0,none⟩) 1 1] 51
 simp only[World.size_alloc]at c1 c2
 refine ⟨W.heap.size+1+1,0,rfl,by simp,fun i hi=>?_⟩
 have h2:i=0\/i=1:=by simp at hi;omega
 rcases h2 with rfl|rfl
 ·refine ⟨_,1,c2.cell rfl,fun _=>⟨W.heap.size,0,rfl,by simp;omega,fun k hk=>?_⟩⟩
  have:k=0:=by simp at hk;omega
  subst this
  exact c0
 ·refine ⟨_,1,c2.cell rfl,fun _=>⟨W.heap.size+1,0,rfl,by simp,fun k hk=>?_⟩⟩
  have:k=0:=by simp at hk;omega
  subst this
  exact c1
theorem q8p (w:World)(hT:TbE w):Calls Tryz.prog 4 #[] w fun e w'=>e= .returned (.bool true)/\Kp [] w w':=by
 obtain ⟨W0,hW0⟩: ∃W0,W0=w.alloc (.cells #[.string ⟨#[116,104,101,110]⟩, .int .i64 2, .string ⟨#[97,110,121]⟩, .int .i64 3, .string ⟨#[110,101,120,116]⟩, .int .i64 1] 44):=⟨_,rfl⟩
 have k0:Kp [] w W0:=by rw[hW0];exact Kp.alloc _ _
 have HROW:Hid (∀j,j<3-> ∃how m h r,WkF how m h r/\m<=9/\ ∀W,Kp [] W0 W->W.cell? ⟨w.heap.size,j * 2,none⟩=some (.string how)/\W.cell? ⟨w.heap.size,j * 2+1,none⟩=some (.int .i64 (m:Int))):=hZq (fun j hj=>by
  have hb:=CBox.new w #[.string ⟨#[116,104,101,110]⟩, .int .i64 2, .string ⟨#[97,110,121]⟩, .int .i64 3, .string ⟨#[110,101,120,116]⟩, .int .i64 1] 44
  rw[<-hW0]at hb
  have h3:j=0\/j=1\/j=2:=by omega
  rcases h3 with rfl|rfl|rfl
  ·exact ⟨_,_,_,_,qbZ,by omega,fun W hk=>⟨(hb.kp hk (by simp)).cell rfl,(hb.kp hk (by simp)).cell rfl⟩⟩
  ·exact ⟨_,_,_,_,qdv,by omega,fun W hk=>⟨(hb.kp hk (by simp)).cell rfl,(hb.kp hk (by simp)).cell rfl⟩⟩
  ·exact ⟨_,_,_,_,qbY,by omega,fun W hk=>⟨(hb.kp hk (by simp)).cell rfl,(hb.kp hk (by simp)).cell rfl⟩⟩)
 have HK0:=hZq k0
 have HT:=hZq hT
 have EF:=fun W=>eqF 9998 0 0 0 0 W
 have HTL:Hid ((tyL ⟨#[120,121,122,121]⟩).length=4):=hZq (by kernel_rfl)
 clear hT k0
 go_enter Tryz.func4,Tryz.ntmps4
 go_upto_region 2 with fail
 rw[<-hW0]
 clear hW0
 go_wp2_with fail
 go_loopw [12] (fun iv wr=> ∃j:Nat,j<=3/\iv= .int .i64 (j:Int)/\Hid (Kp [] W0 wr)) (fun iv _=>3-(intOf iv).toNat)
 case atStart=>exact ⟨0,by omega,rfl,hZq (Kp.refl _ _)⟩
 case round=>
  obtain ⟨j,hj,rfl,HK⟩:=hrel
  by_cases hlt:j<3
  ·have hli:(j:Int)<3:=by omega
   obtain ⟨how,m,h,r,hF,hm9,hcl⟩:=uQ HROW j hlt
   obtain ⟨c0,c1⟩:=hcl wr (uQ HK)
   have b1:=CBox.new wr #[.string how, .int .i64 (m:Int)] 44
   have k1:=Kp.alloc wr (.cells #[.string how, .int .i64 (m:Int)] 44)
   obtain ⟨W1,hW1⟩: ∃W1,W1=wr.alloc (.cells #[.string how, .int .i64 (m:Int)] 44):=⟨_,rfl⟩
   rw[<-hW1]at b1 k1
   have kw1:=((uQ HK0).trans (uQ HK) (by simp)).trans k1 (by simp)
   have RD0:=q9N (wkS how) W1 ((uQ HT).kp kw1 (by simp)) (by have:=hF.sz;omega)
   rw[hF.rd]at RD0
   have RD:Hid (Calls Tryz.prog 8 #[.string (wkS how)] W1 fun e w'=> ∃ad cp rs,e= .returned (.tuple #[.agg #[.slice ad 2 cp, .int .i64 9], .agg #[.int .i64 0, .int .i64 0]])/\(StsAt w' ad (rs:List SR)/\stgs rs=(wkP h).ss/\rs.length=2/\2<=cp)/\Kp [] W1 w'):=hZq (RD0.mono fun e w' ⟨⟨ad,cp,rs,h1,h2,h3⟩,h4⟩=>by
    obtain ⟨a',c',e',hat,hcap⟩:=h2.at
    injection e' with ea eb ec
    have hl:rs.length=2:=by rw[<-q02,h3];rfl
    rw[hl]at h1
    subst ea ec
    exact ⟨ad,cp,rs,h1,⟨hat,h3,hl,by omega⟩,Kp.ofBelow h4⟩)
   unfold wkS at RD
   have d0:=b1.cell (i:=0) (v:= .string how) rfl
   have HB1:=hZq b1
   have HKW1:=hZq k1
   have HF:=hZq hF
   have hh9:=hF.hl
   clear RD0 hcl hF b1 k1 kw1 HROW
   go_upto_region 4 with fail
   rw[<-hW1]
   clear hW1 c0 c1
   go_wp2_with fail
   refine (uQ RD).mono ?_
   rintro e w2 ⟨ad,cp,rs,rfl,hrs,hk2⟩
   have kv:Kp [] w2 ((w2.alloc (.cells #[.slice ad 2 cp, .int .i64 9] 24)).alloc (.cells #[.int .i64 0, .int .i64 0] 47)):=(Kp.alloc _ _).trans (Kp.alloc _ _) (by simp)
   have hP1:=q2h w2 #[.slice ad 2 cp, .int .i64 9] 24 (.cells #[.int .i64 0, .int .i64 0] 47)
   have hF1:=q3v w2 #[.int .i64 0, .int .i64 0] 47 (.cells #[.slice ad 2 cp, .int .i64 9] 24)
   obtain ⟨W3,hW3⟩: ∃W3,W3=((w2.alloc (.cells #[.slice ad 2 cp, .int .i64 9] 24)).alloc (.cells #[.int .i64 0, .int .i64 0] 47)):=⟨_,rfl⟩
   rw[<-hW3]at kv hP1 hF1
   obtain ⟨V,hV⟩: ∃V,V=W3.drew:=⟨_,rfl⟩
   have kV:Kp [] W3 V:=by rw[hV];exact Kp.drew _
   have k2V:Kp [] w2 V:=kv.trans kV (by simp)
   have k0V:Kp [] w V:=((((uQ HK0).trans (uQ HK) (by simp)).trans (uQ HKW1) (by simp)).trans hk2 (by simp)).trans k2V (by simp)
   have kWr:Kp [] W0 V:=(((uQ HK).trans (uQ HKW1) (by simp)).trans hk2 (by simp)).trans k2V (by simp)
   have HC2:Hid (∀W,Kp [] V W->(W.cell? ⟨w2.heap.size+1,0,none⟩=some (.int .i64 0)/\W.cell? ⟨w2.heap.size+1,1,none⟩=some (.int .i64 0))/\W.cell? ⟨wr.heap.size,1,none⟩=some (.int .i64 (m:Int))/\Hid (Kp [] W0 W)):=hZq (fun W hk=>⟨⟨(hF1.kp (kV.trans hk (by simp)) (by simp)).cell rfl,(hF1.kp (kV.trans hk (by simp)) (by simp)).cell rfl⟩,((uQ HB1).kp ((hk2.trans k2V (by simp)).trans hk (by simp)) (by simp)).cell rfl,hZq (kWr.trans hk (by simp))⟩)
   have HSV:Hid (∀W,Kp [] V W->(W.cell? ⟨w2.heap.size,0,none⟩=some (.slice ad 2 cp)/\W.cell? ⟨w2.heap.size,1,none⟩=some (.int .i64 9))/\Hid (∀ta tc,EvsAt W ta (tyL ⟨#[120,121,122,121]⟩)->Calls Tryz.prog 6 #[.agg #[.slice ad 2 cp, .int .i64 9], .string ⟨#[107]⟩, .slice ta (tyL ⟨#[120,121,122,121]⟩).length tc] W fun e w'=> ∃fg fc zg,e= .returned (.tuple #[.slice (some ⟨fg,0,none⟩) m fc, .int .i64 0])/\Kp [] W w'/\(∀W',Kp [] w' W'->StagesAt W' (some ⟨zg,0,none⟩) [[0],[1]])/\w'.cell? ⟨fg,0,none⟩=some (.string ⟨#[107]⟩)/\w'.cell? ⟨fg,1,none⟩=some (.slice (some ⟨zg,0,none⟩) 2 2))):=hZq (fun W hk=>⟨⟨(hP1.kp (kV.trans hk (by simp)) (by simp)).cell rfl,(hP1.kp (kV.trans hk (by simp)) (by simp)).cell rfl⟩,hZq (fun ta tc hev=>by
    obtain ⟨r1,r2,r3,r4⟩:=hrs
    have hwo:=qf3 h (uQ HF).hw
    have hmm: ∀x∈rs,x.s∈(wkP h).ss:=fun x hx=>by rw[<-r2];unfold stgs;exact List.mem_map_of_mem hx
    have hfd:=q5M ad cp rs 9 ta tc wkE ⟨#[107]⟩ W (r1.kp (k2V.trans hk (by simp))) hev ((uQ HT).kp (k0V.trans hk (by simp)) (by simp)) (fun x hx=>hwo.1 _ (hmm x hx)) (fun x hx=>hwo.2 _ (hmm x hx)) (by omega) (by omega) (by decide) qf4 (by decide)
    have he:(⟨stgs rs,9⟩:Ptn)=wkP h:=by rw[r2];rfl
    obtain ⟨f1,f2⟩:=(uQ HF).fi hm9
    rw[he,f1,f2,r3]at hfd
    refine hfd.mono ?_
    rintro e w' ⟨v,zs,rfl,hP⟩
    have hts:=hP.ts
    match zs,hts with
    |[],hts=>cases hts
    |z::zr,hts=>
     rw[List.map_cons,List.cons.injEq]at hts
     have hlen:(z::zr).length=m:=by
      rw[List.length_cons, <-(uQ HF).ln, <-hts.2,List.length_map]
     have hrow:=hP.row
     rw[hlen]at hrow
     obtain ⟨a,c,rfl,hg⟩:=q1H hrow
     obtain ⟨g,rfl⟩:=hg (by rw[<-hlen];simp)
     have hrow':=hP.row
     rw[<-hlen]at hrow'
     have c0:=q0o (enc:=mtE ⟨#[107]⟩) (sz:=2) (q14 _) hrow' 0 0 (by simp) (by omega)
     have c1:=q0o (enc:=mtE ⟨#[107]⟩) (sz:=2) (q14 _) hrow' 0 1 (by simp) (by omega)
     refine ⟨g,c,z.g,rfl,hP.kp,fun W' hk'=>?_,c0,?_⟩
     ·have:=((hP.cp z (by simp)).kp hk' (by simp)).stages
      rw[hts.1]at this
      exact this
     ·have e2:w'.cell? ⟨g,1,none⟩=some z.v:=c1
      rw[e2]
      unfold Cp.v
      rw[hts.1]
      rfl)⟩)
   have TY:=hZq (qah ⟨#[120,121,122,121]⟩ (by decide) V)
   have hS0:=(uQ HSV V (Kp.refl _ _)).1
   have hm1:1<=m:=by have:=(uQ HF).ln;omega
   clear RD hrs hk2 kv hP1 hF1 kV k2V k0V kWr HB1 HKW1 HF d0 HK
   go_upto_region 5 with fail
   rw[<-hW3]
   clear hW3
   go_cut [5,6] (fun lv ev wc=> ∃fg fc zg,lv= .slice (some ⟨fg,0,none⟩) m fc/\ev= .int .i64 0/\Hid (Kp [] V wc/\(∀W',Kp [] wc W'->StagesAt W' (some ⟨zg,0,none⟩) [[0],[1]])/\wc.cell? ⟨fg,0,none⟩=some (.string ⟨#[107]⟩)/\wc.cell? ⟨fg,1,none⟩=some (.slice (some ⟨zg,0,none⟩) 2 2)))
   case first=>
    refine wp_region_held_drew (S:=fun W=>W.cell? ⟨w2.heap.size,0,none⟩=some (.slice ad 2 cp)/\W.cell? ⟨w2.heap.size,1,none⟩=some (.int .i64 9)) (by kernel_rfl) (by rw[<-hV];exact hS0) (fun hHeld=>?_)
    rw[<-hV]at hHeld ⊢
    clear hV
    show wpAnyH _ _ _ _ _ 8 (Array.replicate 8 false) _ _
    refine wpAnyH_take (i:=0) (oi:=⟨some 25,Op.load 24 (.tmp 3),24,"theorems.go:29",#[],none⟩) (v:=?_) rfl (by kernel_rfl) (by kernel_rfl) (by kernel_rfl) (fun _ _ _ h=>h) (Or.inl ⟨by rfl,?_⟩) (by assumption) ?_
    rotate_left
    ·intro w0 s9
     (try dsimp only at s9)
     go_simp
     (try with_reducible rfl)
    try simp only[Act.put,zz1,zz2,zz3]
    refine wpAnyH_ready (rs:=[1]) (by kernel_rfl) (by simp) ?_
    refine AllReadyH.cons (o:=⟨some 26,Op.call { callee:= .value (.func 9),args:=#[.const (Value.string { data:=#[120,121,122,121] })],argTypes:=#[9] },25,"theorems.go:29",#[],none⟩) rfl (fun K hK=>?_) AllReadyH.nil
    go_simp
    refine (uQ TY).mono ?_
    rintro e w5 ⟨tv,rfl,hto,hk5⟩
    obtain ⟨ta,tc,rfl,hte⟩:=hto.at
    have HK5:=hZq hk5
    obtain ⟨hS5,HF5⟩:=uQ HSV w5 hk5
    have FD:=hZq (uQ HF5 ta tc hte)
    clear TY HF5 hto hte hk5
    refine hK.out _ _ ?_ (fun hHeld=>?_)
    ·exact hS5
    clear hK K
    try simp only[Act.put,zz1,zz2,zz3]
    refine wpAnyH_ready (rs:=[2]) (by kernel_rfl) (by simp) ?_
    refine AllReadyH.cons (o:=⟨some 27,Op.call { callee:= .value (.func 6),args:=#[.tmp 25, .const (Value.string { data:=#[107] }), .tmp 26],argTypes:=#[24,9,25] },37,"theorems.go:29",#[⟨0, .data⟩,⟨1, .data⟩,⟨1, .chain⟩],none⟩) rfl (fun K hK=>?_) AllReadyH.nil
    go_simp
    refine (uQ FD).mono ?_
    rintro e w6 ⟨fg,fc,zg,rfl,hk6,hstz,l0,l1⟩
    have HK6:=hZq ((uQ HK5).trans hk6 (by simp))
    obtain ⟨hS6,_⟩:=uQ HSV w6 (uQ HK6)
    have HSTZ:=hZq hstz
    clear FD hk6 HK5 hS5 hstz
    refine hK.out _ _ ?_ (fun hHeld=>?_)
    ·exact hS6
    clear hK K
    try simp only[Act.put,zz1,zz2,zz3]
    refine wpAnyH_take (i:=3) (oi:=⟨some 24,Op.move (.tmp 27),37,"theorems.go:29",#[⟨2, .data⟩],none⟩) (v:=?_) rfl (by kernel_rfl) (by kernel_rfl) (by kernel_rfl) (fun _ _ _ h=>h) (Or.inl ⟨by rfl,?_⟩) (by assumption) ?_
    rotate_left
    ·intro w0 s9
     (try dsimp only at s9)
     go_simp
     (try with_reducible rfl)
    try simp only[Act.put,zz1,zz2,zz3]
    refine wpAnyH_take (i:=4) (oi:=⟨some 28,Op.extract (.tmp 24) 0,31,"theorems.go:29",#[⟨3, .data⟩],none⟩) (v:=?_) rfl (by kernel_rfl) (by kernel_rfl) (by kernel_rfl) (fun _ _ _ h=>h) (Or.inl ⟨by rfl,?_⟩) (by assumption) ?_
    rotate_left
    ·intro w0 s9
     (try dsimp only at s9)
     go_simp
     (try with_reducible rfl)
    try simp only[Act.put,zz1,zz2,zz3]
    refine wpAnyH_take (i:=5) (oi:=⟨some 29,Op.extract (.tmp 24) 1,36,"theorems.go:29",#[⟨3, .data⟩,⟨6, .gcOnly Departure.lateStores⟩],none⟩) (v:=?_) rfl (by kernel_rfl) (by kernel_rfl) (by kernel_rfl) (fun _ _ _ h=>h) (Or.inl ⟨by rfl,?_⟩) (by assumption) ?_
    rotate_left
    ·intro w0 s9
     (try dsimp only at s9)
     go_simp
     (try with_reducible rfl)
    try simp only[Act.put,zz1,zz2,zz3]
    refine wpAnyH_take (i:=6) (oi:=⟨some 5,Op.assign (.tmp 28),31,"theorems.go:29",#[⟨4, .data⟩,⟨2, .chain⟩,⟨0, .phase⟩,⟨1, .phase⟩,⟨2, .phase⟩,⟨3, .phase⟩,⟨4, .phase⟩,⟨5, .textOnly Departure.lateStores⟩],none⟩) (v:=?_) rfl (by kernel_rfl) (by kernel_rfl) (by kernel_rfl) (fun _ _ _ h=>h) (Or.inl ⟨by rfl,?_⟩) (by assumption) ?_
    rotate_left
    ·intro w0 s9
     (try dsimp only at s9)
     go_simp
     (try with_reducible rfl)
    try simp only[Act.put,zz1,zz2,zz3]
    refine wpAnyH_take (i:=7) (oi:=⟨some 6,Op.assign (.tmp 29),36,"theorems.go:29",#[⟨5, .data⟩,⟨6, .chain⟩,⟨0, .phase⟩,⟨1, .phase⟩,⟨2, .phase⟩,⟨3, .phase⟩,⟨4, .phase⟩,⟨5, .phase⟩,⟨6, .phase⟩],none⟩) (v:=?_) rfl (by kernel_rfl) (by kernel_rfl) (by kernel_rfl) (fun _ _ _ h=>h) (Or.inl ⟨by rfl,?_⟩) (by assumption) ?_
    rotate_left
    ·intro w0 s9
     (try dsimp only at s9)
     go_simp
     (try with_reducible rfl)
    try simp only[Act.put,zz1,zz2,zz3]
    refine wpAnyH_done (by kernel_rfl) ?_ _
    have HKF:=hZq (And.intro (uQ HK6) (And.intro (uQ HSTZ) (And.intro l0 l1)))
    clear HSV HC2 HK6 HSTZ hS6 hHeld l0 l1
    go_wp2
    go_meet
    exact ⟨fg,fc,zg,rfl,rfl,HKF⟩
   case rest=>
   obtain ⟨fg,fc,zg,rfl,rfl,HK6⟩:=hcut
   obtain ⟨kc,hstz,l0,l1⟩:=uQ HK6
   obtain ⟨⟨y0,y1⟩,y2,HKC⟩:=uQ HC2 wc kc
   have ka:Kp [] wc (((wc.alloc (.cells #[.int .i64 0] 3)).alloc (.cells #[.int .i64 1] 3)).alloc (.cells #[.slice (some ⟨wc.heap.size,0,none⟩) 1 1, .slice (some ⟨wc.heap.size+1,0,none⟩) 1 1] 51)):=((Kp.alloc _ _).trans (Kp.alloc _ _) (by simp)).trans (Kp.alloc _ _) (by simp)
   have SM:=hZq (q33 ⟨#[107]⟩ (some ⟨zg,0,none⟩) 2 [[0],[1]] ⟨#[107]⟩ (some ⟨wc.heap.size+1+1,0,none⟩) 2 [[0],[1]] _ ⟨by decide,by decide,by decide⟩ ⟨by decide,by decide,by decide⟩ (hstz _ ka) (qai wc))
   have HD:decide (((⟨#[107]⟩:ByteArray)=⟨#[107]⟩)/\(([[0],[1]]:List (List Int))=[[0],[1]]))=true:=decide_eq_true ⟨rfl,rfl⟩
   rw[HD]at SM
   have hmi:(0:Int)<(m:Int):=by omega
   have HKA:=hZq ((uQ HKC).trans ka (by simp))
   clear HSV HC2 HK6 kc hstz HKC ka HD TY hS0 HK0 HT HTL
   go_wp2_with fail
   refine (uQ SM).mono ?_
   rintro e w9 ⟨rfl,hb9⟩
   have HK9:=hZq ((uQ HKA).trans (Kp.ofBelow hb9) (by simp))
   clear SM hb9 HKA l0 l1 y0 y1 y2
   go_wp2
   go_roundw
   case rel=>exact ⟨j+1,by omega,by go_num,HK9⟩
   case measure=>simp[intOf];omega
  ·obtain rfl:j=3:=by omega
   have HKF:=hZq ((uQ HK0).trans (uQ HK) (by simp))
   clear HK HROW
   go_wp2
   go_ret
   exact ⟨rfl,uQ HKF⟩
structure SyE (w:World)(g cap:Nat)(es:List Ev)(wr:World):Prop where
 row:OwnsX w.heap.size wr (.slice (some ⟨g,0,none⟩) es.length cap) es
 kp:Kp [] w wr
theorem SyE.up {w wr w':World}{g cap:Nat}{es:List Ev}(h:SyE w g cap es wr)(hk:Kp [] wr w'):SyE w g cap es w':=⟨q03 h.row hk (by simp),h.kp.trans hk (by simp)⟩
theorem SyE.at {w wr:World}{g cap:Nat}{es:List Ev}(h:SyE w g cap es wr):EvsAt wr (some ⟨g,0,none⟩) es:=by
 obtain ⟨ad,cp,e,h1⟩:=h.row.at
 injection e with e1 _ _
 rw[<-e1]at h1
 exact h1
section
open Go.RowKit Go.Deep
theorem qar:Tryz.prog.bytesOf 166=56:=by kernel_rfl
theorem q1B {H:Type}{P:Program}{e:TypeId}{ds:List (DataW H)}{d:DataW H}{n:Nat}(hd:d∈ds)(hn:n∈d.weights P e):n∈DataW.weightsAll P e ds:=by
 induction ds with
 |nil=>cases hd
 |cons x r ih=>
  simp only[DataW.weightsAll,List.mem_append]
  rcases List.mem_cons.1 hd with rfl|h
  ·exact Or.inl hn
  ·exact Or.inr (ih h)
theorem q9G {H:Type}{enc:TypeId × Value->H}{W:World}{spare:Nat->Bool}{held:Bool}{fuel:Nat}{v:Value}{x:DataW H × List MemPlace}
  (h:DataW.trod enc Tryz.prog W 0 spare held fuel 33 [v]=some x) (hw: ∀n∈x.1.weights Tryz.prog 33,n<=reachBytes):
  ∃(ad:Option Addr) (cap:Nat) (l:List Pt),v= .slice ad l.length cap/\l.length * 56<=140737488351232/\l.length<=cap/\PtsAt W ad l/\(∀y∈l,y.ok)/\(ad=none->cap=0)/\ ∀y∈l,y.s.size<=140737488351232/\y.st.size<=140737488351232:=by
 obtain ⟨ad,cap,l,hv,h1,h2,h3⟩:=q6b h
 obtain ⟨f0,f1,f2,f3,f4,hu,t0,t1,t2,t3,t4,o0,o1,o2,o3,o4⟩:=q2f
 rcases open_slice Tryz.underlying33 h with ⟨hcs,_⟩|⟨a,len,cap',m,n,D,Pl,hcs,hb,hl,hm,hmm,rfl,hx⟩
 ·simp only[List.cons.injEq,and_true]at hcs
  rw[hv]at hcs
  simp only[Value.slice.injEq]at hcs
  have hl0:l=[]:=List.eq_nil_of_length_eq_zero hcs.2.1
  subst hl0
  exact ⟨ad,cap,[],hv,by simp,by simp,h2,h3,fun _=>hcs.2.2,by simp⟩
 ·simp only[List.cons.injEq,and_true]at hcs
  rw[hv]at hcs
  simp only[Value.slice.injEq]at hcs
  obtain ⟨rfl,hll,rfl⟩:=hcs
  have hlm:len<=m:=by rw[hmm];split <;> omega
  have hw0:(len+(m-len)) * 56<=reachBytes:=by
   have:=hw ((len+(m-len)) * 56) (by simp[DataW.weights,Tryz.underlying33,qar])
   exact this
  have hreach:reachBytes=140737488351232:=by decide
  refine ⟨some a,cap,l,hv,by omega,by omega,h2,h3,(by intro e;cases e),fun y hy=>?_⟩
  obtain ⟨i,hi,rfl⟩:=List.mem_iff_getElem.1 hy
  obtain ⟨b,off,ea,_,hc⟩:=h2 (fun e=>by rw[e]at hi;simp at hi)
  obtain rfl:=Option.some.inj ea
  obtain ⟨cs',k1,k2⟩:=hx i (by omega)
  rw[q2A]at k1
  obtain ⟨_,hlen,hcell⟩:=World.cells?_some k1
  obtain ⟨xs,k,hk,hxy,_,hxl,hf⟩:=DataW.trod_struct hu k2
  match xs,hxl,cs',hlen with
  |[y0,y1,y2,y3,y4],_,[v0,v1,v2,v3,v4],_=>
   have g2:=hf 2 f2 rfl
   have g3:=hf 3 f3 rfl
   simp[o2,o3,t2,t3,q0H]at g2 g3
   have e2:=hcell 2 (by omega)
   have e3:=hcell 3 (by omega)
   rw[Go.Deep.add_add]at e2 e3
   obtain ⟨s,q2,q3,_⟩:=DataW.trod_string Tryz.underlying9 g2
   obtain ⟨s',q2',q3',_⟩:=DataW.trod_string Tryz.underlying9 g3
   simp only[List.cons.injEq,and_true]at q2 q2'
   subst q2 q2'
   have c2:=(hc i hi).2.2.1
   have c3:=(hc i hi).2.2.2.1
   rw[Go.WideShapes.add_plain]at e2 e3
   have e2':W.cell? ⟨b,off+i * 5+2,none⟩=some (.string s):=by rw[Nat.add_assoc];simpa using e2
   have e3':W.cell? ⟨b,off+i * 5+3,none⟩=some (.string s'):=by rw[Nat.add_assoc];simpa using e3
   rw[c2]at e2'
   rw[c3]at e3'
   simp only[Option.some.injEq,Value.string.injEq]at e2' e3'
   rw[e2',e3']
   have hD:D i= .agg [y0.1,y1.1,y2.1,y3.1,y4.1]:=by have:=congrArg Prod.fst hxy;simpa using this
   have hwt:s.size∈(D i).weights Tryz.prog 166:=by
    rw[hD]
    simp only[DataW.weights,hu]
    refine DataW.weights_mem_each (j:=2) (t:=9) (d:=y2.1) (by simp[t2]) rfl _ ?_
    rw[q3]
    simp[DataW.weights]
   have hwt':s'.size∈(D i).weights Tryz.prog 166:=by
    rw[hD]
    simp only[DataW.weights,hu]
    refine DataW.weights_mem_each (j:=3) (t:=9) (d:=y3.1) (by simp[t3]) rfl _ ?_
    rw[q3']
    simp[DataW.weights]
   have r1:=hw s.size (by
    simp only[DataW.weights,Tryz.underlying33,List.mem_cons,List.mem_append]
    exact Or.inr (Or.inl (q1B (List.mem_map.2 ⟨i,List.mem_range.2 (by omega),rfl⟩) hwt)))
   have r2:=hw s'.size (by
    simp only[DataW.weights,Tryz.underlying33,List.mem_cons,List.mem_append]
    exact Or.inr (Or.inl (q1B (List.mem_map.2 ⟨i,List.mem_range.2 (by omega),rfl⟩) hwt')))
   exact ⟨by omega,by omega⟩
end
section
open Go.RowKit Go.Deep
theorem q6L:Tryz.prog.cellsOf 35=4:=by kernel_rfl
theorem q5a:Tryz.prog.cellsOf 24=2:=by kernel_rfl
theorem q6M:Tryz.prog.cellsOf 4=1:=by kernel_rfl
theorem q5v:Tryz.prog.cellsOf 33=1:=by kernel_rfl
theorem q2Z:Tryz.prog.cellsOf 22=1:=by kernel_rfl
theorem q6K:Tryz.prog.bytesOf 35=56:=by kernel_rfl
theorem q5L: ∃f0 f1 f2 f3:Field,Tryz.prog.underlying 35=some (.struct #[f0,f1,f2,f3])/\f0.type=9/\f1.type=3/\f2.type=4/\f3.type=33/\f0.offset=0/\f1.offset=1/\f2.offset=2/\f3.offset=3:=
 ⟨_,_,_,_,Tryz.underlying35,rfl,rfl,rfl,rfl,rfl,rfl,rfl,rfl⟩
theorem q2w: ∃f0 f1:Field,Tryz.prog.underlying 24=some (.struct #[f0,f1])/\f0.type=22/\f1.type=3/\f0.offset=0/\f1.offset=1:=
 ⟨_,_,Tryz.underlying24,rfl,rfl,rfl,rfl⟩
def SR.hv (r:SR):Prop:=r.s.cd.length * 56<=140737488351232/\r.s.cd.length<=r.c/\(r.ad=none->r.c=0)/\ ∀y∈r.s.cd,y.s.size<=140737488351232/\y.st.size<=140737488351232
section
variable {H:Type} {enc:TypeId × Value->H} {W:World} {spare:Nat->Bool} {held:Bool} {fuel:Nat} {v:Value} {x:DataW H × List MemPlace}
theorem q9H (h:DataW.trod enc Tryz.prog W 0 spare held fuel 33 [v]=some x):
  ∃(ad:Option Addr) (cap:Nat) (l:List Pt),v= .slice ad l.length cap/\l.length<=9223372036854775807/\PtsAt W ad l/\(∀y∈l,y.ok)/\((∀n∈x.1.weights Tryz.prog 33,n<=reachBytes)->l.length * 56<=140737488351232/\l.length<=cap/\(ad=none->cap=0)/\ ∀y∈l,y.s.size<=140737488351232/\y.st.size<=140737488351232):=by
 by_cases hw: ∀n∈x.1.weights Tryz.prog 33,n<=reachBytes
 ·obtain ⟨ad,cap,l,h1,h2,h3,h4,h5,h6,h7⟩:=q9G h hw
  exact ⟨ad,cap,l,h1,by omega,h4,h5,fun _=>⟨h2,h3,h6,h7⟩⟩
 ·obtain ⟨ad,cap,l,h1,h2,h3,h4⟩:=q6b h
  exact ⟨ad,cap,l,h1,h2,h3,h4,fun h=>absurd h hw⟩
theorem q8t {cs:Array Value}(hsz:cs.size=4)(h:DataW.trod enc Tryz.prog W 0 spare held fuel 35 cs.toList=some x):
  ∃r:SR,cs=#[.string r.s.nm, .int .i64 r.s.hw, .bool r.s.mn, .slice r.ad r.s.cd.length r.c]/\r.s.ok/\PtsAt W r.ad r.s.cd/\((∀m∈x.1.weights Tryz.prog 35,m<=reachBytes)->r.hv):=by
 obtain ⟨f0,f1,f2,f3,hu,t0,t1,t2,t3,o0,o1,o2,o3⟩:=q5L
 obtain ⟨xs,n,_,hxe,_,hxl,hf⟩:=DataW.trod_struct hu h
 obtain ⟨l⟩:=cs
 match xs,hxl,l,hsz with
 |[y0,y1,y2,y3],_,[v0,v1,v2,v3],_=>
  have g0:=hf 0 f0 rfl
  have g1:=hf 1 f1 rfl
  have g2:=hf 2 f2 rfl
  have g3:=hf 3 f3 rfl
  simp[o0,o1,o2,o3,t0,t1,t2,t3,q0H,q0W,q6M,q5v]at g0 g1 g2 g3
  obtain ⟨k0,q0,_,w0⟩:=DataW.trod_string Tryz.underlying9 g0
  obtain ⟨k1,q1,_,w1⟩:=DataW.trod_int Tryz.underlying3 g1
  obtain ⟨k2,q2,_⟩:=DataW.trod_bool Tryz.underlying4 g2
  obtain ⟨ad,cp,cd,rfl,h2,h3,h4,h5⟩:=q9H g3
  simp only[List.cons.injEq,and_true]at q0 q1 q2
  subst q0 q1 q2
  have u1:=bounds_i64 w1
  unfold maxLen at w0
  refine ⟨⟨⟨k0,k1,k2,cd⟩,ad,cp⟩,rfl,⟨by show k0.size<=_;omega,⟨u1.1,by show k1<=_;omega⟩,h4⟩,h3,fun hw=>h5 (fun m hm=>hw m ?_)⟩
  rw[hxe]
  simp only[DataW.weights,hu]
  exact DataW.weights_mem_each (j:=3) (t:=33) (d:=y3.1) (by simp[t3]) rfl m hm
theorem q6Z (h:DataW.trod enc Tryz.prog W 0 spare held fuel 22 [v]=some x):
  ∃(ad:Option Addr) (cap:Nat) (l:List SR),v= .slice ad l.length cap/\l.length<=9223372036854775807/\StsAt W ad l/\(∀r∈l,r.s.ok)/\((∀m∈x.1.weights Tryz.prog 22,m<=reachBytes)->l.length * 56<=140737488351232/\(ad=none->cap=0)/\ ∀r∈l,r.hv):=by
 rcases open_slice Tryz.underlying22 h with ⟨hcs,_⟩|⟨a,len,cap,m,n,D,Pl,hcs,hb,hl,hm,hmm,hxe,hx⟩
 ·simp only[List.cons.injEq,and_true]at hcs
  subst hcs
  exact ⟨none,0,[],rfl,by simp,fun hne=>absurd rfl hne,by simp,fun _=>⟨by simp,fun _=>rfl,by simp⟩⟩
 ·simp only[List.cons.injEq,and_true]at hcs
  subst hcs
  have hlm:len<=m:=by rw[hmm];split <;> omega
  have each: ∀i,i<len-> ∃y:SR,(W.cell? (a.add (i * 4))=some (.string y.s.nm)/\W.cell? (a.add (i * 4+1))=some (.int .i64 y.s.hw)/\W.cell? (a.add (i * 4+2))=some (.bool y.s.mn)/\W.cell? (a.add (i * 4+3))=some (.slice y.ad y.s.cd.length y.c))/\y.s.ok/\PtsAt W y.ad y.s.cd/\((∀m∈(D i).weights Tryz.prog 35,m<=reachBytes)->y.hv):=by
   intro i hi
   obtain ⟨cs',h1,h2⟩:=hx i (by omega)
   rw[q6L]at h1
   obtain ⟨_,hlen,hcell⟩:=World.cells?_some h1
   obtain ⟨y,hy,hok⟩:=q8t (cs:=cs'.toArray) (by simpa using hlen) (by simpa using h2)
   refine ⟨y,?_,hok⟩
   have hy':cs'=[.string y.s.nm, .int .i64 y.s.hw, .bool y.s.mn, .slice y.ad y.s.cd.length y.c]:=by simpa using congrArg Array.toList hy
   subst hy'
   have e0:=hcell 0 (by omega)
   have e1:=hcell 1 (by omega)
   have e2:=hcell 2 (by omega)
   have e3:=hcell 3 (by omega)
   rw[Go.Deep.add_add]at e0 e1 e2 e3
   exact ⟨by simpa using e0,by simpa using e1,by simpa using e2,by simpa using e3⟩
  have hinh:Inhabited SR:=⟨⟨⟨⟨#[]⟩,0,false,[]⟩,none,0⟩⟩
  obtain ⟨q,hq⟩:=choose_lt each
  refine ⟨some a,cap,(List.range len).map q,by simp,by simp;unfold maxLen at hm;omega,fun hne=>?_,fun y hy=>?_,fun hw=>⟨?_,(by intro e;cases e),fun y hy=>?_⟩⟩
  ·have h0:0<len:=by
    rcases Nat.eq_zero_or_pos len with e|e
    ·subst e;simp at hne
    ·exact e
   obtain ⟨b,off,spot⟩:=a
   have hc0:=(hq 0 h0).1.1
   have hspot:spot=none:=by simpa [Addr.add] using World.cell?_spot hc0
   subst hspot
   refine ⟨b,off,rfl,?_,fun i hi=>?_⟩
   ·rcases Nat.lt_or_ge b W.heap.size with hlt|hge
    ·exact hlt
    ·exfalso
     rw[Go.WideShapes.add_plain]at hc0
     simp[World.cell?,Array.getElem?_eq_none hge]at hc0
   ·have hi':i<len:=by simpa using hi
    obtain ⟨⟨c0,c1,c2,c3⟩,_,c4,_⟩:=hq i hi'
    rw[Go.WideShapes.add_plain]at c0 c1 c2 c3
    simp only[List.getElem_map,List.getElem_range]
    exact ⟨c0,by rw[Nat.add_assoc];exact c1,by rw[Nat.add_assoc];exact c2,by rw[Nat.add_assoc];exact c3,c4⟩
  ·obtain ⟨i,hi,rfl⟩:=List.mem_map.1 hy
   exact (hq i (List.mem_range.1 hi)).2.1
  ·have hw0:(len+(m-len)) * 56<=reachBytes:=hw _ (by rw[hxe];simp[DataW.weights,Tryz.underlying22,q6K])
   have hreach:reachBytes=140737488351232:=by decide
   simp only[List.length_map,List.length_range]
   omega
  ·obtain ⟨i,hi,rfl⟩:=List.mem_map.1 hy
   refine (hq i (List.mem_range.1 hi)).2.2.2 (fun m hm=>hw m ?_)
   rw[hxe]
   simp only[DataW.weights,Tryz.underlying22]
   exact List.mem_cons_of_mem _ (List.mem_append.2 (Or.inl (q1B (List.mem_map.2 ⟨i,hi,rfl⟩) hm)))
theorem q6a {cs:Array Value}(hsz:cs.size=Tryz.prog.cellsOf 24)(h:DataW.trod enc Tryz.prog W 0 spare held fuel 24 cs.toList=some x):
  ∃(sa:Option Addr) (sc:Nat) (l:List SR) (wi:Int),cs=#[.slice sa l.length sc, .int .i64 wi]/\l.length<=9223372036854775807/\StsAt W sa l/\(∀r∈l,r.s.ok)/\(-9223372036854775808<=wi/\wi<=9223372036854775807)/\((∀m∈x.1.weights Tryz.prog 24,m<=reachBytes)->l.length * 56<=140737488351232/\(sa=none->sc=0)/\ ∀r∈l,r.hv):=by
 obtain ⟨f0,f1,hu,t0,t1,o0,o1⟩:=q2w
 rw[q5a]at hsz
 obtain ⟨xs,n,_,hxe,_,hxl,hf⟩:=DataW.trod_struct hu h
 obtain ⟨l⟩:=cs
 match xs,hxl,l,hsz with
 |[y0,y1],_,[v0,v1],_=>
  have g0:=hf 0 f0 rfl
  have g1:=hf 1 f1 rfl
  simp[o0,o1,t0,t1,q0W,q2Z]at g0 g1
  obtain ⟨k1,q1,_,w1⟩:=DataW.trod_int Tryz.underlying3 g1
  obtain ⟨sa,sc,l,rfl,h2,h3,h4,h5⟩:=q6Z g0
  simp only[List.cons.injEq,and_true]at q1
  subst q1
  have u1:=bounds_i64 w1
  refine ⟨sa,sc,l,k1,rfl,h2,h3,h4,⟨u1.1,by omega⟩,fun hw=>h5 (fun m hm=>hw m ?_)⟩
  rw[hxe]
  simp only[DataW.weights,hu]
  exact DataW.weights_mem_each (j:=0) (t:=22) (d:=y0.1) (by simp[t0]) rfl m hm
end
end
theorem qeW {l rs:List SR}(e:stgs rs=stgs l)(h: ∀r∈l,r.s.ok): ∀r∈rs,r.s.ok:=fun r hr=>by
 have hm:r.s∈stgs rs:=by unfold stgs;exact List.mem_map_of_mem hr
 rw[e]at hm
 unfold stgs at hm
 obtain ⟨r',hr',e'⟩:=List.mem_map.1 hm
 rw[<-e']
 exact h r' hr'
theorem qem {l rs:List SR}(e:stgs rs=stgs l):rs.length=l.length:=by have:=congrArg List.length e;rwa [q02,q02]at this
structure WdS (w wr:World)(S:List Stg)(k:Nat)(wi:Int)(fs:List Ev)(h:Int)(bv:Value)(zs:List Cp):Prop where
 kp:Kp [] w wr
 ms:MsR ⟨#[107]⟩ wr bv zs
 ts:(h=1/\zs=[])\/(1<h/\zs.map (·.T)=fiL ⟨stW S k (h-1),wi⟩ ⟨#[107]⟩ fs/\fiE ⟨stW S k (h-1),wi⟩ ⟨#[107]⟩ fs=0)
theorem WdS.up {w wr w':World}{S:List Stg}{k:Nat}{wi:Int}{fs:List Ev}{h:Int}{bv:Value}{zs:List Cp}(hh:WdS w wr S k wi fs h bv zs)(hk:Kp [] wr w'):WdS w w' S k wi fs h bv zs:=⟨hh.kp.trans hk (by simp),hh.ms.up hk,hh.ts⟩
theorem WdS.full {w wr:World}{S:List Stg}{k:Nat}{wi:Int}{fs:List Ev}{h:Int}{bv:Value}{zs:List Cp}(hh:WdS w wr S k wi fs h bv zs):(∀x∈zs,MtOk ⟨#[107]⟩ (Mt.toZ x.T))/\zs.length<=4096:=by
 rcases hh.ts with ⟨_,rfl⟩|⟨_,e,_⟩
 ·exact ⟨fun x hx=>(by cases hx),by simp⟩
 ·refine ⟨fun x hx=>(q7s (by rw[<-e];exact List.mem_map_of_mem hx)).2.2.1,?_⟩
  have:=q95 (p:=⟨stW S k (h-1),wi⟩) (k:=⟨#[107]⟩) (es:=fs)
  rw[<-e,List.length_map]at this
  exact this
theorem qd3 {q ln N k:Nat}(hl:ln<=9223372036854775807)(hN:N=ln-1)(hq:q<N)(hk:k=q+1):wrap64 (q:Int)=(q:Int)/\IntKind.i64.wrap (q:Int)=(q:Int)/\(1:Int)+(q:Int)=(k:Int)/\wrap64 ((1:Int)+(q:Int))=(k:Int)/\IntKind.i64.wrap ((1:Int)+(q:Int))=(k:Int)/\k<ln/\wrap64 (k:Int)=(k:Int):=by
 refine ⟨?_,?_,by omega,?_,?_,by omega,?_⟩
 ·unfold wrap64;omega
 ·rw[IntKind.wrap_i64];omega
 ·unfold wrap64;omega
 ·rw[IntKind.wrap_i64];omega
 ·unfold wrap64;omega
theorem q6X (sa:Option Addr)(sc:Nat)(l:List SR)(wi:Int)(ea:Option Addr)(ec:Nat)(es:List Ev)(more:Int)(w:World)(hl:l.length<=9223372036854775807)(h:StsAt w sa l)(hok: ∀r∈l,r.s.ok)(_hsc:l.length<=sc)(hwt:l.length * 56<=140737488351232/\(sa=none->sc=0)/\ ∀r∈l,r.hv)(hle:es.length<=9223372036854775807)(hE:EvsAt w ea es)(hoke: ∀y∈es,y.ok)(hca:ea=none->ec=0)(hT:TbE w):
  Calls Tryz.prog 3 #[.agg #[.slice sa l.length sc, .int .i64 wi], .slice ea es.length ec, .int .i64 more] w fun e w'=>e= .returned (.bool true)/\Kp [] w w':=by
 obtain ⟨hw1,hw2,hw3⟩:=hwt
 obtain ⟨W1,hW1⟩: ∃W1,W1=w.alloc (.cells #[.slice sa l.length sc, .int .i64 wi] 24):=⟨_,rfl⟩
 have k1:Kp [] w W1:=by rw[hW1];exact Kp.alloc _ _
 have b1:CBox w.heap.size #[.slice sa l.length sc, .int .i64 wi] 24 W1:=by rw[hW1];exact CBox.new _ _ _
 have WK:=hZq (q8p W1 (hT.kp k1 (by simp)))
 have FW:Hid (∀(g cap:Nat) (rs:List SR) (fa:Option Addr) (fc:Nat) (fs:List Ev) (W:World),rs.length=l.length->(∀r∈rs,r.s.ok)->l.length<=cap->Kp [] w W->StsAt W (some ⟨g,0,none⟩) rs->EvsAt W fa fs->fs.length<=9->(∀e∈fs,evSz e)->Calls Tryz.prog 6 #[.agg #[.slice (some ⟨g,0,none⟩) l.length cap, .int .i64 wi], .string ⟨#[107]⟩, .slice fa fs.length fc] W fun e w'=> ∃v zs,e= .returned (.tuple #[v, .int .i64 (fiE ⟨stgs rs,wi⟩ ⟨#[107]⟩ fs)])/\FdP W ⟨#[107]⟩ (fiL ⟨stgs rs,wi⟩ ⟨#[107]⟩ fs) v zs w'):=hZq (fun g cap rs fa fc fs W hlr hok' hc hk hs hf hfl hfs=>by
  have:=q5M (some ⟨g,0,none⟩) cap rs wi fa fc fs ⟨#[107]⟩ W hs hf (hT.kp hk (by simp)) hok' (fun r hr q hq=>((hok' r hr).2.2 q hq).2.2.2.1) (by omega) (by omega) (by omega) hfs (by decide)
  rwa [hlr]at this)
 have CP:=hZq (fun W (hk:Kp [] w W)=>q41 sa sc l wi W (h.kp hk) hw2 hw1 (fun r hr=>⟨(hw3 r hr).2.2.1,(hw3 r hr).1⟩))
 have HCP:=hZq (fun W (hk:Kp [] w W) (h9:es.length<=9)=>q6s (hE.kp hk (by simp)) hca (by omega) 25)
 have HSZ:Hid (∀e∈es.map (q1J ⟨#[107]⟩),evSz e):=hZq (fun e he=>by
  rw[List.mem_map]at he
  obtain ⟨y,hy,rfl⟩:=he
  have:=hoke y hy
  exact ⟨by show (⟨#[107]⟩:ByteArray).size<=_;decide,this.2.1,this.2.2.1⟩)
 have HB1:=hZq (And.intro b1 k1)
 obtain ⟨S,hS⟩: ∃S:List Stg,S=stgs l:=⟨_,rfl⟩
 rw[<-hS]at CP
 have HRL:Hid (∀rs:List SR,stgs rs=S->rs.length=l.length/\ ∀r∈rs,r.s.ok):=hZq (fun rs he=>⟨qem (he.trans hS),qeW (he.trans hS) hok⟩)
 have HSN:Hid (S.length=l.length):=hZq (by rw[hS];unfold stgs;rw[List.length_map])
 clear h hok hE hoke hca hT b1 k1 hS _hsc hw2 hw3
 obtain ⟨ln,hln⟩: ∃ln,ln=l.length:=⟨_,rfl⟩
 rw[<-hln]at hW1 HB1 FW CP HRL HSN hl hw1 ⊢
 obtain ⟨n,hn⟩: ∃n,n=es.length:=⟨_,rfl⟩
 have HN:=hZq hn
 rw[<-hn]at HCP hle ⊢
 clear hln hn
 go_enter Tryz.func3,Tryz.ntmps3
 go_upto_region 1 with fail
 rw[<-hW1]
 clear hW1
 go_wp2_with fail
 refine (uQ WK).mono ?_
 rintro e w2 ⟨rfl,hk2⟩
 have HK2:=hZq ((uQ HB1).2.trans hk2 (by simp))
 have HB2:=hZq ((uQ HB1).1.kp hk2 (by simp))
 have p0:=(uQ HB2).cell (i:=0) (v:= .slice sa ln sc) rfl
 have p1:=(uQ HB2).cell (i:=1) (v:= .int .i64 wi) rfl
 clear WK hk2 HB1
 by_cases h9:9<n
 ·have h9i:(9:Int)<(n:Int):=by omega
  clear FW CP HCP
  go_wp2
  go_ret
  exact ⟨rfl,uQ HK2⟩
 ·have h9i: ¬ (9:Int)<(n:Int):=by omega
  by_cases h2:ln<2
  ·have h2i:(ln:Int)<2:=by omega
   clear FW CP HCP
   go_wp2
   go_ret
   exact ⟨rfl,uQ HK2⟩
  have h2i: ¬ (ln:Int)<2:=by omega
  obtain ⟨g,cap,w3,hrun,ho,hk3⟩:=uQ HCP w2 (uQ HK2) (by omega)
  have HRUN:=hZq hrun
  have HS3:Hid (SyE w2 g cap (evJ ⟨#[107]⟩ es 0) w3):=hZq ⟨by rw[q1T, <-uQ HN,qaE];exact ho,hk3⟩
  clear HCP hrun ho hk3
  go_wp2_with (at_builtin;refine q0e rfl _ _ _ rfl rfl rfl (uQ HRUN) ?_)
  clear HRUN p0 p1
  go_loopw [34] (fun iv wr=> ∃j:Nat,j<=n/\iv= .int .i64 (j:Int)/\Hid (SyE w2 g cap (evJ ⟨#[107]⟩ es j) wr)) (fun iv _=>n-(intOf iv).toNat)
  case atStart=>exact ⟨0,Nat.zero_le _,rfl,HS3⟩
  case round=>
   obtain ⟨j,hj,rfl,HS⟩:=hrel
   by_cases hlt:j<n
   ·have hli:(j:Int)<(n:Int):=by omega
    have hje:j<es.length:=by rw[<-uQ HN];exact hlt
    have hrow:=(uQ HS).row
    have hgw:w2.heap.size<=g:=(World.ownsRow.lt hrow g rfl).1
    have hjl:j<(evJ ⟨#[107]⟩ es j).length:=by rw[q1T];exact hje
    have hc:=q0o q1f hrow j 0 hjl (by omega)
    rw[Nat.add_zero]at hc
    have hcs:wr.cell? ⟨g,j * 7,none⟩=some (.string ((evJ ⟨#[107]⟩ es j)[j]).k):=hc
    have hfz:wr.frozen? ⟨g,j * 7,none⟩=false:=by
     obtain ⟨_,⟨e,_⟩|⟨g',c',cur,e,_,hb,_⟩⟩:=hrow
     ·cases e
     ·cases e
      exact (show CBox g cur 29 wr from hb).froz _
    have HN1:Hid (SyE w2 g cap (evJ ⟨#[107]⟩ es (j+1)) (wr.setCell ⟨g,j * 7,none⟩ (.string ⟨#[107]⟩))):=hZq ⟨by
     rw[q1T]at hrow ⊢
     exact OwnsX.key hrow rfl hje,(uQ HS).kp.trans (Kp.set _ _ _ _) (fun x hx=>Or.inr (by rw[List.mem_singleton]at hx;omega))⟩
    generalize ((evJ ⟨#[107]⟩ es j)[j]).k=kk at *
    clear hrow hc HS HS3 FW CP HSZ
    go_wp2
    go_roundw
    case rel=>exact ⟨j+1,by omega,by go_num,HN1⟩
    case measure=>simp[intOf];omega
   ·obtain rfl:j=n:=by omega
    have HS4:Hid (SyE w2 g cap (es.map (q1J ⟨#[107]⟩)) wr):=hZq (by have:=uQ HS;rw[uQ HN,qcj]at this;exact this)
    obtain ⟨N,hN⟩: ∃N:Nat,N=ln-1:=⟨_,rfl⟩
    have hN1:1<=N:=by omega
    have hNw:wrap64 ((ln:Int)-1)=(N:Int):=by unfold wrap64;omega
    have hNu:IntKind.u64.wrap (N:Int)=(N:Int):=by rw[IntKind.wrap_u64];omega
    have hNi:IntKind.i64.wrap ((ln:Int)-1)=(N:Int):=by rw[IntKind.wrap_i64];omega
    have hN0:((N:Int)=0)=False:=eq_false (by omega)
    have hN0b:((N:Int)==0)=false:=beq_eq_false_iff_ne.2 (by omega)
    obtain ⟨q,hq,hqN⟩: ∃q:Nat,(IntKind.u64.wrap more).tmod (N:Int)=(q:Int)/\q<N:=by
     have h1:0<=IntKind.u64.wrap more:=by rw[IntKind.wrap_u64];omega
     have h2:=Int.tmod_nonneg (N:Int) h1
     have h3:=Int.tmod_lt_of_pos (IntKind.u64.wrap more) (show (0:Int)<(N:Int) by omega)
     exact ⟨((IntKind.u64.wrap more).tmod (N:Int)).toNat,by omega,by omega⟩
    obtain ⟨k,hk⟩: ∃k:Nat,k=q+1:=⟨_,rfl⟩
    obtain ⟨hqw,hqi,hk1,hkw,hki,hkl,hkk⟩:=qd3 hl hN hqN hk
    have hpc:=((uQ HB2).kp (uQ HS4).kp (by simp))
    have p0:=hpc.cell (i:=0) (v:= .slice sa ln sc) rfl
    have p1:=hpc.cell (i:=1) (v:= .int .i64 wi) rfl
    have HPB:=hZq hpc
    have HKWR:=hZq ((uQ HK2).trans (uQ HS4).kp (by simp))
    obtain ⟨fs,hfs⟩: ∃fs,fs=es.map (q1J ⟨#[107]⟩):=⟨_,rfl⟩
    have hlen:fs.length=j:=by rw[hfs,List.length_map];exact (uQ HN).symm
    rw[<-hfs]at HS4 HSZ
    have HFL:=hZq hlen
    clear HS HS3 HB2 hpc hfs hlen hN HN hk
    go_upto_region 12 with fail
    try rw[hkk]
    clear hNw hNu hNi hN0 hN0b hq hqw hqi hk1 hkw hki p0 p1
    obtain ⟨W0,hW0⟩: ∃W0,W0=wr:=⟨_,rfl⟩
    subst hW0
    have HW0:Hid (WdS W0 W0 S k wi fs 1 (.slice none 0 0) []):=hZq ⟨Kp.refl _ _,⟨World.ownsRow_nil _ _ _ _,fun x hx=>by cases hx⟩,Or.inl ⟨rfl,rfl⟩⟩
    go_wp2_with fail
    go_loopw [10,11] (fun bv hv wq=> ∃(h:Nat) (zs:List Cp),1<=h/\h<=4/\hv= .int .i64 (h:Int)/\(∃a c,bv= .slice a zs.length c)/\Hid (WdS W0 wq S k wi fs (h:Int) bv zs)) (fun _ hv _=>4-(intOf hv).toNat)
    case atStart=>exact ⟨1,[],by decide,by decide,rfl,⟨none,0,rfl⟩,HW0⟩
    case round=>
     clear HW0
     obtain ⟨h,zs,hh1,hh4,rfl,⟨ba,bc,rfl⟩,HW⟩:=hrel
     by_cases hh:h<=3
     ·have hhi:(h:Int)<=3:=by omega
      have HFUL:=hZq (uQ HW).full
      have hpc:=(uQ HPB).kp (uQ HW).kp (by simp)
      have p0:=hpc.cell (i:=0) (v:= .slice sa ln sc) rfl
      have p1:=hpc.cell (i:=1) (v:= .int .i64 wi) rfl
      have CPW:=hZq (uQ CP _ ((uQ HKWR).trans (uQ HW).kp (by simp)))
      clear hpc
      go_wp2_with fail
      refine (uQ CPW).mono ?_
      rintro e w4 ⟨gp,cpp,rs,rfl,_,hse,hcap,hk4,hg4, -,hrs⟩
      obtain ⟨hrl,hro⟩:=uQ HRL rs hse
      have hkr:k<rs.length:=by omega
      have ka:=Kp.alloc w4 (.cells #[.slice (some ⟨gp,0,none⟩) ln cpp, .int .i64 wi] 24)
      have hbw:=CBox.new w4 #[.slice (some ⟨gp,0,none⟩) ln cpp, .int .i64 wi] 24
      have q0:=hbw.cell (i:=0) (v:= .slice (some ⟨gp,0,none⟩) ln cpp) rfl
      obtain ⟨cH0,cZ⟩:=(hrs.up ka).cell hkr
      obtain ⟨hw0,cH⟩: ∃x:Int,(w4.alloc (.cells #[.slice (some ⟨gp,0,none⟩) ln cpp, .int .i64 wi] 24)).cell? ⟨gp,k * 4+1,none⟩=some (.int .i64 x):=⟨_,cH0⟩
      clear cH0
      have hput:=(hrs.up ka).put hkr (h:Int)
      have hset:=Kp.set (w4.alloc (.cells #[.slice (some ⟨gp,0,none⟩) ln cpp, .int .i64 wi] 24)) gp (k * 4+1) (.int .i64 (h:Int))
      have hgpl:gp<w4.heap.size:=by obtain ⟨cs,hb,_⟩:=hrs.row;exact (Array.getElem?_eq_some_iff.1 hb).1
      have hbw2:=hbw.kp hset (by simp;omega)
      have r0:=hbw2.cell (i:=0) (v:= .slice (some ⟨gp,0,none⟩) ln cpp) rfl
      have r1:=hbw2.cell (i:=1) (v:= .int .i64 wi) rfl
      have hkq:=(hk4.trans ka (by simp)).trans hset (fun x hx=>Or.inr (by rw[List.mem_singleton]at hx;omega))
      have hES:stgs (rs.set k (rs[k].how (h:Int)))=stW S k (h:Int):=by rw[qbH hkr,hse]
      have HWQ:=hZq ((uQ HW).up hkq)
      have FQ:=hZq (uQ FW gp cpp (rs.set k (rs[k].how (h:Int))) (some ⟨g,0,none⟩) cap fs _ (by rw[List.length_set];exact hrl) (qdU hkr (by omega) hro) hcap (((uQ HKWR).trans (uQ HW).kp (by simp)).trans hkq (by simp)) hput.sts (((uQ HS4).up ((uQ HW).kp.trans hkq (by simp))).at) (by rw[uQ HFL];omega) (uQ HSZ))
      rw[hES,uQ HFL]at FQ
      have hkc:(k:Int)<(ln:Int):=by omega
      clear CPW hk4 hse hrs hrl hro hkr ka hbw hput hset hbw2 hkq hES p0 p1 hg4 HW
      go_upto_region 17 with fail
      generalize w4.heap.size=gq at q0 r0 r1 cH cZ FQ HWQ ⊢
      generalize w4.alloc (.cells #[.slice (some ⟨gp,0,none⟩) ln cpp, .int .i64 wi] 24)=W5 at *
      go_upto_region 18 with fail
      generalize W5.setCell ⟨gp,k * 4+1,none⟩ (.int .i64 (h:Int))=W6 at *
      clear q0 cH cZ
      go_wp2_with fail
      refine (uQ FQ).mono ?_
      rintro e w7 ⟨v7,zs7,rfl,hP7⟩
      obtain ⟨va,vc,rfl,hvg⟩:=q1H hP7.row
      have HVG:=hZq hvg
      have HP7:=hZq hP7
      have HW7:=hZq ((uQ HWQ).up hP7.kp)
      have HKC:=hZq ((uQ HKWR).trans (uQ HW7).kp (by simp))
      obtain ⟨n7,hn7⟩: ∃n7,n7=zs7.length:=⟨_,rfl⟩
      have HN7:=hZq hn7
      rw[<-hn7]
      obtain ⟨bn,hbn⟩: ∃bn,bn=zs.length:=⟨_,rfl⟩
      have HBN:=hZq hbn
      rw[<-hbn]
      have HE0:Hid (fiE ⟨stW S k (h:Int),wi⟩ ⟨#[107]⟩ fs≠0->n7=0):=hZq (fun hne=>by
       have:=(uQ HP7).ts
       rw[qcr hne]at this
       rw[hn7, <-List.length_map (f:=Cp.T),this]
       rfl)
      obtain ⟨E,hE⟩: ∃E,E=fiE ⟨stW S k (h:Int),wi⟩ ⟨#[107]⟩ fs:=⟨_,rfl⟩
      rw[<-hE]at HE0
      have HE:=hZq hE
      rw[<-hE]
      clear hE hn7 hbn hP7 hvg FQ r0 r1 HWQ
      by_cases h0:E=0
      ·subst h0
       have HM7:Hid (MsR ⟨#[107]⟩ w7 (.slice va n7 vc) zs7):=hZq (by
        rw[uQ HN7]
        exact ⟨qbw (uQ HP7).row,(uQ HP7).cp⟩)
       have HMB:Hid (MsR ⟨#[107]⟩ w7 (.slice ba bn bc) zs):=hZq (by
        rw[uQ HBN]
        exact (uQ HW7).ms)
       have HO7:Hid (∀x∈zs7,MtOk ⟨#[107]⟩ (Mt.toZ x.T)):=hZq (fun x hx=>(q7s (by rw[<-(uQ HP7).ts];exact List.mem_map_of_mem hx)).2.2.1)
       have HSUB:Hid ((zs.map (·.T)).Sublist (zs7.map (·.T))):=hZq (by
        rw[(uQ HP7).ts]
        rcases (uQ HW7).ts with ⟨_,rfl⟩|⟨h3,h4,h5⟩
        ·exact List.nil_sublist _
        ·rw[h4]
         exact qaI S k (by omega) h5 (uQ HE).symm)
       have HNX:Hid (∀wq,Kp [] w7 wq->WdS W0 wq S k wi fs ((h+1:Nat):Int) (.slice va zs7.length vc) zs7):=hZq (fun wq hq=>⟨(uQ HW7).kp.trans hq (by simp),by have:=(uQ HM7).up hq;rwa [uQ HN7]at this,Or.inr ⟨by omega,by rw[show ((h+1:Nat):Int)-1=(h:Int) by omega];exact (uQ HP7).ts,by rw[show ((h+1:Nat):Int)-1=(h:Int) by omega];exact (uQ HE).symm⟩⟩)
       have HGB:Hid (0<bn-> ∃bg,ba=some ⟨bg,0,none⟩):=hZq (fun hb=>by
        obtain ⟨a',c',e,hg⟩:=q1H (uQ HMB).row
        injection e with e1 e2 e3
        subst e1
        exact hg (by rw[<-uQ HBN];exact hb))
       have HOB:=hZq (uQ HFUL).1
       have hn7l:n7<=4096:=by rw[uQ HN7, <-List.length_map (f:=Cp.T),(uQ HP7).ts];exact q95
       have hbnl:bn<=4096:=by rw[uQ HBN];exact (uQ HFUL).2
       clear HW7 HFUL HE HE0
       go_wp2_with fail
       go_loopw [15,77] (fun av jv wq=> ∃j2 at2:Nat,j2<=n7/\at2<=bn/\jv= .int .i64 (j2:Int)/\av= .int .i64 (at2:Int)/\Hid (at2=gr (zs.map (·.T)) ((zs7.map (·.T)).take j2) 0)/\Hid (Kp [] w7 wq)) (fun _ jv _=>n7-(intOf jv).toNat)
       case atStart=>exact ⟨0,0,Nat.zero_le _,Nat.zero_le _,rfl,rfl,hZq rfl,hZq (Kp.refl _ _)⟩
       case round=>
        obtain ⟨j2,at2,hj2,hat2,rfl,rfl,HAT,HKQ⟩:=hrel
        by_cases hlt:j2<n7
        ·have hlti:(j2:Int)<(n7:Int):=by omega
         have hj7:j2<zs7.length:=by rw[<-uQ HN7];exact hlt
         obtain ⟨ag,rfl⟩:=uQ HVG (by rw[<-uQ HN7];omega)
         obtain ⟨c0,c1⟩:=((uQ HM7).up (uQ HKQ)).cell (uQ HN7) j2 hj7
         have kb:=Kp.alloc wr (.cells #[.string ⟨#[107]⟩, .slice (some ⟨zs7[j2].g,0,none⟩) zs7[j2].T.length zs7[j2].T.length] 41)
         have XB:Hid (∀W,Kp [] (wr.alloc (.cells #[.string ⟨#[107]⟩, .slice (some ⟨zs7[j2].g,0,none⟩) zs7[j2].T.length zs7[j2].T.length] 41)) W->W.cell? ⟨wr.heap.size,0,none⟩=some (.string ⟨#[107]⟩)/\W.cell? ⟨wr.heap.size,1,none⟩=some (.slice (some ⟨zs7[j2].g,0,none⟩) zs7[j2].T.length zs7[j2].T.length)):=hZq (fun W hk=>by
          have:=(CBox.new wr #[.string ⟨#[107]⟩, .slice (some ⟨zs7[j2].g,0,none⟩) zs7[j2].T.length zs7[j2].T.length] 41).kp hk (by simp)
          exact ⟨this.cell rfl,this.cell rfl⟩)
         have HKB:=hZq ((uQ HKQ).trans kb (by simp))
         have HSM:Hid (∀(h1:at2<zs.length) W,Kp [] w7 W->Calls Tryz.prog 7 #[.agg #[.string ⟨#[107]⟩,zs7[j2].v], .agg #[.string ⟨#[107]⟩,zs[at2].v]] W fun e w'=>e= .returned (.bool (decide (zs7[j2].T=zs[at2].T)))/\Kp [] W w'):=hZq (fun h1 W hk=>by
          have m1:=List.getElem_mem hj7
          have m2:=List.getElem_mem h1
          have:=q33 ⟨#[107]⟩ (some ⟨zs7[j2].g,0,none⟩) zs7[j2].T.length (Mt.toZ zs7[j2].T) ⟨#[107]⟩ (some ⟨zs[at2].g,0,none⟩) zs[at2].T.length (Mt.toZ zs[at2].T) W (uQ HO7 _ m1) (uQ HOB _ m2) (((uQ HM7).up hk).cp _ m1).stages (((uQ HMB).up hk).cp _ m2).stages
          rw[q1j,q1j]at this
          refine Calls.mono this ?_
          rintro e w' ⟨rfl,hb⟩
          refine ⟨?_,Kp.ofBelow hb⟩
          congr 3
          rw[eq_iff_iff]
          exact ⟨fun h=>q7W h.2,fun h=>⟨rfl,by rw[h]⟩⟩)
         have HCB:Hid (∀(h1:at2<zs.length) W,Kp [] w7 W-> ∃bg,ba=some ⟨bg,0,none⟩/\W.cell? ⟨bg,at2 * 2,none⟩=some (.string ⟨#[107]⟩)/\W.cell? ⟨bg,at2 * 2+1,none⟩=some zs[at2].v):=hZq (fun h1 W hk=>by
          obtain ⟨bg,e⟩:=uQ HGB (by rw[uQ HBN];omega)
          refine ⟨bg,e,?_⟩
          have hm:=(uQ HMB).up hk
          rw[e]at hm
          exact hm.cell (uQ HBN) at2 h1)
         have HG2:Hid (∀D:Bool,(D=true↔ ∃h1:at2<zs.length,zs7[j2].T=zs[at2].T)->(if D then at2+1 else at2)=gr (zs.map (·.T)) ((zs7.map (·.T)).take (j2+1)) 0/\(if D then at2+1 else at2)<=bn):=hZq (fun D hD=>by
          have hm:j2<(zs7.map (·.T)).length:=by rw[List.length_map];exact hj7
          rw[List.take_succ_eq_append_getElem hm,q7y, <-uQ HAT,List.getElem_map]
          have hiff:((zs.map (·.T))[at2]?=some zs7[j2].T)↔D=true:=by
           rw[hD,List.getElem?_map]
           constructor
           ·intro hx
            rw[Option.map_eq_some_iff]at hx
            obtain ⟨y,hy,hyt⟩:=hx
            obtain ⟨h1,h2⟩:=List.getElem?_eq_some_iff.1 hy
            exact ⟨h1,by rw[h2,hyt]⟩
           ·rintro ⟨h1,h2⟩
            rw[List.getElem?_eq_getElem h1,h2]
            rfl
          cases D with
          |true=>
           rw[if_pos (hiff.2 rfl)]
           obtain ⟨h1,_⟩:=hD.1 rfl
           exact ⟨rfl,by rw[uQ HBN];show at2+1<=_;omega⟩
          |false=>
           rw[if_neg (show ¬ ((zs.map (·.T))[at2]?=some zs7[j2].T) from fun hx=>by have:=hiff.1 hx;cases this)]
           exact ⟨rfl,hat2⟩)
         unfold Cp.v at c1
         go_upto_region 25 with fail
         obtain ⟨mg,hmg⟩: ∃mg,mg=wr.heap.size:=⟨_,rfl⟩
         rw[<-hmg]at XB ⊢
         clear hmg c0 c1 kb
         generalize wr.alloc (.cells #[.string ⟨#[107]⟩, .slice (some ⟨zs7[j2].g,0,none⟩) zs7[j2].T.length zs7[j2].T.length] 41)=W8 at *
         go_cut [92] (fun dv wc=> ∃D:Bool,dv= .bool D/\Hid ((D=true↔ ∃h1:at2<zs.length,zs7[j2].T=zs[at2].T)/\Kp [] W8 wc))
         case first=>
          by_cases hab:at2<bn
          ·have hzl:at2<zs.length:=by rw[<-uQ HBN];exact hab
           have habi:(at2:Int)<(bn:Int):=by omega
           have qd:decide ((at2:Int)<(bn:Int))=true:=decide_eq_true habi
           have SM:=hZq (fun W hk=>uQ HSM hzl W hk)
           obtain ⟨bg,rfl,_⟩:=uQ HCB hzl w7 (Kp.refl _ _)
           have CB:Hid (∀W,Kp [] w7 W->W.cell? ⟨bg,at2 * 2,none⟩=some (.string ⟨#[107]⟩)/\W.cell? ⟨bg,at2 * 2+1,none⟩=some zs[at2].v):=hZq (fun W hk=>by
            obtain ⟨bg',e,hc⟩:=uQ HCB hzl W hk
            injection e with e
            injection e with e
            subst e
            exact hc)
           obtain ⟨D,hD⟩: ∃D,D=decide (zs7[j2].T=zs[at2].T):=⟨_,rfl⟩
           rw[<-hD]at SM
           have HD:Hid (D=true↔ ∃h1:at2<zs.length,zs7[j2].T=zs[at2].T):=hZq ⟨fun hx=>⟨hzl,by rw[hD,decide_eq_true_eq]at hx;exact hx⟩,fun ⟨_,hx⟩=>by rw[hD,decide_eq_true_eq];exact hx⟩
           clear hD HSM HCB HG2 HM7 HMB HO7 HSUB HNX HGB HOB HAT HP7
           unfold Cp.v at SM CB
           generalize zs7[j2].T.length=n1 at *
           generalize zs[at2].T.length=n2 at *
           generalize zs7[j2].g=g1 at *
           generalize zs[at2].g=g2 at *
           have y0:W8.drew.cell? ⟨mg,0,none⟩=some (.string ⟨#[107]⟩)/\W8.drew.cell? ⟨mg,1,none⟩=some (.slice (some ⟨g1,0,none⟩) n1 n1)/\W8.drew.cell? ⟨bg,at2 * 2,none⟩=some (.string ⟨#[107]⟩)/\W8.drew.cell? ⟨bg,at2 * 2+1,none⟩=some (.slice (some ⟨g2,0,none⟩) n2 n2):=by
            have a1:=uQ XB _ (Kp.drew _)
            have a2:=uQ CB _ ((uQ HKB).trans (Kp.drew _) (by simp))
            exact ⟨a1.1,a1.2,a2.1,a2.2⟩
           have YK:Hid (∀W,Kp [] W8 W->W.cell? ⟨mg,0,none⟩=some (.string ⟨#[107]⟩)/\W.cell? ⟨mg,1,none⟩=some (.slice (some ⟨g1,0,none⟩) n1 n1)/\W.cell? ⟨bg,at2 * 2,none⟩=some (.string ⟨#[107]⟩)/\W.cell? ⟨bg,at2 * 2+1,none⟩=some (.slice (some ⟨g2,0,none⟩) n2 n2)):=hZq (fun W hk=>by
            have a1:=uQ XB _ hk
            have a2:=uQ CB _ ((uQ HKB).trans hk (by simp))
            exact ⟨a1.1,a1.2,a2.1,a2.2⟩)
           clear XB CB
           go_region_held3 (fun W=>W.cell? ⟨mg,0,none⟩=some (.string ⟨#[107]⟩)/\W.cell? ⟨mg,1,none⟩=some (.slice (some ⟨g1,0,none⟩) n1 n1)/\W.cell? ⟨bg,at2 * 2,none⟩=some (.string ⟨#[107]⟩)/\W.cell? ⟨bg,at2 * 2+1,none⟩=some (.slice (some ⟨g2,0,none⟩) n2 n2)) (first|with_reducible exact y0|with_reducible exact y1|exact y0)
            (first
             |(go_at_call 7;refine (uQ SM _ ((uQ HKB).trans (Kp.drew _) (by simp))).mono ?_;rintro _ w9 ⟨rfl,k9⟩;have K9:=hZq ((Kp.drew W8).trans k9 (by simp));have y1:=uQ YK _ (uQ K9);clear k9))
           go_wp2
           go_meet
           exact ⟨D,rfl,hZq ⟨uQ HD,uQ K9⟩⟩
          ·have habi: ¬ (at2:Int)<(bn:Int):=by omega
           have qd:decide ((at2:Int)<(bn:Int))=false:=decide_eq_false habi
           have qdn:decide (at2<bn)=false:=decide_eq_false hab
           have HD:Hid (false=true↔ ∃h1:at2<zs.length,zs7[j2].T=zs[at2].T):=hZq ⟨fun hx=>(by cases hx),fun ⟨h1,_⟩=>absurd h1 (by rw[<-uQ HBN];exact hab)⟩
           clear HSM HCB HG2 HM7 HMB HO7 HSUB HNX HGB HOB HAT HP7 XB
           go_quiet (fail)
           go_wp2
           go_meet
           exact ⟨false,rfl,hZq ⟨uQ HD,Kp.drewQ _ _⟩⟩
         case rest=>
          obtain ⟨D,rfl,HD⟩:=hcut
          obtain ⟨z1,z2⟩:=uQ HG2 D (uQ HD).1
          have HZ1:=hZq z1
          have HK9:=hZq ((uQ HKB).trans (uQ HD).2 (by simp))
          clear HSM HCB HG2 HD XB z1 HAT
          cases D with
          |true=>
           simp only[if_true]at HZ1 z2
           go_wp2
           go_roundw
           case rel=>exact ⟨j2+1,at2+1,by omega,z2,by go_num,by go_num,HZ1,HK9⟩
           case measure=>simp[intOf];omega
          |false=>
           simp only[Bool.false_eq_true,if_false]at HZ1 z2
           go_wp2
           go_roundw
           case rel=>exact ⟨j2+1,at2,by omega,z2,by go_num,rfl,HZ1,HK9⟩
           case measure=>simp[intOf];omega
        ·obtain rfl:j2=n7:=by omega
         have hfin:at2=bn:=by
          have h1:=uQ HAT
          rw[List.take_of_length_le (by rw[List.length_map,uQ HN7];exact Nat.le_refl _),q5P _ _ 0 (Nat.zero_le _) (by rw[List.drop_zero];exact uQ HSUB),List.length_map, <-uQ HBN]at h1
          exact h1
         subst hfin
         have hb9:((at2:Int) != (at2:Int))=false:=bne_self_eq_false _
         have HW9:=hZq (uQ HNX _ (uQ HKQ))
         clear HNX HSUB HM7 HMB HO7 HGB HOB HAT HP7 HKQ
         go_wp2
         go_roundw
         case rel=>exact ⟨h+1,zs7,by omega,by omega,by go_num,⟨va,vc,by rw[uQ HN7]⟩,by rw[<-uQ HN7]at HW9;exact HW9⟩
         case measure=>simp[intOf];omega
      ·obtain rfl:=uQ HE0 h0
       clear HE0 HP7 HW7 HVG HFUL HBN HN7
       go_wp2
       go_ret
       exact ⟨rfl,uQ HKC⟩
     ·have hhi: ¬ (h:Int)<=3:=by omega
      have HF:=hZq ((uQ HKWR).trans (uQ HW).kp (by simp))
      clear HW
      go_wp2
      go_ret
      exact ⟨rfl,uQ HF⟩
section
open Go.RowKit Go.Deep
theorem q2m:Tryz.prog.cellsOf 29=7:=by kernel_rfl
theorem q8U:Tryz.prog.cellsOf 2=1:=by kernel_rfl
theorem q5u:Tryz.prog.cellsOf 27=4:=by kernel_rfl
theorem q82:Tryz.prog.cellsOf 9=1:=by kernel_rfl
theorem q5K: ∃f0 f1 f2 f3:Field,Tryz.prog.underlying 29=some (.struct #[f0,f1,f2,f3])/\f0.type=9/\f1.type=9/\f2.type=27/\f3.type=9/\f0.offset=0/\f1.offset=1/\f2.offset=2/\f3.offset=6:=
 ⟨_,_,_,_,Tryz.underlying29,rfl,rfl,rfl,rfl,rfl,rfl,rfl,rfl⟩
theorem qeN {α:Type}: ∀(l:List α),l.length=7-> ∃a b c d e f g,l=[a,b,c,d,e,f,g]
 |[a,b,c,d,e,f,g],_=>⟨a,b,c,d,e,f,g,rfl⟩
theorem qc7 {α:Type}: ∀(l:List α),l.length=4-> ∃a b c d,l=[a,b,c,d]
 |[a,b,c,d],_=>⟨a,b,c,d,rfl⟩
section
variable {H:Type} {enc:TypeId × Value->H} {W:World} {spare:Nat->Bool} {held:Bool} {fuel:Nat} {x:DataW H × List MemPlace}
theorem q8s {cs:Array Value}(hsz:cs.size=Tryz.prog.cellsOf 29)(h:DataW.trod enc Tryz.prog W 0 spare held fuel 29 cs.toList=some x):
  ∃e:Ev,cs=e.c/\e.ok:=by
 obtain ⟨f0,f1,f2,f3,hu,t0,t1,t2,t3,o0,o1,o2,o3⟩:=q5K
 rw[q2m]at hsz
 obtain ⟨xs,n,_,_,_,hxl,hf⟩:=DataW.trod_struct hu h
 obtain ⟨l⟩:=cs
 obtain ⟨v0,v1,v2,v3,v4,v5,v6,rfl⟩:=qeN l hsz
 obtain ⟨y0,y1,y2,y3,rfl⟩:=qc7 xs hxl
 have g0:=hf 0 f0 rfl
 have g1:=hf 1 f1 rfl
 have g2:=hf 2 f2 rfl
 have g3:=hf 3 f3 rfl
 simp[o0,o1,o2,o3,t0,t1,t2,t3,q82,q5u]at g0 g1 g2 g3
 obtain ⟨k,q0,_,hk⟩:=DataW.trod_string Tryz.underlying9 g0
 obtain ⟨t,q1,_,ht⟩:=DataW.trod_string Tryz.underlying9 g1
 obtain ⟨s,q3,_,hs⟩:=DataW.trod_string Tryz.underlying9 g3
 simp only[List.cons.injEq,and_true]at q0 q1 q3
 subst q0 q1 q3
 obtain ⟨zs,m,_,_,_,hzl,hz⟩:=DataW.trod_array Tryz.underlying27 g2
 obtain ⟨z0,z1,z2,z3,rfl⟩:=qc7 zs hzl
 have a0:=hz 0 (by omega)
 have a1:=hz 1 (by omega)
 have a2:=hz 2 (by omega)
 have a3:=hz 3 (by omega)
 simp[q8U]at a0 a1 a2 a3
 obtain ⟨n0,p0,_,w0⟩:=DataW.trod_int Tryz.underlying2 a0
 obtain ⟨n1,p1,_,w1⟩:=DataW.trod_int Tryz.underlying2 a1
 obtain ⟨n2,p2,_,w2⟩:=DataW.trod_int Tryz.underlying2 a2
 obtain ⟨n3,p3,_,w3⟩:=DataW.trod_int Tryz.underlying2 a3
 simp only[List.cons.injEq,and_true]at p0 p1 p2 p3
 subst p0 p1 p2 p3
 have u0:=bounds_i64 w0
 have u1:=bounds_i64 w1
 have u2:=bounds_i64 w2
 have u3:=bounds_i64 w3
 unfold maxLen at hk ht hs
 exact ⟨⟨k,t,n0,n1,n2,n3,s⟩,rfl,by show k.size<=_;omega,by show t.size<=_;omega,by show s.size<=_;omega,⟨u0.1,by show n0<_;omega⟩,⟨u1.1,by show n1<_;omega⟩,⟨u2.1,by show n2<_;omega⟩,⟨u3.1,by show n3<_;omega⟩⟩
end
end
section
open Go.RowKit Go.Deep
theorem q6Y {H:Type}{enc:TypeId × Value->H}{W:World}{spare:Nat->Bool}{held:Bool}{fuel:Nat}{v:Value}{x:DataW H × List MemPlace}
  (h:DataW.trod enc Tryz.prog W 0 spare held fuel 25 [v]=some x):
  ∃(ad:Option Addr) (cap:Nat) (l:List Ev),v= .slice ad l.length cap/\l.length<=9223372036854775807/\EvsAt W ad l/\ ∀y∈l,y.ok:=by
 rcases open_slice Tryz.underlying25 h with ⟨hcs,_⟩|⟨a,len,cap,m,n,D,Pl,hcs,hb,hl,hm,hmm,_,hx⟩
 ·simp only[List.cons.injEq,and_true]at hcs
  subst hcs
  exact ⟨none,0,[],rfl,by simp,fun hne=>absurd rfl hne,by simp⟩
 ·simp only[List.cons.injEq,and_true]at hcs
  subst hcs
  have hlm:len<=m:=by rw[hmm];split <;> omega
  have each: ∀i,i<len-> ∃y:Ev,(∀(j:Nat) (u:Value),y.c[j]?=some u->W.cell? (a.add (i * 7+j))=some u)/\y.ok:=by
   intro i hi
   obtain ⟨cs',h1,h2⟩:=hx i (by omega)
   rw[q2m]at h1
   obtain ⟨_,hlen,hcell⟩:=World.cells?_some h1
   obtain ⟨y,hy,hok⟩:=q8s (cs:=cs'.toArray) (by rw[q2m];simpa using hlen) (by simpa using h2)
   refine ⟨y,fun j u hu=>?_,hok⟩
   rw[<-hy]at hu
   have hj:j<cs'.length:=by
    have:=(Array.getElem?_eq_some_iff.1 hu).1
    simpa using this
   have e0:=hcell j (by omega)
   rw[Go.Deep.add_add]at e0
   rw[e0]
   simpa using hu
  have hinh:Inhabited Ev:=⟨⟨⟨#[]⟩,⟨#[]⟩,0,0,0,0,⟨#[]⟩⟩⟩
  obtain ⟨q,hq⟩:=choose_lt each
  refine ⟨some a,cap,(List.range len).map q,by simp,by simp;unfold maxLen at hm;omega,fun hne=>?_,fun y hy=>?_⟩
  ·have h0:0<len:=by
    rcases Nat.eq_zero_or_pos len with e|e
    ·subst e;simp at hne
    ·exact e
   obtain ⟨b,off,spot⟩:=a
   have hc0:=(hq 0 h0).1 0 _ rfl
   have hspot:spot=none:=by simpa [Addr.add] using World.cell?_spot hc0
   subst hspot
   refine ⟨b,off,rfl,?_,fun i e hi j u hu=>?_⟩
   ·rcases Nat.lt_or_ge b W.heap.size with hlt|hge
    ·exact hlt
    ·exfalso
     rw[Go.WideShapes.add_plain]at hc0
     simp[World.cell?,Array.getElem?_eq_none hge]at hc0
   ·have hi':i<len:=by
     have:=(List.getElem?_eq_some_iff.1 hi).1
     simpa using this
    have he:e=q i:=by
     rw[List.getElem?_map,List.getElem?_range hi']at hi
     simpa using hi.symm
    subst he
    have:=(hq i hi').1 j u hu
    rw[Go.WideShapes.add_plain]at this
    rw[Nat.add_assoc]
    exact this
  ·obtain ⟨i,hi,rfl⟩:=List.mem_map.1 hy
   exact (hq i (List.mem_range.1 hi)).2
end
section
open Go.RowKit Go.Deep
section
variable {H:Type} {enc:TypeId × Value->H} {W:World} {spare:Nat->Bool} {held:Bool} {fuel:Nat} {x:DataW H × List MemPlace}
theorem q69 {ad:Option Addr}{n cap:Nat}(h:DataW.trod enc Tryz.prog W 0 spare held fuel 25 [.slice ad n cap]=some x):n<=cap/\(ad=none->cap=0):=by
 rcases open_slice Tryz.underlying25 h with ⟨hcs,_⟩|⟨a,len,cap,m,k,D,Pl,hcs,hb,hl,hm,hmm,_,hx⟩
 ·simp only[List.cons.injEq,and_true]at hcs
  cases hcs
  exact ⟨Nat.le_refl _,fun _=>rfl⟩
 ·simp only[List.cons.injEq,and_true]at hcs
  cases hcs
  exact ⟨hl,fun e=>by cases e⟩
theorem q6c {ad:Option Addr}{n cap:Nat}(h:DataW.trod enc Tryz.prog W 0 spare held fuel 22 [.slice ad n cap]=some x):n<=cap:=by
 rcases open_slice Tryz.underlying22 h with ⟨hcs,_⟩|⟨a,len,cap,m,k,D,Pl,hcs,hb,hl,hm,hmm,_,hx⟩
 ·simp only[List.cons.injEq,and_true]at hcs
  cases hcs
  exact Nat.le_refl _
 ·simp only[List.cons.injEq,and_true]at hcs
  cases hcs
  exact hl
theorem q3I {sa:Option Addr}{n sc:Nat}{wi:Int}(h:DataW.trod enc Tryz.prog W 0 spare held fuel 24 [.slice sa n sc, .int .i64 wi]=some x):n<=sc:=by
 obtain ⟨f0,f1,hu,t0,t1,o0,o1⟩:=q2w
 obtain ⟨xs,k,_,hxe,_,hxl,hf⟩:=DataW.trod_struct hu h
 match xs,hxl with
 |[y0,y1],_=>
  have g0:=hf 0 f0 rfl
  simp[o0,t0,q2Z]at g0
  exact q6c g0
end
end
end Go.Proofs.YtlgfjbcihdkcdaaGreatDoor
