/-
  Walks and plain facts, made small.
-/
import Derived.Test.YtcmjnlpofebbmaaGreatDoorMa40
set_option maxRecDepth 100000
set_option maxHeartbeats 8000000
set_option linter.unusedSimpArgs false
namespace Go.Proofs.YtcmjnlpofebbmaaGreatDoor
open Go.RowKit Go.Shelf
structure MsR (key:ByteArray)(w:World)(v:Value)(zs:List Cp):Prop where
 row:w.ownsRow 0 37 2 v zs.length (zs.flatMap (mtE key))
 cp: ∀x∈zs,CpAt w x
theorem q3K {w:World}{B e sz n:Nat}{v:Value}{xs:List Value}(h:w.ownsRow B e sz v n xs):w.ownsRow 0 e sz v n xs:=by
 obtain ⟨h1,h2|⟨g,cap,cur,h2,_,h4⟩⟩:=h
 ·exact ⟨h1,Or.inl h2⟩
 ·exact ⟨h1,Or.inr ⟨g,cap,cur,h2,Nat.zero_le _,h4⟩⟩
theorem MsR.kp {key:ByteArray}{F:List Nat}{w w':World}{v:Value}{zs:List Cp}(h:MsR key w v zs)(hk:Kp F w w')(h1: ∀g,v.ownBlock=some g->g∉F)(h2: ∀x∈zs, ∀k∈x.B,k∉F):MsR key w' v zs:=
 ⟨q02 h.row hk h1,fun x hx=>(h.cp x hx).kp hk (h2 x hx)⟩
theorem MsR.up {key:ByteArray}{w w':World}{v:Value}{zs:List Cp}(h:MsR key w v zs)(hk:Kp [] w w'):MsR key w' v zs:=h.kp hk (by simp) (by simp)
theorem MsR.cell {key:ByteArray}{w:World}{g n c:Nat}{zs:List Cp}(h:MsR key w (.slice (some ⟨g,0,none⟩) n c) zs)(hn:n=zs.length)(j:Nat)(hj:j<zs.length):w.cell? ⟨g,j * 2,none⟩=some (.string key)/\w.cell? ⟨g,j * 2+1,none⟩=some zs[j].v:=by
 subst hn
 have c0:=q0t (enc:=mtE key) (sz:=2) (q15 key) h.row j 0 hj (by omega)
 have c1:=q0t (enc:=mtE key) (sz:=2) (q15 key) h.row j 1 hj (by omega)
 rw[Nat.add_zero]at c0
 exact ⟨c0,c1⟩
theorem q8y (key:ByteArray)(u v:Value)(xs ys:List Cp)(w:World)(hx:MsR key w u xs)(hy:MsR key w v ys)(ok1: ∀x∈xs,MtOk key (Mt.toZ x.T))(ok2: ∀x∈ys,MtOk key (Mt.toZ x.T))(hl1:xs.length<=1000000)(_hl2:ys.length<=1000000):
  Calls Tryz.prog 6 #[u,v] w fun e w'=>e= .returned (.bool (decide (xs.map (·.T)=ys.map (·.T))))/\Kp [] w w':=by
 obtain ⟨a1,c1,rfl,g1⟩:=q0Z hx.row
 obtain ⟨a2,c2,rfl,g2⟩:=q0Z hy.row
 obtain ⟨R,hR⟩: ∃R,R=decide (xs.map (·.T)=ys.map (·.T)):=⟨_,rfl⟩
 rw[<-hR]
 have HR:=hZq hR
 by_cases hlen:xs.length=ys.length
 ·have HX:=hZq hx
  have HY:=hZq hy
  have HG1:=hZq g1
  have HG2:=hZq g2
  have HSM:Hid (∀(j:Nat) (h1:j<xs.length) (h2:j<ys.length) W,Kp [] w W->Calls Tryz.prog 9 #[.agg #[.string key,xs[j].v], .agg #[.string key,ys[j].v]] W fun e w'=>e= .returned (.bool (decide (xs[j].T=ys[j].T)))/\Kp [] w w'):=hZq (fun j h1 h2 W hk=>by
   have m1:=List.getElem_mem h1
   have m2:=List.getElem_mem h2
   have:=q2Y key (some ⟨xs[j].g,0,none⟩) xs[j].T.length (Mt.toZ xs[j].T) key (some ⟨ys[j].g,0,none⟩) ys[j].T.length (Mt.toZ ys[j].T) W (ok1 _ m1) (ok2 _ m2) ((hx.up hk).cp _ m1).stages ((hy.up hk).cp _ m2).stages
   rw[q0I,q0I]at this
   refine Calls.mono this ?_
   rintro e w' ⟨rfl,hb⟩
   refine ⟨?_,hk.trans (Kp.ofBelow hb) (by simp)⟩
   congr 3
   rw[eq_iff_iff]
   exact ⟨fun h=>q7U h.2,fun h=>⟨rfl,by rw[h]⟩⟩)
  obtain ⟨n,hn⟩: ∃n,n=xs.length:=⟨_,rfl⟩
  have HN:=hZq hn
  have HN2:Hid (n=ys.length):=hZq (by rw[hn];exact hlen)
  rw[<-hlen, <-hn]
  rw[<-hn]at hl1
  clear hx hy hR g1 g2 hlen ok1 ok2 hn
  go_enter Tryz.func6,Tryz.ntmps6
  go_wp2_with fail
  go_loopw [5] (fun iv wr=> ∃j:Nat,j<=n/\iv= .int .i64 (j:Int)/\Hid (((xs.take j).map (·.T)=(ys.take j).map (·.T))/\Kp [] w wr)) (fun iv _=>n-(intOf iv).toNat)
  case atStart=>exact ⟨0,Nat.zero_le _,rfl,hZq ⟨rfl,Kp.refl _ _⟩⟩
  case round=>
   obtain ⟨j,hj,rfl,HK⟩:=hrel
   by_cases hlt:j<n
   ·have hli:(j:Int)<(n:Int):=by omega
    have h1:j<xs.length:=by rw[<-uQ HN];exact hlt
    have h2:j<ys.length:=by rw[<-uQ HN2];exact hlt
    obtain ⟨b1,rfl⟩:=uQ HG1 (by omega)
    obtain ⟨b2,rfl⟩:=uQ HG2 (by omega)
    have CL:Hid (∀W,Kp [] w W->W.cell? ⟨b1,j * 2,none⟩=some (.string key)/\W.cell? ⟨b1,j * 2+1,none⟩=some (.slice (some ⟨xs[j].g,0,none⟩) xs[j].T.length xs[j].T.length)/\W.cell? ⟨b2,j * 2,none⟩=some (.string key)/\W.cell? ⟨b2,j * 2+1,none⟩=some (.slice (some ⟨ys[j].g,0,none⟩) ys[j].T.length ys[j].T.length)):=hZq (fun W hk=>by
     have e1:=((uQ HX).up hk).cell rfl j h1
     have e2:=((uQ HY).up hk).cell rfl j h2
     exact ⟨e1.1,e1.2,e2.1,e2.2⟩)
    obtain ⟨V,hV⟩: ∃V,V=wr.drew:=⟨_,rfl⟩
    have kV:Kp [] w V:=by rw[hV];exact (uQ HK).2.trans (Kp.drew _) (by simp)
    have SM:=hZq (uQ HSM j h1 h2 V kV)
    have hS:=uQ CL V kV
    have HST:Hid ((xs.take (j+1)).map (·.T)=(ys.take (j+1)).map (·.T)↔xs[j].T=ys[j].T):=hZq (by
     rw[List.take_succ_eq_append_getElem h1,List.take_succ_eq_append_getElem h2,List.map_append,List.map_append,(uQ HK).1]
     simp)
    have HNT:Hid (R=true->xs[j].T=ys[j].T):=hZq (fun hr=>by
     rw[uQ HR,decide_eq_true_eq]at hr
     have:=congrArg (fun l=>l[j]?) hr
     simpa [h1,h2] using this)
    unfold Cp.v at SM
    generalize xs[j].T.length=n1 at *
    generalize ys[j].T.length=n2 at *
    generalize xs[j].g=g1 at *
    generalize ys[j].g=g2 at *
    generalize xs[j].T=T1 at *
    generalize ys[j].T=T2 at *
    obtain ⟨D,hD⟩: ∃D,D=decide (T1=T2):=⟨_,rfl⟩
    rw[<-hD]at SM
    have HD:=hZq hD
    clear hD HSM HX HY HG1 HG2
    go_upto_region 6 with fail
    refine wp_region_held_drew (S:=fun W=>W.cell? ⟨b1,j * 2,none⟩=some (.string key)/\W.cell? ⟨b1,j * 2+1,none⟩=some (.slice (some ⟨g1,0,none⟩) n1 n1)/\W.cell? ⟨b2,j * 2,none⟩=some (.string key)/\W.cell? ⟨b2,j * 2+1,none⟩=some (.slice (some ⟨g2,0,none⟩) n2 n2)) (by kernel_rfl) (by rw[<-hV];exact hS) (fun hHeld=>?_)
    rw[<-hV]at hHeld ⊢
    clear hV
    show wpAnyH _ _ _ _ _ 10 (Array.replicate 10 false) _ _
    refine zzH (i:=0) (v:=?_) rfl (fun _ _ _ h=>h) (Or.inl ⟨by rfl,?_⟩) (by assumption) ?_
    rotate_left 1
    ·intro w0 hSw;(try dsimp only at hSw);go_simp;(try with_reducible rfl)
    try simp only[Act.put,zz1,zz2,zz3]
    refine zzH (i:=1) (v:=?_) rfl (fun _ _ _ h=>h) (Or.inl ⟨by rfl,?_⟩) (by assumption) ?_
    rotate_left 1
    ·intro w0 hSw;(try dsimp only at hSw);go_simp;(try with_reducible rfl)
    try simp only[Act.put,zz1,zz2,zz3]
    refine zzH (i:=2) (v:=?_) rfl (fun _ _ _ h=>h) (Or.inl ⟨by rfl,?_⟩) (by assumption) ?_
    rotate_left 1
    ·intro w0 hSw;(try dsimp only at hSw);go_simp;(try with_reducible rfl)
    try simp only[Act.put,zz1,zz2,zz3]
    refine zzH (i:=3) (v:=?_) rfl (fun _ _ _ h=>h) (Or.inl ⟨by rfl,?_⟩) (by assumption) ?_
    rotate_left 1
    ·intro w0 hSw;(try dsimp only at hSw);go_simp;(try with_reducible rfl)
    try simp only[Act.put,zz1,zz2,zz3]
    refine zzH (i:=4) (v:=?_) rfl (fun _ _ _ h=>h) (Or.inl ⟨by rfl,?_⟩) (by assumption) ?_
    rotate_left 1
    ·intro w0 hSw;(try dsimp only at hSw);go_simp;(try with_reducible rfl)
    try simp only[Act.put,zz1,zz2,zz3]
    refine zzH (i:=5) (v:=?_) rfl (fun _ _ _ h=>h) (Or.inl ⟨by rfl,?_⟩) (by assumption) ?_
    rotate_left 1
    ·intro w0 hSw;(try dsimp only at hSw);go_simp;(try with_reducible rfl)
    try simp only[Act.put,zz1,zz2,zz3]
    refine zzH (i:=6) (v:=?_) rfl (fun _ _ _ h=>h) (Or.inl ⟨by rfl,?_⟩) (by assumption) ?_
    rotate_left 1
    ·intro w0 hSw;(try dsimp only at hSw);go_simp;(try with_reducible rfl)
    try simp only[Act.put,zz1,zz2,zz3]
    refine zzH (i:=7) (v:=?_) rfl (fun _ _ _ h=>h) (Or.inl ⟨by rfl,?_⟩) (by assumption) ?_
    rotate_left 1
    ·intro w0 hSw;(try dsimp only at hSw);go_simp;(try with_reducible rfl)
    try simp only[Act.put,zz1,zz2,zz3]
    refine wpAnyH_ready (rs:=[8]) (by kernel_rfl) (by simp) ?_
    refine AllReadyH.cons rfl (fun K hK=>?_) AllReadyH.nil
    go_simp
    refine (uQ SM).mono ?_
    rintro e w5 ⟨rfl,hk5⟩
    refine hK.out _ _ ?_ (fun hHeld=>?_)
    ·exact uQ CL w5 hk5
    clear hK K
    try simp only[Act.put,zz1,zz2,zz3]
    refine zzH (i:=9) (v:=?_) rfl (fun _ _ _ h=>h) (Or.inl ⟨by rfl,?_⟩) (by assumption) ?_
    rotate_left 1
    ·intro w0 hSw;(try dsimp only at hSw);go_simp;(try with_reducible rfl)
    try simp only[Act.put,zz1,zz2,zz3]
    refine wpAnyH_done (by kernel_rfl) ?_ _
    have HK5:=hZq hk5
    clear hk5 hHeld hS kV CL SM
    by_cases hT:T1=T2
    ·have HND:D=true:=by rw[uQ HD];exact decide_eq_true hT
     subst HND
     have HN5:Hid ((xs.take (j+1)).map (·.T)=(ys.take (j+1)).map (·.T)/\Kp [] w w5):=hZq ⟨(uQ HST).2 hT,uQ HK5⟩
     clear HD HST HNT HK HK5
     go_wp2
     go_roundw
     case rel=>exact ⟨j+1,by omega,by go_num,HN5⟩
     case measure=>simp[intOf];omega
    ·have HND:D=false:=by rw[uQ HD];exact decide_eq_false hT
     subst HND
     have HF:Hid (R=false):=hZq (by
      cases hR:R with
      |false=>rfl
      |true=>exact absurd (uQ HNT hR) hT)
     clear HD HST HNT HK
     go_wp2
     go_ret
     exact ⟨by rw[uQ HF];rfl,uQ HK5⟩
   ·obtain rfl:j=n:=by omega
    have HT:Hid (R=true):=hZq (by
     rw[uQ HR,decide_eq_true_eq]
     have:=(uQ HK).1
     rw[List.take_of_length_le (by rw[<-uQ HN];exact Nat.le_refl _),List.take_of_length_le (by rw[<-uQ HN2];exact Nat.le_refl _)]at this
     exact this)
    have HKF:=hZq (uQ HK).2
    clear HK HSM HX HY
    go_wp2
    go_ret
    exact ⟨by rw[uQ HT];rfl,uQ HKF⟩
 ·have HF:Hid (R=false):=hZq (by
   rw[uQ HR,decide_eq_false_iff_not]
   intro e
   have:=congrArg List.length e
   simp only[List.length_map]at this
   exact hlen this)
  have hne:((xs.length:Int)=(ys.length:Int))=False:=by simp;omega
  clear hx hy hR ok1 ok2 HR
  go_enter Tryz.func6,Tryz.ntmps6
  go_wp2
  go_ret
  exact ⟨by rw[uQ HF];rfl,Kp.refl _ _⟩
open Go.RowKit Go.Shelf
def tyE (c:UInt8):Ev:=⟨⟨#[107]⟩,⟨#[c]⟩,0,0,0,0,⟨#[]⟩⟩
def tyL (s:ByteArray):List Ev:=s.data.toList.map tyE
theorem q4L (s:ByteArray):(tyL s).length=s.size:=by unfold tyL;rw[List.length_map];exact Array.length_toList
theorem qbH (s:ByteArray)(j:Nat)(h:j<s.size):(tyL s).take (j+1)=(tyL s).take j++[tyE s[j]]:=by
 rw[List.take_succ_eq_append_getElem (by rw[q4L];exact h)]
 congr 1
 unfold tyL
 simp
 rfl
theorem qa4 (s:ByteArray)(hs:s.size<=1000)(w:World):
  Calls Tryz.prog 8 #[.string s] w fun e w'=> ∃v,e= .returned v/\OwnsX w.heap.size w' v (tyL s)/\Kp [] w w':=by
 have HPU:Hid (∀(j:Nat) (v:Value) (wr:World),j<s.size->OwnsX w.heap.size wr v ((tyL s).take j)->Kp [] w wr-> ∃g' cap w',(Builtin.append_ #[25,25] 25 #[v, .slice (some ⟨wr.heap.size,0,none⟩) 1 1]).run Tryz.prog (wr.alloc (.cells #[.string ⟨#[107]⟩, .string (s.extract j (j+1)), .int .i64 0, .int .i64 0, .int .i64 0, .int .i64 0, .string ⟨#[]⟩] 29))= .ok (.slice (some ⟨g',0,none⟩) (j+1) cap) w'/\OwnsX w.heap.size w' (.slice (some ⟨g',0,none⟩) (j+1) cap) ((tyL s).take (j+1))/\Kp [] w w'):=hZq (fun j v wr hj ho hk=>by
  have hl:((tyL s).take j).length=j:=by rw[List.length_take,q4L];omega
  have e1:s.extract j (j+1)=⟨#[s[j]]⟩:=by
   have hjs:j<s.data.size:=hj
   have h1:(s.extract j (j+1)).data.toList=[s[j]]:=by
    rw[ByteArray.data_extract,Array.toList_extract,List.extract_eq_take_drop,List.drop_eq_getElem_cons (by simpa using hjs)]
    simp
    rfl
   exact ByteArray.ext (Array.ext' h1)
  have ka:=Kp.alloc wr (.cells #[.string ⟨#[107]⟩, .string (s.extract j (j+1)), .int .i64 0, .int .i64 0, .int .i64 0, .int .i64 0, .string ⟨#[]⟩] 29)
  have hb:CBox wr.heap.size (tyE s[j]).c 29 (wr.alloc (.cells #[.string ⟨#[107]⟩, .string (s.extract j (j+1)), .int .i64 0, .int .i64 0, .int .i64 0, .int .i64 0, .string ⟨#[]⟩] 29)):=by
   rw[e1]
   exact CBox.new wr _ _
  obtain ⟨g',cap,w',hrun,h1,h2,_⟩:=OwnsX.app (c:=1) (q02 ho ka (by simp)) (by have:=(hk.trans ka (by simp)).size;exact this) (tyE s[j]) hb (by rw[hl];omega) 25
  rw[hl]at hrun h1
  rw[<-qbH s j hj]at h1
  refine ⟨g',cap,w',hrun,h1,?_⟩
  have hk2:=hk.trans ka (by simp)
  exact ⟨h2.os.trans hk2.os,h2.tape.trans hk2.tape,h2.output.trans hk2.output,Nat.le_trans hk2.size h2.size,fun k hk3 _=>(h2.block k hk3).trans (hk2.block k hk3 (by simp))⟩)
 have HEND:Hid ((tyL s).take s.size=tyL s):=hZq (List.take_of_length_le (by rw[q4L];exact Nat.le_refl _))
 go_enter Tryz.func8,Tryz.ntmps8
 go_wp2_with fail
 go_loopw [7,3] (fun iv ov wr=> ∃(j:Nat),j<=s.size/\iv= .int .i64 (j:Int)/\(∃a c,ov= .slice a j c)/\Hid (OwnsX w.heap.size wr ov ((tyL s).take j)/\Kp [] w wr)) (fun iv _ _=>s.size-(intOf iv).toNat)
 case atStart=>exact ⟨0,Nat.zero_le _,rfl,⟨none,0,rfl⟩,hZq ⟨OwnsX.nil _ _,Kp.refl _ _⟩⟩
 case round=>
  obtain ⟨j,hj,rfl,⟨va,vc,rfl⟩,HR⟩:=hrel
  by_cases hlt:j<s.size
  ·have hli:(j:Int)<(s.size:Int):=by omega
   obtain ⟨g',cap,w',hrun,ho,hk⟩:=uQ HPU j _ wr hlt (uQ HR).1 (uQ HR).2
   have HN:=hZq (And.intro ho hk)
   clear ho hk HR HPU HEND
   have HRUN:=hZq hrun
   clear hrun
   go_wp2_with (at_builtin;refine q0e rfl _ _ _ rfl rfl rfl (uQ HRUN) ?_)
   go_roundw
   case rel=>exact ⟨j+1,by omega,by go_num,⟨_,_,rfl⟩,hZq (uQ HN)⟩
   case measure=>simp[intOf];omega
  ·obtain rfl:j=s.size:=by omega
   have HN:=hZq (uQ HR)
   clear HR HPU
   go_wp2
   go_ret
   exact ⟨_,rfl,by have:=(uQ HN).1;rwa [uQ HEND]at this,(uQ HN).2⟩
open Go.RowKit Go.Shelf
def wkS (h:ByteArray):ByteArray:=((⟨#[115,116,97,114,116,32,97,58,32,116,121,112,101,32,61,61,32,39,120,39,59,32]⟩:ByteArray)++h)++⟨#[32,98,43,58,32,116,121,112,101,32,61,61,32,39,121,39,59,32,119,105,116,104,105,110,32,57]⟩
def wkP (h:Int):Ptn:=⟨[⟨⟨#[97]⟩,0,false,[⟨9,0,⟨#[]⟩,⟨#[]⟩,0⟩,⟨3,0,⟨#[]⟩,⟨#[]⟩,4⟩,⟨2,0,⟨#[120]⟩,⟨#[]⟩,0⟩]⟩,⟨⟨#[98]⟩,h,true,[⟨9,0,⟨#[]⟩,⟨#[]⟩,0⟩,⟨3,0,⟨#[]⟩,⟨#[]⟩,4⟩,⟨2,0,⟨#[121]⟩,⟨#[]⟩,0⟩]⟩],9⟩
def wkE:List Ev:=tyL ⟨#[120,121,122,121]⟩
structure WkF (how:ByteArray)(m:Nat)(h:Int)(r:List (List (List Nat))):Prop where
 rd:rdP (wkS how)=⟨wkP h,0,0⟩
 ck:mckE (wkP h) wkE=0
 fd:Mt.fnd (Mt.pm (wkP h) wkE) 9=[[0],[1]]::r
 st:Srt ([[0],[1]]::r)
 ln:r.length+1=m
 sz:(wkS how).size<=1000
 hl:how.size<=9
 hw: -9223372036854775808<=h/\h<=9223372036854775807
theorem qbM:WkF ⟨#[116,104,101,110]⟩ 2 2 [[[0],[1,3]]]:=⟨by kernel_rfl,by kernel_rfl,by kernel_rfl,(show List.Pairwise (fun a b=>cT a b<0) _ from of_decide_eq_true (by kernel_rfl)),rfl,of_decide_eq_true (by kernel_rfl),by decide,by decide⟩
theorem qdi:WkF ⟨#[97,110,121]⟩ 3 3 [[[0],[1,3]],[[0],[3]]]:=⟨by kernel_rfl,by kernel_rfl,by kernel_rfl,(show List.Pairwise (fun a b=>cT a b<0) _ from of_decide_eq_true (by kernel_rfl)),rfl,of_decide_eq_true (by kernel_rfl),by decide,by decide⟩
theorem qbL:WkF ⟨#[110,101,120,116]⟩ 1 1 []:=⟨by kernel_rfl,by kernel_rfl,by kernel_rfl,(show List.Pairwise (fun a b=>cT a b<0) _ from of_decide_eq_true (by kernel_rfl)),rfl,of_decide_eq_true (by kernel_rfl),by decide,by decide⟩
theorem qeM:arE ⟨#[107]⟩ wkE=true:=by kernel_rfl
theorem WkF.fi {how:ByteArray}{m:Nat}{h:Int}{r:List (List (List Nat))}(f:WkF how m h r)(hm:m<=9):fiE (wkP h) ⟨#[107]⟩ wkE=0/\fiL (wkP h) ⟨#[107]⟩ wkE=[[0],[1]]::r:=by
 have hwi:(wkP h).wi.toNat=9:=rfl
 have e1:fdS (Mt.pm (wkP h) wkE) 9=[[0],[1]]::r:=q4I (q3n _ _) f.st (by rw[<-f.fd];exact q1V _ _)
 have hl:=f.ln
 have e2:fiE (wkP h) ⟨#[107]⟩ wkE=0:=by
  unfold fiE
  rw[if_pos f.ck,if_pos qeM,hwi,e1,if_neg (by rw[List.length_cons];omega)]
 refine ⟨e2,?_⟩
 unfold fiL
 rw[if_pos e2,hwi,e1]
theorem qeN (h:Int)(hw: -9223372036854775808<=h/\h<=9223372036854775807):(∀g∈(wkP h).ss,g.ok)/\ ∀g∈(wkP h).ss, ∀q∈g.cd,q.fit:=by
 constructor
 ·intro g hg
  unfold wkP at hg
  simp only[List.mem_cons,List.not_mem_nil,or_false]at hg
  rcases hg with rfl|rfl
  ·refine ⟨by decide,by decide,fun p hp=>?_⟩
   simp only[List.mem_cons,List.not_mem_nil,or_false]at hp
   rcases hp with rfl|rfl|rfl <;> (unfold Pt.ok;decide)
  ·refine ⟨by show (⟨#[98]⟩:ByteArray).size<=_;decide,hw,fun p hp=>?_⟩
   simp only[List.mem_cons,List.not_mem_nil,or_false]at hp
   rcases hp with rfl|rfl|rfl <;> (unfold Pt.ok;decide)
 ·intro g hg q hq
  unfold wkP at hg
  simp only[List.mem_cons,List.not_mem_nil,or_false]at hg
  rcases hg with rfl|rfl
  all_goals
   simp only[List.mem_cons,List.not_mem_nil,or_false]at hq
   rcases hq with rfl|rfl|rfl <;> (unfold Pt.fit;decide)
theorem qeO: ∀e∈wkE,evSz e:=by
 intro e he
 unfold wkE tyL at he
 simp only[List.mem_map]at he
 obtain ⟨c,_,rfl⟩:=he
 unfold tyE evSz
 decide+revert
theorem qa5 (W:World):StagesAt (((W.alloc (.cells #[.int .i64 0] 3)).alloc (.cells #[.int .i64 1] 3)).alloc (.cells #[.slice (some ⟨W.heap.size,0,none⟩) 1 1, .slice (some ⟨W.heap.size+1,0,none⟩) 1 1] 38)) (some ⟨W.heap.size+1+1,0,none⟩) [[0],[1]]:=fun _=>by
 have k0:=(Kp.alloc (W.alloc (.cells #[.int .i64 0] 3)) (.cells #[.int .i64 1] 3)).trans (Kp.alloc _ (.cells #[.slice (some ⟨W.heap.size,0,none⟩) 1 1, .slice (some ⟨W.heap.size+1,0,none⟩) 1 1] 38)) (by simp)
 have c0:=((CBox.new W #[.int .i64 0] 3).kp k0 (by simp)).cell (i:=0) (v:= .int .i64 0) rfl
 have c1:=((CBox.new (W.alloc (.cells #[.int .i64 0] 3)) #[.int .i64 1] 3).kp (Kp.alloc _ (.cells #[.slice (some ⟨W.heap.size,0,none⟩) 1 1, .slice (some ⟨W.heap.size+1,0,none⟩) 1 1] 38)) (by simp)).cell (i:=0) (v:= .int .i64 1) rfl
 have c2:=CBox.new ((W.alloc (.cells #[.int .i64 0] 3)).alloc (.cells #[.int .i64 1] 3)) #[.slice (some ⟨W.heap.size,0,none⟩) 1 1, .slice (some ⟨W.heap.size+1,0,none⟩) 1 1] 38
 simp only[World.size_alloc]at c1 c2
 refine ⟨W.heap.size+1+1,0,rfl,by simp,fun i hi=>?_⟩
 have h2:i=0\/i=1:=by simp at hi;omega
 rcases h2 with rfl|rfl
 ·refine ⟨_,1,c2.cell rfl,fun _=>⟨W.heap.size,0,rfl,by simp;omega,fun k hk=>?_⟩⟩
  have:k=0:=by simp at hk;omega
  subst this
  exact c0
 ·refine ⟨_,1,c2.cell rfl,fun _=>⟨W.heap.size+1,0,rfl,by simp,fun k hk=>?_⟩⟩
  have:k=0:=by simp at hk;omega
  subst this
  exact c1
theorem q8n (w:World)(hT:TbE w):Calls Tryz.prog 4 #[] w fun e w'=>e= .returned (.bool true)/\Kp [] w w':=by
 obtain ⟨W0,hW0⟩: ∃W0,W0=w.alloc (.cells #[.string ⟨#[116,104,101,110]⟩, .int .i64 2, .string ⟨#[97,110,121]⟩, .int .i64 3, .string ⟨#[110,101,120,116]⟩, .int .i64 1] 41):=⟨_,rfl⟩
 have k0:Kp [] w W0:=by rw[hW0];exact Kp.alloc _ _
 have HROW:Hid (∀j,j<3-> ∃how m h r,WkF how m h r/\m<=9/\ ∀W,Kp [] W0 W->W.cell? ⟨w.heap.size,j * 2,none⟩=some (.string how)/\W.cell? ⟨w.heap.size,j * 2+1,none⟩=some (.int .i64 (m:Int))):=hZq (fun j hj=>by
  have hb:=CBox.new w #[.string ⟨#[116,104,101,110]⟩, .int .i64 2, .string ⟨#[97,110,121]⟩, .int .i64 3, .string ⟨#[110,101,120,116]⟩, .int .i64 1] 41
  rw[<-hW0]at hb
  have h3:j=0\/j=1\/j=2:=by omega
  rcases h3 with rfl|rfl|rfl
  ·exact ⟨_,_,_,_,qbM,by omega,fun W hk=>⟨(hb.kp hk (by simp)).cell rfl,(hb.kp hk (by simp)).cell rfl⟩⟩
  ·exact ⟨_,_,_,_,qdi,by omega,fun W hk=>⟨(hb.kp hk (by simp)).cell rfl,(hb.kp hk (by simp)).cell rfl⟩⟩
  ·exact ⟨_,_,_,_,qbL,by omega,fun W hk=>⟨(hb.kp hk (by simp)).cell rfl,(hb.kp hk (by simp)).cell rfl⟩⟩)
 have HK0:=hZq k0
 have HT:=hZq hT
 have EF:=fun W=>eqF 9998 0 0 0 0 W
 have HTL:Hid ((tyL ⟨#[120,121,122,121]⟩).length=4):=hZq (by kernel_rfl)
 clear hT k0
 go_enter Tryz.func4,Tryz.ntmps4
 go_upto_region 2 with fail
 rw[<-hW0]
 clear hW0
 go_wp2_with fail
 go_loopw [12] (fun iv wr=> ∃j:Nat,j<=3/\iv= .int .i64 (j:Int)/\Hid (Kp [] W0 wr)) (fun iv _=>3-(intOf iv).toNat)
 case atStart=>exact ⟨0,by omega,rfl,hZq (Kp.refl _ _)⟩
 case round=>
  obtain ⟨j,hj,rfl,HK⟩:=hrel
  by_cases hlt:j<3
  ·have hli:(j:Int)<3:=by omega
   obtain ⟨how,m,h,r,hF,hm9,hcl⟩:=uQ HROW j hlt
   obtain ⟨c0,c1⟩:=hcl wr (uQ HK)
   have b1:=CBox.new wr #[.string how, .int .i64 (m:Int)] 41
   have k1:=Kp.alloc wr (.cells #[.string how, .int .i64 (m:Int)] 41)
   obtain ⟨W1,hW1⟩: ∃W1,W1=wr.alloc (.cells #[.string how, .int .i64 (m:Int)] 41):=⟨_,rfl⟩
   rw[<-hW1]at b1 k1
   have kw1:=((uQ HK0).trans (uQ HK) (by simp)).trans k1 (by simp)
   have RD0:=q9H (wkS how) W1 ((uQ HT).kp kw1 (by simp)) (by have:=hF.sz;omega)
   rw[hF.rd]at RD0
   have RD:Hid (Calls Tryz.prog 7 #[.string (wkS how)] W1 fun e w'=> ∃ad cp rs,e= .returned (.tuple #[.agg #[.slice ad 2 cp, .int .i64 9], .agg #[.int .i64 0, .int .i64 0]])/\(StsAt w' ad (rs:List SR)/\stgs rs=(wkP h).ss/\rs.length=2/\2<=cp)/\Kp [] W1 w'):=hZq (RD0.mono fun e w' ⟨⟨ad,cp,rs,h1,h2,h3⟩,h4⟩=>by
    obtain ⟨a',c',e',hat,hcap⟩:=h2.at
    injection e' with ea eb ec
    have hl:rs.length=2:=by rw[<-q03,h3];rfl
    rw[hl]at h1
    subst ea ec
    exact ⟨ad,cp,rs,h1,⟨hat,h3,hl,by omega⟩,Kp.ofBelow h4⟩)
   unfold wkS at RD
   have d0:=b1.cell (i:=0) (v:= .string how) rfl
   have HB1:=hZq b1
   have HKW1:=hZq k1
   have HF:=hZq hF
   have hh9:=hF.hl
   clear RD0 hcl hF b1 k1 kw1 HROW
   go_upto_region 4 with fail
   rw[<-hW1]
   clear hW1 c0 c1
   go_wp2_with fail
   refine (uQ RD).mono ?_
   rintro e w2 ⟨ad,cp,rs,rfl,hrs,hk2⟩
   have kv:Kp [] w2 ((w2.alloc (.cells #[.slice ad 2 cp, .int .i64 9] 24)).alloc (.cells #[.int .i64 0, .int .i64 0] 44)):=(Kp.alloc _ _).trans (Kp.alloc _ _) (by simp)
   have hP1:=q47 w2 #[.slice ad 2 cp, .int .i64 9] 24 (.cells #[.int .i64 0, .int .i64 0] 44)
   have hF1:=q48 w2 #[.int .i64 0, .int .i64 0] 44 (.cells #[.slice ad 2 cp, .int .i64 9] 24)
   obtain ⟨W3,hW3⟩: ∃W3,W3=((w2.alloc (.cells #[.slice ad 2 cp, .int .i64 9] 24)).alloc (.cells #[.int .i64 0, .int .i64 0] 44)):=⟨_,rfl⟩
   rw[<-hW3]at kv hP1 hF1
   obtain ⟨V,hV⟩: ∃V,V=W3.drew:=⟨_,rfl⟩
   have kV:Kp [] W3 V:=by rw[hV];exact Kp.drew _
   have k2V:Kp [] w2 V:=kv.trans kV (by simp)
   have k0V:Kp [] w V:=((((uQ HK0).trans (uQ HK) (by simp)).trans (uQ HKW1) (by simp)).trans hk2 (by simp)).trans k2V (by simp)
   have kWr:Kp [] W0 V:=(((uQ HK).trans (uQ HKW1) (by simp)).trans hk2 (by simp)).trans k2V (by simp)
   have HC2:Hid (∀W,Kp [] V W->(W.cell? ⟨w2.heap.size+1,0,none⟩=some (.int .i64 0)/\W.cell? ⟨w2.heap.size+1,1,none⟩=some (.int .i64 0))/\W.cell? ⟨wr.heap.size,1,none⟩=some (.int .i64 (m:Int))/\Hid (Kp [] W0 W)):=hZq (fun W hk=>⟨⟨(hF1.kp (kV.trans hk (by simp)) (by simp)).cell rfl,(hF1.kp (kV.trans hk (by simp)) (by simp)).cell rfl⟩,((uQ HB1).kp ((hk2.trans k2V (by simp)).trans hk (by simp)) (by simp)).cell rfl,hZq (kWr.trans hk (by simp))⟩)
   have HSV:Hid (∀W,Kp [] V W->(W.cell? ⟨w2.heap.size,0,none⟩=some (.slice ad 2 cp)/\W.cell? ⟨w2.heap.size,1,none⟩=some (.int .i64 9))/\Hid (∀ta tc,EvsAt W ta (tyL ⟨#[120,121,122,121]⟩)->Calls Tryz.prog 5 #[.agg #[.slice ad 2 cp, .int .i64 9], .string ⟨#[107]⟩, .slice ta (tyL ⟨#[120,121,122,121]⟩).length tc] W fun e w'=> ∃fg fc zg,e= .returned (.tuple #[.slice (some ⟨fg,0,none⟩) m fc, .int .i64 0])/\Kp [] W w'/\(∀W',Kp [] w' W'->StagesAt W' (some ⟨zg,0,none⟩) [[0],[1]])/\w'.cell? ⟨fg,0,none⟩=some (.string ⟨#[107]⟩)/\w'.cell? ⟨fg,1,none⟩=some (.slice (some ⟨zg,0,none⟩) 2 2))):=hZq (fun W hk=>⟨⟨(hP1.kp (kV.trans hk (by simp)) (by simp)).cell rfl,(hP1.kp (kV.trans hk (by simp)) (by simp)).cell rfl⟩,hZq (fun ta tc hev=>by
    obtain ⟨r1,r2,r3,r4⟩:=hrs
    have hwo:=qeN h (uQ HF).hw
    have hmm: ∀x∈rs,x.s∈(wkP h).ss:=fun x hx=>by rw[<-r2];unfold stgs;exact List.mem_map_of_mem hx
    have hfd:=q5M ad cp rs 9 ta tc wkE ⟨#[107]⟩ W (r1.kp (k2V.trans hk (by simp))) hev ((uQ HT).kp (k0V.trans hk (by simp)) (by simp)) (fun x hx=>hwo.1 _ (hmm x hx)) (fun x hx=>hwo.2 _ (hmm x hx)) (by omega) (by omega) (by decide) qeO (by decide)
    have he:(⟨stgs rs,9⟩:Ptn)=wkP h:=by rw[r2];rfl
    obtain ⟨f1,f2⟩:=(uQ HF).fi hm9
    rw[he,f1,f2,r3]at hfd
    refine hfd.mono ?_
    rintro e w' ⟨v,zs,rfl,hP⟩
    have hts:=hP.ts
    match zs,hts with
    |[],hts=>cases hts
    |z::zr,hts=>
     rw[List.map_cons,List.cons.injEq]at hts
     have hlen:(z::zr).length=m:=by
      rw[List.length_cons, <-(uQ HF).ln, <-hts.2,List.length_map]
     have hrow:=hP.row
     rw[hlen]at hrow
     obtain ⟨a,c,rfl,hg⟩:=q0Z hrow
     obtain ⟨g,rfl⟩:=hg (by rw[<-hlen];simp)
     have hrow':=hP.row
     rw[<-hlen]at hrow'
     have c0:=q0t (enc:=mtE ⟨#[107]⟩) (sz:=2) (q15 _) hrow' 0 0 (by simp) (by omega)
     have c1:=q0t (enc:=mtE ⟨#[107]⟩) (sz:=2) (q15 _) hrow' 0 1 (by simp) (by omega)
     refine ⟨g,c,z.g,rfl,hP.kp,fun W' hk'=>?_,c0,?_⟩
     ·have:=((hP.cp z (by simp)).kp hk' (by simp)).stages
      rw[hts.1]at this
      exact this
     ·have e2:w'.cell? ⟨g,1,none⟩=some z.v:=c1
      rw[e2]
      unfold Cp.v
      rw[hts.1]
      rfl)⟩)
   have TY:=hZq (qa4 ⟨#[120,121,122,121]⟩ (by decide) V)
   have hS0:=(uQ HSV V (Kp.refl _ _)).1
   have hm1:1<=m:=by have:=(uQ HF).ln;omega
   clear RD hrs hk2 kv hP1 hF1 kV k2V k0V kWr HB1 HKW1 HF d0 HK
   go_upto_region 5 with fail
   rw[<-hW3]
   clear hW3
   go_cut [5,6] (fun lv ev wc=> ∃fg fc zg,lv= .slice (some ⟨fg,0,none⟩) m fc/\ev= .int .i64 0/\Hid (Kp [] V wc/\(∀W',Kp [] wc W'->StagesAt W' (some ⟨zg,0,none⟩) [[0],[1]])/\wc.cell? ⟨fg,0,none⟩=some (.string ⟨#[107]⟩)/\wc.cell? ⟨fg,1,none⟩=some (.slice (some ⟨zg,0,none⟩) 2 2)))
   case first=>
    refine wp_region_held_drew (S:=fun W=>W.cell? ⟨w2.heap.size,0,none⟩=some (.slice ad 2 cp)/\W.cell? ⟨w2.heap.size,1,none⟩=some (.int .i64 9)) (by kernel_rfl) (by rw[<-hV];exact hS0) (fun hHeld=>?_)
    rw[<-hV]at hHeld ⊢
    clear hV
    show wpAnyH _ _ _ _ _ 8 (Array.replicate 8 false) _ _
    refine wpAnyH_take (i:=0) (oi:=⟨some 25,Op.load 24 (.tmp 3),24,"theorems.go:29",#[],none⟩) (v:=?_) rfl (by kernel_rfl) (by kernel_rfl) (by kernel_rfl) (fun _ _ _ h=>h) (Or.inl ⟨by rfl,?_⟩) (by assumption) ?_
    rotate_left 1
    ·intro w0 hSw
     (try dsimp only at hSw)
     go_simp
     (try with_reducible rfl)
    try simp only[Act.put,zz1,zz2,zz3]
    refine wpAnyH_ready (rs:=[1]) (by kernel_rfl) (by simp) ?_
    refine AllReadyH.cons (o:=⟨some 26,Op.call { callee:= .value (.func 8),args:=#[.const (Value.string { data:=#[120,121,122,121] })],argTypes:=#[9] },25,"theorems.go:29",#[],none⟩) rfl (fun K hK=>?_) AllReadyH.nil
    go_simp
    refine (uQ TY).mono ?_
    rintro e w5 ⟨tv,rfl,hto,hk5⟩
    obtain ⟨ta,tc,rfl,hte⟩:=hto.at
    have HK5:=hZq hk5
    obtain ⟨hS5,HF5⟩:=uQ HSV w5 hk5
    have FD:=hZq (uQ HF5 ta tc hte)
    clear TY HF5 hto hte hk5
    refine hK.out _ _ ?_ (fun hHeld=>?_)
    ·exact hS5
    clear hK K
    try simp only[Act.put,zz1,zz2,zz3]
    refine wpAnyH_ready (rs:=[2]) (by kernel_rfl) (by simp) ?_
    refine AllReadyH.cons (o:=⟨some 27,Op.call { callee:= .value (.func 5),args:=#[.tmp 25, .const (Value.string { data:=#[107] }), .tmp 26],argTypes:=#[24,9,25] },33,"theorems.go:29",#[⟨0, .data⟩,⟨1, .data⟩,⟨1, .chain⟩],none⟩) rfl (fun K hK=>?_) AllReadyH.nil
    go_simp
    refine (uQ FD).mono ?_
    rintro e w6 ⟨fg,fc,zg,rfl,hk6,hstz,l0,l1⟩
    have HK6:=hZq ((uQ HK5).trans hk6 (by simp))
    obtain ⟨hS6,_⟩:=uQ HSV w6 (uQ HK6)
    have HSTZ:=hZq hstz
    clear FD hk6 HK5 hS5 hstz
    refine hK.out _ _ ?_ (fun hHeld=>?_)
    ·exact hS6
    clear hK K
    try simp only[Act.put,zz1,zz2,zz3]
    refine wpAnyH_take (i:=3) (oi:=⟨some 24,Op.move (.tmp 27),33,"theorems.go:29",#[⟨2, .data⟩],none⟩) (v:=?_) rfl (by kernel_rfl) (by kernel_rfl) (by kernel_rfl) (fun _ _ _ h=>h) (Or.inl ⟨by rfl,?_⟩) (by assumption) ?_
    rotate_left 1
    ·intro w0 hSw
     (try dsimp only at hSw)
     go_simp
     (try with_reducible rfl)
    try simp only[Act.put,zz1,zz2,zz3]
    refine wpAnyH_take (i:=4) (oi:=⟨some 28,Op.extract (.tmp 24) 0,31,"theorems.go:29",#[⟨3, .data⟩],none⟩) (v:=?_) rfl (by kernel_rfl) (by kernel_rfl) (by kernel_rfl) (fun _ _ _ h=>h) (Or.inl ⟨by rfl,?_⟩) (by assumption) ?_
    rotate_left 1
    ·intro w0 hSw
     (try dsimp only at hSw)
     go_simp
     (try with_reducible rfl)
    try simp only[Act.put,zz1,zz2,zz3]
    refine wpAnyH_take (i:=5) (oi:=⟨some 29,Op.extract (.tmp 24) 1,32,"theorems.go:29",#[⟨3, .data⟩,⟨6, .gcOnly Departure.lateStores⟩],none⟩) (v:=?_) rfl (by kernel_rfl) (by kernel_rfl) (by kernel_rfl) (fun _ _ _ h=>h) (Or.inl ⟨by rfl,?_⟩) (by assumption) ?_
    rotate_left 1
    ·intro w0 hSw
     (try dsimp only at hSw)
     go_simp
     (try with_reducible rfl)
    try simp only[Act.put,zz1,zz2,zz3]
    refine wpAnyH_take (i:=6) (oi:=⟨some 5,Op.assign (.tmp 28),31,"theorems.go:29",#[⟨4, .data⟩,⟨2, .chain⟩,⟨0, .phase⟩,⟨1, .phase⟩,⟨2, .phase⟩,⟨3, .phase⟩,⟨4, .phase⟩,⟨5, .textOnly Departure.lateStores⟩],none⟩) (v:=?_) rfl (by kernel_rfl) (by kernel_rfl) (by kernel_rfl) (fun _ _ _ h=>h) (Or.inl ⟨by rfl,?_⟩) (by assumption) ?_
    rotate_left 1
    ·intro w0 hSw
     (try dsimp only at hSw)
     go_simp
     (try with_reducible rfl)
    try simp only[Act.put,zz1,zz2,zz3]
    refine wpAnyH_take (i:=7) (oi:=⟨some 6,Op.assign (.tmp 29),32,"theorems.go:29",#[⟨5, .data⟩,⟨6, .chain⟩,⟨0, .phase⟩,⟨1, .phase⟩,⟨2, .phase⟩,⟨3, .phase⟩,⟨4, .phase⟩,⟨5, .phase⟩,⟨6, .phase⟩],none⟩) (v:=?_) rfl (by kernel_rfl) (by kernel_rfl) (by kernel_rfl) (fun _ _ _ h=>h) (Or.inl ⟨by rfl,?_⟩) (by assumption) ?_
    rotate_left 1
    ·intro w0 hSw
     (try dsimp only at hSw)
     go_simp
     (try with_reducible rfl)
    try simp only[Act.put,zz1,zz2,zz3]
    refine wpAnyH_done (by kernel_rfl) ?_ _
    have HKF:=hZq (And.intro (uQ HK6) (And.intro (uQ HSTZ) (And.intro l0 l1)))
    clear HSV HC2 HK6 HSTZ hS6 hHeld l0 l1
    go_wp2
    go_meet
    exact ⟨fg,fc,zg,rfl,rfl,HKF⟩
   case rest=>
   obtain ⟨fg,fc,zg,rfl,rfl,HK6⟩:=hcut
   obtain ⟨kc,hstz,l0,l1⟩:=uQ HK6
   obtain ⟨⟨y0,y1⟩,y2,HKC⟩:=uQ HC2 wc kc
   have ka:Kp [] wc (((wc.alloc (.cells #[.int .i64 0] 3)).alloc (.cells #[.int .i64 1] 3)).alloc (.cells #[.slice (some ⟨wc.heap.size,0,none⟩) 1 1, .slice (some ⟨wc.heap.size+1,0,none⟩) 1 1] 38)):=((Kp.alloc _ _).trans (Kp.alloc _ _) (by simp)).trans (Kp.alloc _ _) (by simp)
   have SM:=hZq (q2Y ⟨#[107]⟩ (some ⟨zg,0,none⟩) 2 [[0],[1]] ⟨#[107]⟩ (some ⟨wc.heap.size+1+1,0,none⟩) 2 [[0],[1]] _ ⟨by decide,by decide,by decide⟩ ⟨by decide,by decide,by decide⟩ (hstz _ ka) (qa5 wc))
   have HD:decide (((⟨#[107]⟩:ByteArray)=⟨#[107]⟩)/\(([[0],[1]]:List (List Int))=[[0],[1]]))=true:=decide_eq_true ⟨rfl,rfl⟩
   rw[HD]at SM
   have hmi:(0:Int)<(m:Int):=by omega
   have HKA:=hZq ((uQ HKC).trans ka (by simp))
   clear HSV HC2 HK6 kc hstz HKC ka HD TY hS0 HK0 HT HTL
   go_wp2_with fail
   refine (uQ SM).mono ?_
   rintro e w9 ⟨rfl,hb9⟩
   have HK9:=hZq ((uQ HKA).trans (Kp.ofBelow hb9) (by simp))
   clear SM hb9 HKA l0 l1 y0 y1 y2
   go_wp2
   go_roundw
   case rel=>exact ⟨j+1,by omega,by go_num,HK9⟩
   case measure=>simp[intOf];omega
  ·obtain rfl:j=3:=by omega
   have HKF:=hZq ((uQ HK0).trans (uQ HK) (by simp))
   clear HK HROW
   go_wp2
   go_ret
   exact ⟨rfl,uQ HKF⟩
end Go.Proofs.YtcmjnlpofebbmaaGreatDoor
