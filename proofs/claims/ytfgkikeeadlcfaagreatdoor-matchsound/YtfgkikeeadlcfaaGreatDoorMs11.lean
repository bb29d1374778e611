/-
  Walks.
-/
import Derived.Test.YtfgkikeeadlcfaaGreatDoorMs10
import Derived.SizedLaws
import Derived.ChangeArms
set_option maxRecDepth 100000
set_option maxHeartbeats 8000000
set_option linter.unusedSimpArgs false
namespace Go.Proofs.YtfgkikeeadlcfaaGreatDoor
open Go.RowKit Go.Shelf
def natT (Z:List (List Int)):List (List Nat):=Z.map fun l=>l.map Int.toNat
theorem q3L (T:List (List Nat)):natT (Mt.toZ T)=T:=by
 unfold natT Mt.toZ
 rw[List.map_map]
 conv=>rhs;rw[<-List.map_id T]
 refine List.map_congr_left (fun l _=>?_)
 show (l.map Int.ofNat).map Int.toNat=l
 rw[List.map_map]
 conv=>rhs;rw[<-List.map_id l]
 exact List.map_congr_left (fun x _=>rfl)
def riB (l:List SR)(wi:Int)(es:List Ev)(Z:List (List Int)):Bool:=decide (mckE ⟨stgs l,wi⟩ es=0) && (asB l es.length Z && rgB (Mt.pm ⟨stgs l,wi⟩ es) wi (natT Z))
theorem q7q {l:List SR}{wi:Int}{es:List Ev}{Z:List (List Int)}(h:asB l es.length Z=true): ∃T,Z=Mt.toZ T/\Mt.Asg (Mt.pm ⟨stgs l,wi⟩ es) T:=by
 unfold asB at h
 rw[Bool.and_eq_true,decide_eq_true_eq]at h
 refine (Mt.asg_iff (P:=Mt.pm ⟨stgs l,wi⟩ es) Z).1 ⟨fun e=>?_,?_,h.2⟩
 ·have:=h.1.1
  rw[e]at this
  simp at this
 ·show Z.length<=(stgs l).length
  rw[q02]
  exact h.1.2
theorem q3K {p:Ptn}{es:List Ev}(h:mckE p es=0):(pcR p).2=0/\es.length<=4096:=by
 unfold mckE at h
 split at h
 ·rename_i h0
  split at h
  ·cases h
  ·exact ⟨h0,by omega⟩
 ·rename_i h0
  exact absurd h h0
theorem qa9 (sa:Option Addr)(sc:Nat)(l:List SR)(wi:Int)(ea:Option Addr)(ec:Nat)(es:List Ev)(za:Option Addr)(zc:Nat)(Z:List (List Int))(w:World)(hst:StsAt w sa l)(hev:EvsAt w ea es)(htb:TbE w)(hok: ∀r∈l,r.s.ok)(hft: ∀r∈l, ∀q∈r.s.cd,q.fit)(hl:l.length<=9223372036854775807)(hsc:l.length<=sc)(hes:es.length<=9223372036854775807)(hsz: ∀e∈es,evSz e)(hz:StagesAt w za Z)(hzl:Z.length<=9223372036854775807)(hZ: ∀x∈Z,x.length<=9223372036854775807/\ ∀q∈x, -9223372036854775808<=q/\q<=9223372036854775807):
  Calls Tryz.prog 6 #[.agg #[.slice sa l.length sc, .int .i64 wi], .slice ea es.length ec, .slice za Z.length zc] w fun e w'=>e= .returned (.tuple #[.bool (riB l wi es Z), .int .i64 (mckE ⟨stgs l,wi⟩ es)])/\Kp [] w w':=by
 obtain ⟨W1,hW1⟩: ∃W1,W1=w.alloc (.cells #[.slice sa l.length sc, .int .i64 wi] 24):=⟨_,rfl⟩
 have k1:Kp [] w W1:=by rw[hW1];exact Kp.alloc _ _
 have b1:CBox w.heap.size #[.slice sa l.length sc, .int .i64 wi] 24 W1:=by rw[hW1];exact CBox.new _ _ _
 have CK:=hZq (q48 sa sc l wi ea ec es W1 (hst.kp k1) (hev.kp k1 (by simp)) (htb.kp k1 (by simp)) hok hl hes hsz)
 have IA:=hZq (fun W (hk:Kp [] w W)=>q5Y sa sc l wi es.length za zc Z W (hst.kp hk) (q1l hz hk) hl hsc hzl hZ hes)
 have IR:Hid (mckE ⟨stgs l,wi⟩ es=0->asB l es.length Z=true-> ∀W,Kp [] w W->Calls Tryz.prog 19 #[.agg #[.slice sa l.length sc, .int .i64 wi], .slice ea es.length ec, .slice za Z.length zc] W fun e w'=>e= .returned (.bool (rgB (Mt.pm ⟨stgs l,wi⟩ es) wi (natT Z)))/\Kp [] W w'):=hZq (fun h0 ha W hk=>by
  obtain ⟨T,rfl,hA⟩:=q7q (wi:=wi) ha
  obtain ⟨h1,h2⟩:=q3K h0
  have h8:l.length<=8:=by have:=(q16 h1).2.1;rwa [show (⟨stgs l,wi⟩:Ptn).ss.length=l.length from q02 l]at this
  rw[q3L,q0C]
  exact q76 sa sc l wi ea ec es za zc T W (hst.kp hk) (hev.kp hk (by simp)) (htb.kp hk (by simp)) hft h8 h2 (q1l hz hk) hA)
 obtain ⟨R,hR⟩: ∃R,R=riB l wi es Z:=⟨_,rfl⟩
 rw[<-hR]
 have HR:Hid (R=(decide (mckE ⟨stgs l,wi⟩ es=0) && (asB l es.length Z && rgB (Mt.pm ⟨stgs l,wi⟩ es) wi (natT Z)))):=hZq hR
 have HPB:Hid (∀W,Kp [] W1 W->W.cell? ⟨w.heap.size,0,none⟩=some (.slice sa l.length sc)/\W.cell? ⟨w.heap.size,1,none⟩=some (.int .i64 wi)):=hZq (fun W hk=>by
  have:=b1.kp hk (by simp)
  exact ⟨this.cell rfl,this.cell rfl⟩)
 obtain ⟨p0,p1⟩:=uQ HPB W1 (Kp.refl _ _)
 have HK1:=hZq k1
 clear hst hev htb hok hft hl hsc hes hsz hz hzl hZ hR k1 b1
 generalize mckE ⟨stgs l,wi⟩ es=E at *
 generalize asB l es.length Z=A at *
 generalize rgB (Mt.pm ⟨stgs l,wi⟩ es) wi (natT Z)=B at *
 generalize l.length=ln at *
 generalize es.length=n at *
 generalize Z.length=zn at *
 go_enter Tryz.func6,Tryz.ntmps6
 go_upto_region 1 with fail
 rw[<-hW1]
 clear hW1
 go_wp2_with fail
 refine (uQ CK).mono ?_
 rintro e w2 ⟨rfl,hk2⟩
 have HK2:=hZq ((uQ HK1).trans hk2 (by simp))
 obtain ⟨q0,q1⟩:=uQ HPB w2 hk2
 have HKW:=hZq hk2
 clear CK hk2 p0 p1
 by_cases h0:E=0
 ·subst h0
  have IA2:=hZq (uQ IA w2 (uQ HK2))
  have IR2:=hZq (uQ IR rfl)
  clear IA IR
  go_wp2_with fail
  refine (uQ IA2).mono ?_
  rintro e w3 ⟨rfl,hk3⟩
  have HK3:=hZq ((uQ HK2).trans hk3 (by simp))
  obtain ⟨r0,r1⟩:=uQ HPB w3 ((uQ HKW).trans hk3 (by simp))
  clear IA2 hk3 q0 q1
  cases A with
  |false=>
   have HF:Hid (R=false):=hZq (by rw[uQ HR] <;> rfl)
   clear IR2 HR
   go_wp2
   go_ret2
   exact ⟨by rw[uQ HF] <;> rfl,uQ HK3⟩
  |true=>
   have HF:Hid (R=B):=hZq (by rw[uQ HR] <;> rfl)
   have IR3:=hZq (uQ IR2 rfl w3 (uQ HK3))
   clear IR2 HR
   go_wp2_with fail
   refine (uQ IR3).mono ?_
   rintro e w4 ⟨rfl,hk4⟩
   have HK4:=hZq ((uQ HK3).trans hk4 (by simp))
   clear IR3 hk4
   go_wp2
   go_ret2
   exact ⟨by rw[uQ HF] <;> rfl,uQ HK4⟩
 ·have HF:Hid (R=false):=hZq (by rw[uQ HR,zK h0];rfl)
  have h0b:(E==0)=false:=by simpa using h0
  clear IA IR HR
  go_wp2
  go_ret2
  exact ⟨by rw[uQ HF] <;> rfl,uQ HK2⟩
theorem q65: ∀{x:List Nat} (_:x≠[]) (b:Nat),lsd b x=Mt.lst x+1
 |[],h,_=>absurd rfl h
 |[q],_,_=>rfl
 |q::y::z,_,b=>by
  show lsd (q+1) (y::z)=_
  rw[q65 (x:=y::z) (by simp)]
  rfl
theorem qbS (P:Mt.Pm)(A:List (List Nat)): ∀(l:List Nat) (b:Nat),rowB P A b l=true↔ ∀k q,l[k]?=some q->P.H A.length (Mt.las A A.length) q=true/\(k=0->mlB P A A.length b q=true)/\(∀p,0<k->l[k-1]?=some p->Mt.btw P A A.length p q=true):=by
 intro l
 induction l with
 |nil=>intro b;exact ⟨fun _ k q h=>by simp at h,fun _=>rfl⟩
 |cons x r ih=>
  intro b
  rw[rowB,Bool.and_eq_true,Bool.and_eq_true,ih]
  constructor
  ·rintro ⟨⟨h1,h2⟩,h3⟩ k q hk
   cases k with
   |zero=>cases hk;exact ⟨h2,fun _=>h1,fun p h0=>absurd h0 (by omega)⟩
   |succ k=>
    obtain ⟨g1,g2,g3⟩:=h3 k q hk
    refine ⟨g1,fun h=>absurd h (by omega),fun p _ hp=>?_⟩
    cases k with
    |zero=>
     cases hp
     exact g2 rfl
    |succ k=>exact g3 p (by omega) hp
  ·intro h
   obtain ⟨h1,h2,_⟩:=h 0 x rfl
   refine ⟨⟨h2 rfl,h1⟩,fun k q hk=>?_⟩
   obtain ⟨g1,_,g3⟩:=h (k+1) q hk
   refine ⟨g1,fun h0=>?_,fun p h0 hp=>?_⟩
   ·subst h0
    exact g3 x (by omega) rfl
   ·refine g3 p (by omega) ?_
    obtain ⟨k,rfl⟩: ∃j,k=j+1:=⟨k-1,by omega⟩
    exact hp
theorem qaB (P:Mt.Pm): ∀(R A:List (List Nat)) (b:Nat),(∀l∈R,l≠[])->(allB P A b R=true↔ ∀i l,R[i]?=some l-> ∀k q,l[k]?=some q->P.H (A.length+i) (Mt.las (A++R) (A.length+i)) q=true/\(∀p,0<k->l[k-1]?=some p->Mt.btw P (A++R) (A.length+i) p q=true)/\(k=0->(i=0->mlB P A A.length b q=true)/\(0<i->Mt.btw P (A++R) (A.length+i) (Mt.lst ((R[i-1]?).getD [])) q=true))):=by
 intro R
 induction R with
 |nil=>intro A b _;exact ⟨fun _ i l h=>by simp at h,fun _=>rfl⟩
 |cons x r ih=>
  intro A b hne
  have hx:x≠[]:=hne x (by simp)
  have hAr:A++[x]++r=A++x::r:=by simp
  rw[allB,Bool.and_eq_true,qbS,ih (A++[x]) _ (fun l hl=>hne l (by simp[hl])),hAr,q65 hx,zF,List.length_singleton]
  have e0:Mt.las (A++x::r) A.length=Mt.las A A.length:=Mt.las_app (zM _)
  have e1: ∀p q,Mt.btw P (A++x::r) A.length p q=Mt.btw P A A.length p q:=fun p q=>Mt.btw_app (zM _)
  have e2: ∀p q,mlB P (A++[x]) (A.length+1) (p+1) q=Mt.btw P (A++x::r) (A.length+1) p q:=fun p q=>by
   rw[qds, <-hAr]
   exact (Mt.btw_app (by simp)).symm
  constructor
  ·rintro ⟨h1,h2⟩ i l hl k q hk
   cases i with
   |zero=>
    cases hl
    obtain ⟨g1,g2,g3⟩:=h1 k q hk
    rw[Nat.add_zero,e0]
    refine ⟨g1,fun p h0 hp=>by rw[e1];exact g3 p h0 hp,fun h0=>⟨fun _=>g2 h0,fun h=>absurd h (by omega)⟩⟩
   |succ i=>
    obtain ⟨g1,g2,g3⟩:=h2 i l hl k q hk
    rw[show A.length+(i+1)=A.length+1+i by omega]
    refine ⟨g1,g2,fun h0=>⟨fun h=>absurd h (by omega),fun _=>?_⟩⟩
    cases i with
    |zero=>
     have:=(g3 h0).1 rfl
     rw[e2]at this
     exact this
    |succ i=>exact (g3 h0).2 (by omega)
  ·intro h
   refine ⟨fun k q hk=>?_,fun i l hl k q hk=>?_⟩
   ·obtain ⟨g1,g2,g3⟩:=h 0 x rfl k q hk
    rw[Nat.add_zero,e0]at g1
    rw[Nat.add_zero]at g2
    exact ⟨g1,fun h0=>(g3 h0).1 rfl,fun p h0 hp=>by rw[<-e1];exact g2 p h0 hp⟩
   ·obtain ⟨g1,g2,g3⟩:=h (i+1) l hl k q hk
    rw[show A.length+(i+1)=A.length+1+i by omega]at g1 g2 g3
    refine ⟨g1,g2,fun h0=>⟨fun hi=>?_,fun hi=>?_⟩⟩
    ·subst hi
     rw[e2]
     exact (g3 h0).2 (by omega)
    ·have:=(g3 h0).2 (by omega)
     obtain ⟨i,rfl⟩: ∃j,i=j+1:=⟨i-1,by omega⟩
     exact this
theorem qaA {P:Mt.Pm}{T:List (List Nat)}(ha:Mt.Asg P T):allB P [] (Mt.fstT T) T=true↔Mt.Cnd P T:=by
 rw[qaB P T [] _ (fun l hl=>by
  obtain ⟨i,hi⟩:=List.getElem?_of_mem hl
  exact (ha.one i l hi).1)]
 simp only[List.length_nil,Nat.zero_add,List.nil_append]
 constructor
 ·intro h i l hl k q hk
  obtain ⟨g1,g2,g3⟩:=h i l hl k q hk
  exact ⟨g1,g2,fun h0 hi=>(g3 h0).2 hi⟩
 ·intro h i l hl k q hk
  obtain ⟨g1,g2,g3⟩:=h i l hl k q hk
  refine ⟨g1,g2,fun h0=>⟨fun hi=>?_,g3 h0⟩⟩
  subst h0 hi
  have:q=Mt.fstT T:=by
   cases T with
   |nil=>cases hl
   |cons x r=>
    cases hl
    cases l with
    |nil=>cases hk
    |cons y z=>cases hk;rfl
  rw[this]
  exact q9Q P [] 0 _
theorem q7W {P:Mt.Pm}{wi:Int}{T:List (List Nat)}(hwi:1<=wi)(ha:Mt.Asg P T):rgB P wi T=true↔Mt.RgW P wi.toNat T:=by
 unfold rgB Mt.RgW
 rw[Bool.and_eq_true,decide_eq_true_eq,qaA ha]
 constructor
 ·rintro ⟨h1,h2⟩
  exact ⟨ha.ne,h2.rgt ha,by omega⟩
 ·rintro ⟨_,h2,h3⟩
  exact ⟨by omega,h2.cnd⟩
theorem q7X {l:List SR}{wi:Int}{es:List Ev}(h0:mckE ⟨stgs l,wi⟩ es=0)(Z:List (List Int)):riB l wi es Z=true↔ ∃T,Z=Mt.toZ T/\Mt.RgW (Mt.pm ⟨stgs l,wi⟩ es) wi.toNat T:=by
 have hwi:1<=wi:=(q16 (q3K h0).1).2.2.1.1
 unfold riB
 rw[decide_eq_true h0,Bool.true_and,Bool.and_eq_true]
 constructor
 ·rintro ⟨h1,h2⟩
  obtain ⟨T,rfl,ha⟩:=q7q (wi:=wi) h1
  rw[q3L]at h2
  exact ⟨T,rfl,(q7W hwi ha).1 h2⟩
 ·rintro ⟨T,rfl,hT⟩
  have ha:=hT.2.1.asg hT.1
  refine ⟨?_,by rw[q3L];exact (q7W hwi ha).2 hT⟩
  obtain ⟨g1,g2,g3⟩:=(Mt.asg_iff (P:=Mt.pm ⟨stgs l,wi⟩ es) (Mt.toZ T)).2 ⟨T,rfl,ha⟩
  have g2':(Mt.toZ T).length<=l.length:=by rw[<-q02 l];exact g2
  unfold asB
  rw[Bool.and_eq_true,decide_eq_true_eq]
  exact ⟨⟨List.length_pos_iff.2 g1,g2'⟩,g3⟩
theorem q3r {p:Ptn}{k:ByteArray}{es:List Ev}(h:fiE p k es=0):mckE p es=0/\fiL p k es=fdS (Mt.pm p es) p.wi.toNat:=by
 refine ⟨?_,by unfold fiL;rw[if_pos h]⟩
 unfold fiE at h
 split at h
 ·assumption
 ·rename_i h0
  exact absurd h h0
theorem q3G {l:List SR}{wi:Int}{k:ByteArray}{es:List Ev}(h:fiE ⟨stgs l,wi⟩ k es=0)(T:List (List Nat)):T∈fiL ⟨stgs l,wi⟩ k es↔riB l wi es (Mt.toZ T)=true/\T.length=l.length:=by
 obtain ⟨h0,hL⟩:=q3r h
 have hp:=q16 (q3K h0).1
 have hwi:1<=wi:=hp.2.2.1.1
 have hN:1<=(Mt.pm ⟨stgs l,wi⟩ es).N:=hp.1
 have hNl:(Mt.pm ⟨stgs l,wi⟩ es).N=l.length:=q02 l
 rw[hL,qcJ (wi:=wi.toNat) (by omega) hN,q7X h0,hNl]
 constructor
 ·rintro ⟨h1,h2,h3⟩
  refine ⟨⟨T,rfl,fun e=>?_,h1,h3⟩,h2⟩
  rw[e]at h2
  rw[hNl, <-h2]at hN
  exact absurd hN (by simp)
 ·rintro ⟨⟨U,e,h1,h2,h3⟩,h4⟩
  obtain rfl:=q8b e
  exact ⟨h2,h4,h3⟩
theorem qb2 {l:List SR}{wi:Int}{k:ByteArray}{es:List Ev}(h:fiE ⟨stgs l,wi⟩ k es=0)(Z:List (List Int)):(riB l wi es Z && decide (Z.length=l.length))=true↔ ∃T∈fiL ⟨stgs l,wi⟩ k es,Mt.toZ T=Z:=by
 rw[Bool.and_eq_true,decide_eq_true_eq]
 constructor
 ·rintro ⟨h1,h2⟩
  obtain ⟨T,rfl,_⟩:=(q7X (q3r h).1 Z).1 h1
  rw[q0C]at h2
  exact ⟨T,(q3G h T).2 ⟨h1,h2⟩,rfl⟩
 ·rintro ⟨T,hT,rfl⟩
  rw[q0C]
  exact (q3G h T).1 hT
theorem q9l {p:Ptn}{k:ByteArray}{es:List Ev}(h:fiE p k es=0):Srt (fiL p k es):=by
 rw[(q3r h).2]
 exact q4y _ _
theorem q6I {α:Type}{xs ys:List α}{k:Nat}(h1:k<xs.length)(h2:k<ys.length)(h:xs.take k=ys.take k)(he:xs[k]=ys[k]):xs.take (k+1)=ys.take (k+1):=by
 rw[List.take_succ_eq_append_getElem h1,List.take_succ_eq_append_getElem h2,h,he]
theorem q6B (a1 a2:Option Addr)(c1 c2:Nat)(xs ys:List Int)(w:World)(hl1:xs.length<=9223372036854775807)(_hl2:ys.length<=9223372036854775807)(h1:IntsAt w a1 xs)(h2:IntsAt w a2 ys):
  Calls Tryz.prog 28 #[.slice a1 xs.length c1, .slice a2 ys.length c2] w fun e w'=>e= .returned (.bool (decide (xs=ys)))/\ ∃n,w'=w.drewN n:=by
 have H1:=hZq h1
 have H2:=hZq h2
 clear h1 h2
 by_cases hlen:xs.length=ys.length
 ·rw[<-hlen]
  generalize hR:decide (xs=ys)=R
  have HR:=hZq hR
  have HL:=hZq hlen
  clear hR hlen
  go_enter Tryz.func28,Tryz.ntmps28
  go_wp2
  go_loopw [5] (fun i wr=> ∃k n:Nat,k<=xs.length/\i= .int .i64 (k:Int)/\wr=w.drewN n/\Hid (xs.take k=ys.take k)) (fun i _=>xs.length-(intOf i).toNat)
  case atStart=>exact ⟨0,0,Nat.zero_le _,rfl,rfl,hZq (by simp)⟩
  case round=>
   obtain ⟨k,n,hk,rfl,rfl,HK⟩:=hrel
   by_cases hlt:k<xs.length
   ·have hlt2:k<ys.length:=by have:=uQ HL;omega
    obtain ⟨b1,o1,rfl,_,q1⟩:=uQ H1 (fun e=>by rw[e]at hlt;simp at hlt)
    obtain ⟨b2,o2,rfl,_,q2⟩:=uQ H2 (fun e=>by rw[e]at hlt2;simp at hlt2)
    have x1:=q1 k hlt
    have y1:=q2 k hlt2
    have hstep:=fun he=>q6I hlt hlt2 (uQ HK) he
    have hdiff:xs[k]≠ys[k]->xs≠ys:=fun hne e=>hne (by simp[e])
    have HST:=hZq hstep
    have HDI:=hZq hdiff
    have hli:(k:Int)<(xs.length:Int):=by omega
    clear q1 q2 HK hstep hdiff H1 H2
    generalize xs[k]=x at *
    generalize ys[k]=y at *
    by_cases he:x=y
    ·have HT:=hZq (uQ HST he)
     clear HST HDI
     subst he
     go_wp2
     go_quiet (fail)
     go_wp2
     go_roundw
     case rel=>exact ⟨k+1,_,by omega,by go_num,rfl,HT⟩
     case measure=>simp[intOf];omega
    ·have hR:=uQ HR
     rw[zK (uQ HDI he)]at hR
     subst hR
     have g:(x != y)=true:=by rw[bne_iff_ne];exact he
     clear he HR HDI HST
     go_wp2
     go_quiet (fail)
     go_wp2
     go_ret
     exact ⟨rfl,_,World.drewN_drewN _ _ _⟩
   ·have hall:xs=ys:=by
     have:=uQ HK
     have hl:=uQ HL
     rw[List.take_of_length_le (by omega),List.take_of_length_le (by omega)]at this
     exact this
    have hR:=uQ HR
    rw[decide_eq_true hall]at hR
    subst hR
    clear HR HK hall H1 H2 HL
    go_wp2
    go_ret
    exact ⟨rfl,n,rfl⟩
 ·have hne:xs≠ys:=fun e=>hlen (by rw[e])
  rw[zK hne]
  have g:((xs.length:Int) != (ys.length:Int))=true:=by rw[bne_iff_ne];omega
  clear hlen hne H1 H2
  go_enter Tryz.func28,Tryz.ntmps28
  go_wp2
  go_ret
  exact ⟨rfl,0,rfl⟩
theorem q32 {B:Nat}{a w:World}(h:Below B a w)(n:Nat):Below B a (w.drewN n):=⟨h.os,h.tape,h.output,h.size,h.block⟩
theorem CmpS.drewN {w:World}{g1 g2:Nat}{k1:ByteArray}{a1:Option Addr}{n1 c1:Nat}{k2:ByteArray}{a2:Option Addr}{n2 c2:Nat}{W:World}(h:CmpS w g1 g2 k1 a1 n1 c1 k2 a2 n2 c2 W)(n:Nat):CmpS w g1 g2 k1 a1 n1 c1 k2 a2 n2 c2 (W.drewN n):=⟨q32 h.bel n,h.b1,h.b2⟩
theorem qeZ {a b:ByteArray}(h:a≠b):(a.toList==b.toList)=false:=by
 rw[beq_eq_false_iff_ne]
 intro e
 refine h (ByteArray.ext (Array.ext' ?_))
 rw[<-ByteArray.toList_eq, <-ByteArray.toList_eq]
 exact e
theorem q30 (k1:ByteArray)(a1:Option Addr)(c1:Nat)(s1:List (List Int))(k2:ByteArray)(a2:Option Addr)(c2:Nat)(s2:List (List Int))(w:World)(ok1:MtOk k1 s1)(ok2:MtOk k2 s2)(h1:StagesAt w a1 s1)(h2:StagesAt w a2 s2):
  Calls Tryz.prog 9 #[.agg #[.string k1, .slice a1 s1.length c1], .agg #[.string k2, .slice a2 s2.length c2]] w fun e w'=>e= .returned (.bool (decide (k1=k2/\s1=s2)))/\Below w.heap.size w w':=by
 have s0:CmpS w w.heap.size (w.heap.size+1) k1 a1 s1.length c1 k2 a2 s2.length c2 ((w.alloc (.cells #[.string k1, .slice a1 s1.length c1] 36)).alloc (.cells #[.string k2, .slice a2 s2.length c2] 36)):=by
  refine ⟨((Below.refl _ _).alloc (zM _) _).alloc (by simp) _,MBox.alloc (heap_alloc_new w _) _,?_⟩
  have:=heap_alloc_new (w.alloc (.cells #[.string k1, .slice a1 s1.length c1] 36)) (.cells #[.string k2, .slice a2 s2.length c2] 36)
  unfold MBox
  simpa using this
 by_cases hk:k1=k2
 ·by_cases hlen:s1.length=s2.length
  ·subst hk
   generalize hR:decide (k1=k1/\s1=s2)=R
   have HR:=hZq hR
   have H1:=hZq h1
   have H2:=hZq h2
   have P1:=hZq ok1
   have P2:=hZq ok2
   have h8:=ok1.2.1
   have HL:=hZq hlen
   rw[<-hlen]at s0 ⊢
   clear hR h1 h2 ok1 ok2 hlen
   go_enter Tryz.func9,Tryz.ntmps9
   go_wp2_with fail
   generalize ((w.alloc (.cells #[.string k1, .slice a1 s1.length c1] 36)).alloc (.cells #[.string k1, .slice a2 s1.length c2] 36))=W0 at *
   go_loopw [5] (fun i wr=> ∃k:Nat,k<=s1.length/\i= .int .i64 (k:Int)/\CmpS w w.heap.size (w.heap.size+1) k1 a1 s1.length c1 k1 a2 s1.length c2 wr/\Hid (s1.take k=s2.take k)) (fun i _=>s1.length-(intOf i).toNat)
   case atStart=>exact ⟨0,Nat.zero_le _,rfl,s0,hZq (by simp)⟩
   case round=>
    clear s0
    obtain ⟨k,hk,rfl,s0,HK⟩:=hrel
    have f0:=s0.full.2
    by_cases hlt:k<s1.length
    ·have hlt2:k<s2.length:=by have:=uQ HL;omega
     obtain ⟨b1,o1,rfl,_,q1⟩:=(uQ H1).below s0.bel (zM _) (fun e=>by rw[e]at hlt;simp at hlt)
     obtain ⟨b2,o2,rfl,_,q2⟩:=(uQ H2).below s0.bel (zM _) (fun e=>by rw[e]at hlt2;simp at hlt2)
     obtain ⟨p1,m1,x1,i1⟩:=q1 k hlt
     obtain ⟨p2,m2,y1,i2⟩:=q2 k hlt2
     have l1:=(uQ P1).2.2 s1[k] (zJ hlt)
     have l2:=(uQ P2).2.2 s2[k] (zJ hlt2)
     have hstep:=fun he=>q6I hlt hlt2 (uQ HK) he
     have hdiff:s1[k]≠s2[k]->s1≠s2:=fun hne e=>hne (by simp[e])
     have HST:=hZq hstep
     have HDI:=hZq hdiff
     have hli:(k:Int)<(s1.length:Int):=by omega
     clear q1 q2 HK hstep hdiff H1 H2 P1 P2
     generalize s1[k]=x at *
     generalize s2[k]=y at *
     have hc:=fun q=>q6B p1 p2 m1 m2 x y (wr.drewN q) l1 l2 i1 i2
     by_cases he:x=y
     ·have HT:=hZq (uQ HST he)
      clear HST HDI
      subst he
      simp only[decide_true]at hc
      have HC:=hZq hc
      clear hc i1 i2
      generalize x.length=nx at *
      go_wp2
      go_quiet (first|(go_at_call 28;exact Calls.quiet_of (uQ HC _)))
      go_wp2
      go_roundw
      case rel=>exact ⟨k+1,by omega,by go_num,s0.drewN _,HT⟩
      case measure=>simp[intOf];omega
     ·have hR:=uQ HR
      rw[zK (fun h=>uQ HDI he h.2)]at hR
      subst hR
      simp only[zK he]at hc
      have HC:=hZq hc
      clear hc i1 i2 HDI HST he HR
      generalize x.length=nx at *
      generalize y.length=ny at *
      go_wp2
      go_quiet (first|(go_at_call 28;exact Calls.quiet_of (uQ HC _)))
      go_wp2
      go_ret
      exact ⟨rfl,q32 s0.bel _⟩
    ·have hall:s1=s2:=by
      have:=uQ HK
      have hl:=uQ HL
      rw[List.take_of_length_le (by omega),List.take_of_length_le (by omega)]at this
      exact this
     have hR:=uQ HR
     rw[decide_eq_true ⟨trivial,hall⟩]at hR
     subst hR
     clear HR HK hall H1 H2 HL P1 P2
     go_wp2
     go_ret
     exact ⟨rfl,s0.bel⟩
  ·have hne: ¬ (k1=k2/\s1=s2):=fun h=>hlen (by rw[h.2])
   rw[zK hne]
   have g:((s1.length:Int) != (s2.length:Int))=true:=by rw[bne_iff_ne];omega
   subst hk
   clear hlen hne h1 h2 ok1 ok2
   go_enter Tryz.func9,Tryz.ntmps9
   go_wp2
   go_ret
   exact ⟨rfl,s0.bel⟩
 ·have hne: ¬ (k1=k2/\s1=s2):=fun h=>hk h.1
  rw[zK hne]
  have g:=qeZ hk
  clear hk hne h1 h2 ok1 ok2
  go_enter Tryz.func9,Tryz.ntmps9
  go_wp2
  go_ret
  exact ⟨rfl,s0.bel⟩
structure MsR (key:ByteArray)(w:World)(v:Value)(zs:List Cp):Prop where
 row:w.ownsRow 0 36 2 v zs.length (zs.flatMap (mtE key))
 cp: ∀x∈zs,CpAt w x
theorem qbT {w:World}{B e sz n:Nat}{v:Value}{xs:List Value}(h:w.ownsRow B e sz v n xs):w.ownsRow 0 e sz v n xs:=by
 obtain ⟨h1,h2|⟨g,cap,cur,h2,_,h4⟩⟩:=h
 ·exact ⟨h1,Or.inl h2⟩
 ·exact ⟨h1,Or.inr ⟨g,cap,cur,h2,Nat.zero_le _,h4⟩⟩
theorem MsR.kp {key:ByteArray}{F:List Nat}{w w':World}{v:Value}{zs:List Cp}(h:MsR key w v zs)(hk:Kp F w w')(h1: ∀g,v.ownBlock=some g->g∉F)(h2: ∀x∈zs, ∀k∈x.B,k∉F):MsR key w' v zs:=
 ⟨q03 h.row hk h1,fun x hx=>(h.cp x hx).kp hk (h2 x hx)⟩
theorem MsR.up {key:ByteArray}{w w':World}{v:Value}{zs:List Cp}(h:MsR key w v zs)(hk:Kp [] w w'):MsR key w' v zs:=h.kp hk (by simp) (by simp)
theorem MsR.cell {key:ByteArray}{w:World}{g n c:Nat}{zs:List Cp}(h:MsR key w (.slice (some ⟨g,0,none⟩) n c) zs)(hn:n=zs.length)(j:Nat)(hj:j<zs.length):w.cell? ⟨g,j * 2,none⟩=some (.string key)/\w.cell? ⟨g,j * 2+1,none⟩=some zs[j].v:=by
 subst hn
 have c0:=q0t (enc:=mtE key) (sz:=2) (q15 key) h.row j 0 hj (by omega)
 have c1:=q0t (enc:=mtE key) (sz:=2) (q15 key) h.row j 1 hj (by omega)
 rw[Nat.add_zero]at c0
 exact ⟨c0,c1⟩
def tyE (c:UInt8):Ev:=⟨⟨#[107]⟩,⟨#[c]⟩,0,0,0,0,⟨#[]⟩⟩
def tyL (s:ByteArray):List Ev:=s.data.toList.map tyE
theorem q4R (s:ByteArray):(tyL s).length=s.size:=by unfold tyL;rw[zI];exact Array.length_toList
theorem qce (s:ByteArray)(j:Nat)(h:j<s.size):(tyL s).take (j+1)=(tyL s).take j++[tyE s[j]]:=by
 rw[List.take_succ_eq_append_getElem (by rw[q4R];exact h)]
 congr 1
 unfold tyL
 simp
 rfl
theorem qau (s:ByteArray)(hs:s.size<=1000)(w:World):
  Calls Tryz.prog 11 #[.string s] w fun e w'=> ∃v,e= .returned v/\OwnsX w.heap.size w' v (tyL s)/\Kp [] w w':=by
 have HPU:Hid (∀(j:Nat) (v:Value) (wr:World),j<s.size->OwnsX w.heap.size wr v ((tyL s).take j)->Kp [] w wr-> ∃g' cap w',(Builtin.append_ #[25,25] 25 #[v, .slice (some ⟨wr.heap.size,0,none⟩) 1 1]).run Tryz.prog (wr.alloc (.cells #[.string ⟨#[107]⟩, .string (s.extract j (j+1)), .int .i64 0, .int .i64 0, .int .i64 0, .int .i64 0, .string ⟨#[]⟩] 30))= .ok (.slice (some ⟨g',0,none⟩) (j+1) cap) w'/\OwnsX w.heap.size w' (.slice (some ⟨g',0,none⟩) (j+1) cap) ((tyL s).take (j+1))/\Kp [] w w'):=hZq (fun j v wr hj ho hk=>by
  have hl:((tyL s).take j).length=j:=by rw[zL,q4R];omega
  have e1:s.extract j (j+1)=⟨#[s[j]]⟩:=by
   have hjs:j<s.data.size:=hj
   have h1:(s.extract j (j+1)).data.toList=[s[j]]:=by
    rw[ByteArray.data_extract,Array.toList_extract,List.extract_eq_take_drop,List.drop_eq_getElem_cons (by simpa using hjs)]
    simp
    rfl
   exact ByteArray.ext (Array.ext' h1)
  have ka:=Kp.alloc wr (.cells #[.string ⟨#[107]⟩, .string (s.extract j (j+1)), .int .i64 0, .int .i64 0, .int .i64 0, .int .i64 0, .string ⟨#[]⟩] 30)
  have hb:CBox wr.heap.size (tyE s[j]).c 30 (wr.alloc (.cells #[.string ⟨#[107]⟩, .string (s.extract j (j+1)), .int .i64 0, .int .i64 0, .int .i64 0, .int .i64 0, .string ⟨#[]⟩] 30)):=by
   rw[e1]
   exact CBox.new wr _ _
  obtain ⟨g',cap,w',hrun,h1,h2,_⟩:=OwnsX.app (c:=1) (q03 ho ka (by simp)) (by have:=(hk.trans ka (by simp)).size;exact this) (tyE s[j]) hb (by rw[hl];omega) 25
  rw[hl]at hrun h1
  rw[<-qce s j hj]at h1
  refine ⟨g',cap,w',hrun,h1,?_⟩
  have hk2:=hk.trans ka (by simp)
  exact ⟨h2.os.trans hk2.os,h2.tape.trans hk2.tape,h2.output.trans hk2.output,Nat.le_trans hk2.size h2.size,fun k hk3 _=>(h2.block k hk3).trans (hk2.block k hk3 (by simp))⟩)
 have HEND:Hid ((tyL s).take s.size=tyL s):=hZq (List.take_of_length_le (by rw[q4R];exact zM _))
 go_enter Tryz.func11,Tryz.ntmps11
 go_wp2_with fail
 go_loopw [7,3] (fun iv ov wr=> ∃(j:Nat),j<=s.size/\iv= .int .i64 (j:Int)/\(∃a c,ov= .slice a j c)/\Hid (OwnsX w.heap.size wr ov ((tyL s).take j)/\Kp [] w wr)) (fun iv _ _=>s.size-(intOf iv).toNat)
 case atStart=>exact ⟨0,Nat.zero_le _,rfl,⟨none,0,rfl⟩,hZq ⟨OwnsX.nil _ _,Kp.refl _ _⟩⟩
 case round=>
  obtain ⟨j,hj,rfl,⟨va,vc,rfl⟩,HR⟩:=hrel
  by_cases hlt:j<s.size
  ·have hli:(j:Int)<(s.size:Int):=by omega
   obtain ⟨g',cap,w',hrun,ho,hk⟩:=uQ HPU j _ wr hlt (uQ HR).1 (uQ HR).2
   have HN:=hZq (And.intro ho hk)
   clear ho hk HR HPU HEND
   have HRUN:=hZq hrun
   clear hrun
   go_wp2_with (at_builtin;refine q0g rfl _ _ _ rfl rfl rfl (uQ HRUN) ?_)
   go_roundw
   case rel=>exact ⟨j+1,by omega,by go_num,⟨_,_,rfl⟩,hZq (uQ HN)⟩
   case measure=>simp[intOf];omega
  ·obtain rfl:j=s.size:=by omega
   have HN:=hZq (uQ HR)
   clear HR HPU
   go_wp2
   go_ret
   exact ⟨_,rfl,by have:=(uQ HN).1;rwa [uQ HEND]at this,(uQ HN).2⟩
def wkS (h:ByteArray):ByteArray:=((⟨#[115,116,97,114,116,32,97,58,32,116,121,112,101,32,61,61,32,39,120,39,59,32]⟩:ByteArray)++h)++⟨#[32,98,43,58,32,116,121,112,101,32,61,61,32,39,121,39,59,32,119,105,116,104,105,110,32,57]⟩
def wkP (h:Int):Ptn:=⟨[⟨⟨#[97]⟩,0,false,[⟨9,0,⟨#[]⟩,⟨#[]⟩,0⟩,⟨3,0,⟨#[]⟩,⟨#[]⟩,4⟩,⟨2,0,⟨#[120]⟩,⟨#[]⟩,0⟩]⟩,⟨⟨#[98]⟩,h,true,[⟨9,0,⟨#[]⟩,⟨#[]⟩,0⟩,⟨3,0,⟨#[]⟩,⟨#[]⟩,4⟩,⟨2,0,⟨#[121]⟩,⟨#[]⟩,0⟩]⟩],9⟩
def wkE:List Ev:=tyL ⟨#[120,121,122,121]⟩
structure WkF (how:ByteArray)(m:Nat)(h:Int)(r:List (List (List Nat))):Prop where
 rd:rdP (wkS how)=⟨wkP h,0,0⟩
 ck:mckE (wkP h) wkE=0
 fd:Mt.fnd (Mt.pm (wkP h) wkE) 9=[[0],[1]]::r
 st:Srt ([[0],[1]]::r)
 ln:r.length+1=m
 sz:(wkS how).size<=1000
 hl:how.size<=9
 hw: -9223372036854775808<=h/\h<=9223372036854775807
theorem qcj:WkF ⟨#[116,104,101,110]⟩ 2 2 [[[0],[1,3]]]:=⟨by kernel_rfl,by kernel_rfl,by kernel_rfl,(show List.Pairwise (fun a b=>cT a b<0) _ from of_decide_eq_true (by kernel_rfl)),rfl,of_decide_eq_true (by kernel_rfl),by decide,by decide⟩
theorem qdT:WkF ⟨#[97,110,121]⟩ 3 3 [[[0],[1,3]],[[0],[3]]]:=⟨by kernel_rfl,by kernel_rfl,by kernel_rfl,(show List.Pairwise (fun a b=>cT a b<0) _ from of_decide_eq_true (by kernel_rfl)),rfl,of_decide_eq_true (by kernel_rfl),by decide,by decide⟩
theorem qci:WkF ⟨#[110,101,120,116]⟩ 1 1 []:=⟨by kernel_rfl,by kernel_rfl,by kernel_rfl,(show List.Pairwise (fun a b=>cT a b<0) _ from of_decide_eq_true (by kernel_rfl)),rfl,of_decide_eq_true (by kernel_rfl),by decide,by decide⟩
theorem qfs:arE ⟨#[107]⟩ wkE=true:=by kernel_rfl
theorem WkF.fi {how:ByteArray}{m:Nat}{h:Int}{r:List (List (List Nat))}(f:WkF how m h r)(hm:m<=9):fiE (wkP h) ⟨#[107]⟩ wkE=0/\fiL (wkP h) ⟨#[107]⟩ wkE=[[0],[1]]::r:=by
 have hwi:(wkP h).wi.toNat=9:=rfl
 have e1:fdS (Mt.pm (wkP h) wkE) 9=[[0],[1]]::r:=q4O (q4y _ _) f.st (by rw[<-f.fd];exact q1X _ _)
 have hl:=f.ln
 have e2:fiE (wkP h) ⟨#[107]⟩ wkE=0:=by
  unfold fiE
  rw[if_pos f.ck,if_pos qfs,hwi,e1,if_neg (by rw[List.length_cons];omega)]
 refine ⟨e2,?_⟩
 unfold fiL
 rw[if_pos e2,hwi,e1]
theorem qft (h:Int)(hw: -9223372036854775808<=h/\h<=9223372036854775807):(∀g∈(wkP h).ss,g.ok)/\ ∀g∈(wkP h).ss, ∀q∈g.cd,q.fit:=by
 constructor
 ·intro g hg
  unfold wkP at hg
  simp only[zH,List.not_mem_nil,or_false]at hg
  rcases hg with rfl|rfl
  ·refine ⟨by decide,by decide,fun p hp=>?_⟩
   simp only[zH,List.not_mem_nil,or_false]at hp
   rcases hp with rfl|rfl|rfl <;> (unfold Pt.ok;decide)
  ·refine ⟨by show (⟨#[98]⟩:ByteArray).size<=_;decide,hw,fun p hp=>?_⟩
   simp only[zH,List.not_mem_nil,or_false]at hp
   rcases hp with rfl|rfl|rfl <;> (unfold Pt.ok;decide)
 ·intro g hg q hq
  unfold wkP at hg
  simp only[zH,List.not_mem_nil,or_false]at hg
  rcases hg with rfl|rfl
  all_goals
   simp only[zH,List.not_mem_nil,or_false]at hq
   rcases hq with rfl|rfl|rfl <;> (unfold Pt.fit;decide)
theorem qfu: ∀e∈wkE,evSz e:=by
 intro e he
 unfold wkE tyL at he
 simp only[List.mem_map]at he
 obtain ⟨c,_,rfl⟩:=he
 unfold tyE evSz
 decide+revert
theorem qaw (W:World):StagesAt (((W.alloc (.cells #[.int .i64 0] 3)).alloc (.cells #[.int .i64 1] 3)).alloc (.cells #[.slice (some ⟨W.heap.size,0,none⟩) 1 1, .slice (some ⟨W.heap.size+1,0,none⟩) 1 1] 51)) (some ⟨W.heap.size+1+1,0,none⟩) [[0],[1]]:=fun _=>by
 have k0:=(Kp.alloc (W.alloc (.cells #[.int .i64 0] 3)) (.cells #[.int .i64 1] 3)).trans (Kp.alloc _ (.cells #[.slice (some ⟨W.heap.size,0,none⟩) 1 1, .slice (some ⟨W.heap.size+1,0,none⟩) 1 1] 51)) (by simp)
 have c0:=((CBox.new W #[.int .i64 0] 3).kp k0 (by simp)).cell (i:=0) (v:= .int .i64 0) rfl
 have c1:=((CBox.new (W.alloc (.cells #[.int .i64 0] 3)) #[.int .i64 1] 3).kp (Kp.alloc _ (.cells #[.slice (some ⟨W.heap.size,0,none⟩) 1 1, .slice (some ⟨W.heap.size+1,0,none⟩) 1 1] 51)) (by simp)).cell (i:=0) (v:= .int .i64 1) rfl
 have c2:=CBox.new ((W.alloc (.cells #[.int .i64 0] 3)).alloc (.cells #[.int .i64 1] 3)) #[.slice (some ⟨W.heap.size,0,none⟩) 1 1, .slice (some ⟨W.heap.size+1,0,none⟩) 1 1] 51
 simp only[World.size_alloc]at c1 c2
 refine ⟨W.heap.size+1+1,0,rfl,by simp,fun i hi=>?_⟩
 have h2:i=0\/i=1:=by simp at hi;omega
 rcases h2 with rfl|rfl
 ·refine ⟨_,1,c2.cell rfl,fun _=>⟨W.heap.size,0,rfl,by simp;omega,fun k hk=>?_⟩⟩
  have:k=0:=by simp at hk;omega
  subst this
  exact c0
 ·refine ⟨_,1,c2.cell rfl,fun _=>⟨W.heap.size+1,0,rfl,by simp,fun k hk=>?_⟩⟩
  have:k=0:=by simp at hk;omega
  subst this
  exact c1
theorem q8F (w:World)(hT:TbE w):Calls Tryz.prog 4 #[] w fun e w'=>e= .returned (.bool true)/\Kp [] w w':=by
 obtain ⟨W0,hW0⟩: ∃W0,W0=w.alloc (.cells #[.string ⟨#[116,104,101,110]⟩, .int .i64 2, .string ⟨#[97,110,121]⟩, .int .i64 3, .string ⟨#[110,101,120,116]⟩, .int .i64 1] 44):=⟨_,rfl⟩
 have k0:Kp [] w W0:=by rw[hW0];exact Kp.alloc _ _
 have HROW:Hid (∀j,j<3-> ∃how m h r,WkF how m h r/\m<=9/\ ∀W,Kp [] W0 W->W.cell? ⟨w.heap.size,j * 2,none⟩=some (.string how)/\W.cell? ⟨w.heap.size,j * 2+1,none⟩=some (.int .i64 (m:Int))):=hZq (fun j hj=>by
  have hb:=CBox.new w #[.string ⟨#[116,104,101,110]⟩, .int .i64 2, .string ⟨#[97,110,121]⟩, .int .i64 3, .string ⟨#[110,101,120,116]⟩, .int .i64 1] 44
  rw[<-hW0]at hb
  have h3:j=0\/j=1\/j=2:=by omega
  rcases h3 with rfl|rfl|rfl
  ·exact ⟨_,_,_,_,qcj,by omega,fun W hk=>⟨(hb.kp hk (by simp)).cell rfl,(hb.kp hk (by simp)).cell rfl⟩⟩
  ·exact ⟨_,_,_,_,qdT,by omega,fun W hk=>⟨(hb.kp hk (by simp)).cell rfl,(hb.kp hk (by simp)).cell rfl⟩⟩
  ·exact ⟨_,_,_,_,qci,by omega,fun W hk=>⟨(hb.kp hk (by simp)).cell rfl,(hb.kp hk (by simp)).cell rfl⟩⟩)
 have HK0:=hZq k0
 have HT:=hZq hT
 have EF:=fun W=>eqF 9998 0 0 0 0 W
 have HTL:Hid ((tyL ⟨#[120,121,122,121]⟩).length=4):=hZq (by kernel_rfl)
 clear hT k0
 go_enter Tryz.func4,Tryz.ntmps4
 go_upto_region 2 with fail
 rw[<-hW0]
 clear hW0
 go_wp2_with fail
 go_loopw [12] (fun iv wr=> ∃j:Nat,j<=3/\iv= .int .i64 (j:Int)/\Hid (Kp [] W0 wr)) (fun iv _=>3-(intOf iv).toNat)
 case atStart=>exact ⟨0,by omega,rfl,hZq (Kp.refl _ _)⟩
 case round=>
  obtain ⟨j,hj,rfl,HK⟩:=hrel
  by_cases hlt:j<3
  ·have hli:(j:Int)<3:=by omega
   obtain ⟨how,m,h,r,hF,hm9,hcl⟩:=uQ HROW j hlt
   obtain ⟨c0,c1⟩:=hcl wr (uQ HK)
   have b1:=CBox.new wr #[.string how, .int .i64 (m:Int)] 44
   have k1:=Kp.alloc wr (.cells #[.string how, .int .i64 (m:Int)] 44)
   obtain ⟨W1,hW1⟩: ∃W1,W1=wr.alloc (.cells #[.string how, .int .i64 (m:Int)] 44):=⟨_,rfl⟩
   rw[<-hW1]at b1 k1
   have kw1:=((uQ HK0).trans (uQ HK) (by simp)).trans k1 (by simp)
   have RD0:=qa4 (wkS how) W1 ((uQ HT).kp kw1 (by simp)) (by have:=hF.sz;omega)
   rw[hF.rd]at RD0
   have RD:Hid (Calls Tryz.prog 10 #[.string (wkS how)] W1 fun e w'=> ∃ad cp rs,e= .returned (.tuple #[.agg #[.slice ad 2 cp, .int .i64 9], .agg #[.int .i64 0, .int .i64 0]])/\(StsAt w' ad (rs:List SR)/\stgs rs=(wkP h).ss/\rs.length=2/\2<=cp)/\Kp [] W1 w'):=hZq (RD0.mono fun e w' ⟨⟨ad,cp,rs,h1,h2,h3⟩,h4⟩=>by
    obtain ⟨a',c',e',hat,hcap⟩:=h2.at
    injection e' with ea eb ec
    have hl:rs.length=2:=by rw[<-q02,h3];rfl
    rw[hl]at h1
    subst ea ec
    exact ⟨ad,cp,rs,h1,⟨hat,h3,hl,by omega⟩,Kp.ofBelow h4⟩)
   unfold wkS at RD
   have d0:=b1.cell (i:=0) (v:= .string how) rfl
   have HB1:=hZq b1
   have HKW1:=hZq k1
   have HF:=hZq hF
   have hh9:=hF.hl
   clear RD0 hcl hF b1 k1 kw1 HROW
   go_upto_region 4 with fail
   rw[<-hW1]
   clear hW1 c0 c1
   go_wp2_with fail
   refine (uQ RD).mono ?_
   rintro e w2 ⟨ad,cp,rs,rfl,hrs,hk2⟩
   have kv:Kp [] w2 ((w2.alloc (.cells #[.slice ad 2 cp, .int .i64 9] 24)).alloc (.cells #[.int .i64 0, .int .i64 0] 47)):=(Kp.alloc _ _).trans (Kp.alloc _ _) (by simp)
   have hP1:=q4f w2 #[.slice ad 2 cp, .int .i64 9] 24 (.cells #[.int .i64 0, .int .i64 0] 47)
   have hF1:=q4g w2 #[.int .i64 0, .int .i64 0] 47 (.cells #[.slice ad 2 cp, .int .i64 9] 24)
   obtain ⟨W3,hW3⟩: ∃W3,W3=((w2.alloc (.cells #[.slice ad 2 cp, .int .i64 9] 24)).alloc (.cells #[.int .i64 0, .int .i64 0] 47)):=⟨_,rfl⟩
   rw[<-hW3]at kv hP1 hF1
   obtain ⟨V,hV⟩: ∃V,V=W3.drew:=⟨_,rfl⟩
   have kV:Kp [] W3 V:=by rw[hV];exact Kp.drew _
   have k2V:Kp [] w2 V:=kv.trans kV (by simp)
   have k0V:Kp [] w V:=((((uQ HK0).trans (uQ HK) (by simp)).trans (uQ HKW1) (by simp)).trans hk2 (by simp)).trans k2V (by simp)
   have kWr:Kp [] W0 V:=(((uQ HK).trans (uQ HKW1) (by simp)).trans hk2 (by simp)).trans k2V (by simp)
   have HC2:Hid (∀W,Kp [] V W->(W.cell? ⟨w2.heap.size+1,0,none⟩=some (.int .i64 0)/\W.cell? ⟨w2.heap.size+1,1,none⟩=some (.int .i64 0))/\W.cell? ⟨wr.heap.size,1,none⟩=some (.int .i64 (m:Int))/\Hid (Kp [] W0 W)):=hZq (fun W hk=>⟨⟨(hF1.kp (kV.trans hk (by simp)) (by simp)).cell rfl,(hF1.kp (kV.trans hk (by simp)) (by simp)).cell rfl⟩,((uQ HB1).kp ((hk2.trans k2V (by simp)).trans hk (by simp)) (by simp)).cell rfl,hZq (kWr.trans hk (by simp))⟩)
   have HSV:Hid (∀W,Kp [] V W->(W.cell? ⟨w2.heap.size,0,none⟩=some (.slice ad 2 cp)/\W.cell? ⟨w2.heap.size,1,none⟩=some (.int .i64 9))/\Hid (∀ta tc,EvsAt W ta (tyL ⟨#[120,121,122,121]⟩)->Calls Tryz.prog 5 #[.agg #[.slice ad 2 cp, .int .i64 9], .string ⟨#[107]⟩, .slice ta (tyL ⟨#[120,121,122,121]⟩).length tc] W fun e w'=> ∃fg fc zg,e= .returned (.tuple #[.slice (some ⟨fg,0,none⟩) m fc, .int .i64 0])/\Kp [] W w'/\(∀W',Kp [] w' W'->StagesAt W' (some ⟨zg,0,none⟩) [[0],[1]])/\w'.cell? ⟨fg,0,none⟩=some (.string ⟨#[107]⟩)/\w'.cell? ⟨fg,1,none⟩=some (.slice (some ⟨zg,0,none⟩) 2 2))):=hZq (fun W hk=>⟨⟨(hP1.kp (kV.trans hk (by simp)) (by simp)).cell rfl,(hP1.kp (kV.trans hk (by simp)) (by simp)).cell rfl⟩,hZq (fun ta tc hev=>by
    obtain ⟨r1,r2,r3,r4⟩:=hrs
    have hwo:=qft h (uQ HF).hw
    have hmm: ∀x∈rs,x.s∈(wkP h).ss:=fun x hx=>by rw[<-r2];unfold stgs;exact List.mem_map_of_mem hx
    have hfd:=q5P ad cp rs 9 ta tc wkE ⟨#[107]⟩ W (r1.kp (k2V.trans hk (by simp))) hev ((uQ HT).kp (k0V.trans hk (by simp)) (by simp)) (fun x hx=>hwo.1 _ (hmm x hx)) (fun x hx=>hwo.2 _ (hmm x hx)) (by omega) (by omega) (by decide) qfu (by decide)
    have he:(⟨stgs rs,9⟩:Ptn)=wkP h:=by rw[r2];rfl
    obtain ⟨f1,f2⟩:=(uQ HF).fi hm9
    rw[he,f1,f2,r3]at hfd
    refine hfd.mono ?_
    rintro e w' ⟨v,zs,rfl,hP⟩
    have hts:=hP.ts
    match zs,hts with
    |[],hts=>cases hts
    |z::zr,hts=>
     rw[List.map_cons,List.cons.injEq]at hts
     have hlen:(z::zr).length=m:=by
      rw[List.length_cons, <-(uQ HF).ln, <-hts.2,zI]
     have hrow:=hP.row
     rw[hlen]at hrow
     obtain ⟨a,c,rfl,hg⟩:=q2g hrow
     obtain ⟨g,rfl⟩:=hg (by rw[<-hlen];simp)
     have hrow':=hP.row
     rw[<-hlen]at hrow'
     have c0:=q0t (enc:=mtE ⟨#[107]⟩) (sz:=2) (q15 _) hrow' 0 0 (by simp) (by omega)
     have c1:=q0t (enc:=mtE ⟨#[107]⟩) (sz:=2) (q15 _) hrow' 0 1 (by simp) (by omega)
     refine ⟨g,c,z.g,rfl,hP.kp,fun W' hk'=>?_,c0,?_⟩
     ·have:=((hP.cp z (by simp)).kp hk' (by simp)).stages
      rw[hts.1]at this
      exact this
     ·have e2:w'.cell? ⟨g,1,none⟩=some z.v:=c1
      rw[e2]
      unfold Cp.v
      rw[hts.1]
      rfl)⟩)
   have TY:=hZq (qau ⟨#[120,121,122,121]⟩ (by decide) V)
   have hS0:=(uQ HSV V (Kp.refl _ _)).1
   have hm1:1<=m:=by have:=(uQ HF).ln;omega
   clear RD hrs hk2 kv hP1 hF1 kV k2V k0V kWr HB1 HKW1 HF d0 HK
   go_upto_region 5 with fail
   rw[<-hW3]
   clear hW3
   go_cut [5,6] (fun lv ev wc=> ∃fg fc zg,lv= .slice (some ⟨fg,0,none⟩) m fc/\ev= .int .i64 0/\Hid (Kp [] V wc/\(∀W',Kp [] wc W'->StagesAt W' (some ⟨zg,0,none⟩) [[0],[1]])/\wc.cell? ⟨fg,0,none⟩=some (.string ⟨#[107]⟩)/\wc.cell? ⟨fg,1,none⟩=some (.slice (some ⟨zg,0,none⟩) 2 2)))
   case first=>
    refine wp_region_held_drew (S:=fun W=>W.cell? ⟨w2.heap.size,0,none⟩=some (.slice ad 2 cp)/\W.cell? ⟨w2.heap.size,1,none⟩=some (.int .i64 9)) (by kernel_rfl) (by rw[<-hV];exact hS0) (fun hHeld=>?_)
    rw[<-hV]at hHeld ⊢
    clear hV
    show wpAnyH _ _ _ _ _ 8 (Array.replicate 8 false) _ _
    refine wpAnyH_take (i:=0) (oi:=⟨some 25,Op.load 24 (.tmp 3),24,"theorems.go:29",#[],none⟩) (v:=?_) rfl (by kernel_rfl) (by kernel_rfl) (by kernel_rfl) (fun _ _ _ h=>h) (Or.inl ⟨by rfl,?_⟩) (by assumption) ?_
    rotate_left
    ·intro w0 s9
     (try dsimp only at s9)
     go_simp
     (try with_reducible rfl)
    try simp only[Act.put,zz1,zz2,zz3]
    refine wpAnyH_ready (rs:=[1]) (by kernel_rfl) (by simp) ?_
    refine AllReadyH.cons (o:=⟨some 26,Op.call { callee:= .value (.func 11),args:=#[.const (Value.string { data:=#[120,121,122,121] })],argTypes:=#[9] },25,"theorems.go:29",#[],none⟩) rfl (fun K hK=>?_) AllReadyH.nil
    go_simp
    refine (uQ TY).mono ?_
    rintro e w5 ⟨tv,rfl,hto,hk5⟩
    obtain ⟨ta,tc,rfl,hte⟩:=hto.at
    have HK5:=hZq hk5
    obtain ⟨hS5,HF5⟩:=uQ HSV w5 hk5
    have FD:=hZq (uQ HF5 ta tc hte)
    clear TY HF5 hto hte hk5
    refine hK.out _ _ ?_ (fun hHeld=>?_)
    ·exact hS5
    clear hK K
    try simp only[Act.put,zz1,zz2,zz3]
    refine wpAnyH_ready (rs:=[2]) (by kernel_rfl) (by simp) ?_
    refine AllReadyH.cons (o:=⟨some 27,Op.call { callee:= .value (.func 5),args:=#[.tmp 25, .const (Value.string { data:=#[107] }), .tmp 26],argTypes:=#[24,9,25] },33,"theorems.go:29",#[⟨0, .data⟩,⟨1, .data⟩,⟨1, .chain⟩],none⟩) rfl (fun K hK=>?_) AllReadyH.nil
    go_simp
    refine (uQ FD).mono ?_
    rintro e w6 ⟨fg,fc,zg,rfl,hk6,hstz,l0,l1⟩
    have HK6:=hZq ((uQ HK5).trans hk6 (by simp))
    obtain ⟨hS6,_⟩:=uQ HSV w6 (uQ HK6)
    have HSTZ:=hZq hstz
    clear FD hk6 HK5 hS5 hstz
    refine hK.out _ _ ?_ (fun hHeld=>?_)
    ·exact hS6
    clear hK K
    try simp only[Act.put,zz1,zz2,zz3]
    refine wpAnyH_take (i:=3) (oi:=⟨some 24,Op.move (.tmp 27),33,"theorems.go:29",#[⟨2, .data⟩],none⟩) (v:=?_) rfl (by kernel_rfl) (by kernel_rfl) (by kernel_rfl) (fun _ _ _ h=>h) (Or.inl ⟨by rfl,?_⟩) (by assumption) ?_
    rotate_left
    ·intro w0 s9
     (try dsimp only at s9)
     go_simp
     (try with_reducible rfl)
    try simp only[Act.put,zz1,zz2,zz3]
    refine wpAnyH_take (i:=4) (oi:=⟨some 28,Op.extract (.tmp 24) 0,31,"theorems.go:29",#[⟨3, .data⟩],none⟩) (v:=?_) rfl (by kernel_rfl) (by kernel_rfl) (by kernel_rfl) (fun _ _ _ h=>h) (Or.inl ⟨by rfl,?_⟩) (by assumption) ?_
    rotate_left
    ·intro w0 s9
     (try dsimp only at s9)
     go_simp
     (try with_reducible rfl)
    try simp only[Act.put,zz1,zz2,zz3]
    refine wpAnyH_take (i:=5) (oi:=⟨some 29,Op.extract (.tmp 24) 1,32,"theorems.go:29",#[⟨3, .data⟩,⟨6, .gcOnly Departure.lateStores⟩],none⟩) (v:=?_) rfl (by kernel_rfl) (by kernel_rfl) (by kernel_rfl) (fun _ _ _ h=>h) (Or.inl ⟨by rfl,?_⟩) (by assumption) ?_
    rotate_left
    ·intro w0 s9
     (try dsimp only at s9)
     go_simp
     (try with_reducible rfl)
    try simp only[Act.put,zz1,zz2,zz3]
    refine wpAnyH_take (i:=6) (oi:=⟨some 5,Op.assign (.tmp 28),31,"theorems.go:29",#[⟨4, .data⟩,⟨2, .chain⟩,⟨0, .phase⟩,⟨1, .phase⟩,⟨2, .phase⟩,⟨3, .phase⟩,⟨4, .phase⟩,⟨5, .textOnly Departure.lateStores⟩],none⟩) (v:=?_) rfl (by kernel_rfl) (by kernel_rfl) (by kernel_rfl) (fun _ _ _ h=>h) (Or.inl ⟨by rfl,?_⟩) (by assumption) ?_
    rotate_left
    ·intro w0 s9
     (try dsimp only at s9)
     go_simp
     (try with_reducible rfl)
    try simp only[Act.put,zz1,zz2,zz3]
    refine wpAnyH_take (i:=7) (oi:=⟨some 6,Op.assign (.tmp 29),32,"theorems.go:29",#[⟨5, .data⟩,⟨6, .chain⟩,⟨0, .phase⟩,⟨1, .phase⟩,⟨2, .phase⟩,⟨3, .phase⟩,⟨4, .phase⟩,⟨5, .phase⟩,⟨6, .phase⟩],none⟩) (v:=?_) rfl (by kernel_rfl) (by kernel_rfl) (by kernel_rfl) (fun _ _ _ h=>h) (Or.inl ⟨by rfl,?_⟩) (by assumption) ?_
    rotate_left
    ·intro w0 s9
     (try dsimp only at s9)
     go_simp
     (try with_reducible rfl)
    try simp only[Act.put,zz1,zz2,zz3]
    refine wpAnyH_done (by kernel_rfl) ?_ _
    have HKF:=hZq (And.intro (uQ HK6) (And.intro (uQ HSTZ) (And.intro l0 l1)))
    clear HSV HC2 HK6 HSTZ hS6 hHeld l0 l1
    go_wp2
    go_meet
    exact ⟨fg,fc,zg,rfl,rfl,HKF⟩
   case rest=>
   obtain ⟨fg,fc,zg,rfl,rfl,HK6⟩:=hcut
   obtain ⟨kc,hstz,l0,l1⟩:=uQ HK6
   obtain ⟨⟨y0,y1⟩,y2,HKC⟩:=uQ HC2 wc kc
   have ka:Kp [] wc (((wc.alloc (.cells #[.int .i64 0] 3)).alloc (.cells #[.int .i64 1] 3)).alloc (.cells #[.slice (some ⟨wc.heap.size,0,none⟩) 1 1, .slice (some ⟨wc.heap.size+1,0,none⟩) 1 1] 51)):=((Kp.alloc _ _).trans (Kp.alloc _ _) (by simp)).trans (Kp.alloc _ _) (by simp)
   have SM:=hZq (q30 ⟨#[107]⟩ (some ⟨zg,0,none⟩) 2 [[0],[1]] ⟨#[107]⟩ (some ⟨wc.heap.size+1+1,0,none⟩) 2 [[0],[1]] _ ⟨by decide,by decide,by decide⟩ ⟨by decide,by decide,by decide⟩ (hstz _ ka) (qaw wc))
   have HD:decide (((⟨#[107]⟩:ByteArray)=⟨#[107]⟩)/\(([[0],[1]]:List (List Int))=[[0],[1]]))=true:=decide_eq_true ⟨rfl,rfl⟩
   rw[HD]at SM
   have hmi:(0:Int)<(m:Int):=by omega
   have HKA:=hZq ((uQ HKC).trans ka (by simp))
   clear HSV HC2 HK6 kc hstz HKC ka HD TY hS0 HK0 HT HTL
   go_wp2_with fail
   refine (uQ SM).mono ?_
   rintro e w9 ⟨rfl,hb9⟩
   have HK9:=hZq ((uQ HKA).trans (Kp.ofBelow hb9) (by simp))
   clear SM hb9 HKA l0 l1 y0 y1 y2
   go_wp2
   go_roundw
   case rel=>exact ⟨j+1,by omega,by go_num,HK9⟩
   case measure=>simp[intOf];omega
  ·obtain rfl:j=3:=by omega
   have HKF:=hZq ((uQ HK0).trans (uQ HK) (by simp))
   clear HK HROW
   go_wp2
   go_ret
   exact ⟨rfl,uQ HKF⟩
structure SyE (w:World)(g cap:Nat)(es:List Ev)(wr:World):Prop where
 row:OwnsX w.heap.size wr (.slice (some ⟨g,0,none⟩) es.length cap) es
 kp:Kp [] w wr
theorem SyE.up {w wr w':World}{g cap:Nat}{es:List Ev}(h:SyE w g cap es wr)(hk:Kp [] wr w'):SyE w g cap es w':=⟨q03 h.row hk (by simp),h.kp.trans hk (by simp)⟩
theorem SyE.at {w wr:World}{g cap:Nat}{es:List Ev}(h:SyE w g cap es wr):EvsAt wr (some ⟨g,0,none⟩) es:=by
 obtain ⟨ad,cp,e,h1⟩:=h.row.at
 injection e with e1 _ _
 rw[<-e1]at h1
 exact h1
section
open Go.RowKit Go.Deep
theorem qaL:Tryz.prog.bytesOf 178=56:=by kernel_rfl
theorem q1E {H:Type}{P:Program}{e:TypeId}{ds:List (DataW H)}{d:DataW H}{n:Nat}(hd:d∈ds)(hn:n∈d.weights P e):n∈DataW.weightsAll P e ds:=by
 induction ds with
 |nil=>cases hd
 |cons x r ih=>
  simp only[DataW.weightsAll,zG]
  rcases zH.1 hd with rfl|h
  ·exact Or.inl hn
  ·exact Or.inr (ih h)
theorem q9Y {H:Type}{enc:TypeId × Value->H}{W:World}{spare:Nat->Bool}{held:Bool}{fuel:Nat}{v:Value}{x:DataW H × List MemPlace}
  (h:DataW.trod enc Tryz.prog W 0 spare held fuel 86 [v]=some x) (hw: ∀n∈x.1.weights Tryz.prog 86,n<=reachBytes):
  ∃(ad:Option Addr) (cap:Nat) (l:List Pt),v= .slice ad l.length cap/\l.length * 56<=140737488351232/\l.length<=cap/\PtsAt W ad l/\(∀y∈l,y.ok)/\(ad=none->cap=0)/\ ∀y∈l,y.s.size<=140737488351232/\y.st.size<=140737488351232:=by
 obtain ⟨ad,cap,l,hv,h1,h2,h3⟩:=q6f h
 obtain ⟨f0,f1,f2,f3,f4,hu,t0,t1,t2,t3,t4,o0,o1,o2,o3,o4⟩:=q2e
 rcases open_slice Tryz.underlying86 h with ⟨hcs,_⟩|⟨a,len,cap',m,n,D,Pl,hcs,hb,hl,hm,hmm,rfl,hx⟩
 ·simp only[List.cons.injEq,and_true]at hcs
  rw[hv]at hcs
  simp only[Value.slice.injEq]at hcs
  have hl0:l=[]:=List.eq_nil_of_length_eq_zero hcs.2.1
  subst hl0
  exact ⟨ad,cap,[],hv,by simp,by simp,h2,h3,fun _=>hcs.2.2,by simp⟩
 ·simp only[List.cons.injEq,and_true]at hcs
  rw[hv]at hcs
  simp only[Value.slice.injEq]at hcs
  obtain ⟨rfl,hll,rfl⟩:=hcs
  have hlm:len<=m:=by rw[hmm];split <;> omega
  have hw0:(len+(m-len)) * 56<=reachBytes:=by
   have:=hw ((len+(m-len)) * 56) (by simp[DataW.weights,Tryz.underlying86,qaL])
   exact this
  have hreach:reachBytes=140737488351232:=by decide
  refine ⟨some a,cap,l,hv,by omega,by omega,h2,h3,(by intro e;cases e),fun y hy=>?_⟩
  obtain ⟨i,hi,rfl⟩:=List.mem_iff_getElem.1 hy
  obtain ⟨b,off,ea,_,hc⟩:=h2 (fun e=>by rw[e]at hi;simp at hi)
  obtain rfl:=Option.some.inj ea
  obtain ⟨cs',k1,k2⟩:=hx i (by omega)
  rw[q2x]at k1
  obtain ⟨_,hlen,hcell⟩:=World.cells?_some k1
  obtain ⟨xs,k,hk,hxy,_,hxl,hf⟩:=DataW.trod_struct hu k2
  match xs,hxl,cs',hlen with
  |[y0,y1,y2,y3,y4],_,[v0,v1,v2,v3,v4],_=>
   have g2:=hf 2 f2 rfl
   have g3:=hf 3 f3 rfl
   simp[o2,o3,t2,t3,q0J]at g2 g3
   have e2:=hcell 2 (by omega)
   have e3:=hcell 3 (by omega)
   rw[Go.Deep.add_add]at e2 e3
   obtain ⟨s,q2,q3,_⟩:=DataW.trod_string Tryz.underlying9 g2
   obtain ⟨s',q2',q3',_⟩:=DataW.trod_string Tryz.underlying9 g3
   simp only[List.cons.injEq,and_true]at q2 q2'
   subst q2 q2'
   have c2:=(hc i hi).2.2.1
   have c3:=(hc i hi).2.2.2.1
   rw[Go.WideShapes.add_plain]at e2 e3
   have e2':W.cell? ⟨b,off+i * 5+2,none⟩=some (.string s):=by rw[Nat.add_assoc];simpa using e2
   have e3':W.cell? ⟨b,off+i * 5+3,none⟩=some (.string s'):=by rw[Nat.add_assoc];simpa using e3
   rw[c2]at e2'
   rw[c3]at e3'
   simp only[Option.some.injEq,Value.string.injEq]at e2' e3'
   rw[e2',e3']
   have hD:D i= .agg [y0.1,y1.1,y2.1,y3.1,y4.1]:=by have:=congrArg Prod.fst hxy;simpa using this
   have hwt:s.size∈(D i).weights Tryz.prog 178:=by
    rw[hD]
    simp only[DataW.weights,hu]
    refine DataW.weights_mem_each (j:=2) (t:=9) (d:=y2.1) (by simp[t2]) rfl _ ?_
    rw[q3]
    simp[DataW.weights]
   have hwt':s'.size∈(D i).weights Tryz.prog 178:=by
    rw[hD]
    simp only[DataW.weights,hu]
    refine DataW.weights_mem_each (j:=3) (t:=9) (d:=y3.1) (by simp[t3]) rfl _ ?_
    rw[q3']
    simp[DataW.weights]
   have r1:=hw s.size (by
    simp only[DataW.weights,Tryz.underlying86,zH,zG]
    exact Or.inr (Or.inl (q1E (List.mem_map.2 ⟨i,List.mem_range.2 (by omega),rfl⟩) hwt)))
   have r2:=hw s'.size (by
    simp only[DataW.weights,Tryz.underlying86,zH,zG]
    exact Or.inr (Or.inl (q1E (List.mem_map.2 ⟨i,List.mem_range.2 (by omega),rfl⟩) hwt')))
   exact ⟨by omega,by omega⟩
end
section
open Go.RowKit Go.Deep
theorem q6U:Tryz.prog.cellsOf 88=4:=by kernel_rfl
theorem q5c:Tryz.prog.cellsOf 24=2:=by kernel_rfl
theorem q6V:Tryz.prog.cellsOf 4=1:=by kernel_rfl
theorem q5y:Tryz.prog.cellsOf 86=1:=by kernel_rfl
theorem q2W:Tryz.prog.cellsOf 22=1:=by kernel_rfl
theorem q6T:Tryz.prog.bytesOf 88=56:=by kernel_rfl
theorem q5O: ∃f0 f1 f2 f3:Field,Tryz.prog.underlying 88=some (.struct #[f0,f1,f2,f3])/\f0.type=9/\f1.type=3/\f2.type=4/\f3.type=86/\f0.offset=0/\f1.offset=1/\f2.offset=2/\f3.offset=3:=
 ⟨_,_,_,_,Tryz.underlying88,rfl,rfl,rfl,rfl,rfl,rfl,rfl,rfl⟩
theorem q2t: ∃f0 f1:Field,Tryz.prog.underlying 24=some (.struct #[f0,f1])/\f0.type=22/\f1.type=3/\f0.offset=0/\f1.offset=1:=
 ⟨_,_,Tryz.underlying24,rfl,rfl,rfl,rfl⟩
def SR.hv (r:SR):Prop:=r.s.cd.length * 56<=140737488351232/\r.s.cd.length<=r.c/\(r.ad=none->r.c=0)/\ ∀y∈r.s.cd,y.s.size<=140737488351232/\y.st.size<=140737488351232
section
variable {H:Type} {enc:TypeId × Value->H} {W:World} {spare:Nat->Bool} {held:Bool} {fuel:Nat} {v:Value} {x:DataW H × List MemPlace}
theorem q9Z (h:DataW.trod enc Tryz.prog W 0 spare held fuel 86 [v]=some x):
  ∃(ad:Option Addr) (cap:Nat) (l:List Pt),v= .slice ad l.length cap/\l.length<=9223372036854775807/\PtsAt W ad l/\(∀y∈l,y.ok)/\((∀n∈x.1.weights Tryz.prog 86,n<=reachBytes)->l.length * 56<=140737488351232/\l.length<=cap/\(ad=none->cap=0)/\ ∀y∈l,y.s.size<=140737488351232/\y.st.size<=140737488351232):=by
 by_cases hw: ∀n∈x.1.weights Tryz.prog 86,n<=reachBytes
 ·obtain ⟨ad,cap,l,h1,h2,h3,h4,h5,h6,h7⟩:=q9Y h hw
  exact ⟨ad,cap,l,h1,by omega,h4,h5,fun _=>⟨h2,h3,h6,h7⟩⟩
 ·obtain ⟨ad,cap,l,h1,h2,h3,h4⟩:=q6f h
  exact ⟨ad,cap,l,h1,h2,h3,h4,fun h=>absurd h hw⟩
theorem q8J {cs:Array Value}(hsz:cs.size=4)(h:DataW.trod enc Tryz.prog W 0 spare held fuel 88 cs.toList=some x):
  ∃r:SR,cs=#[.string r.s.nm, .int .i64 r.s.hw, .bool r.s.mn, .slice r.ad r.s.cd.length r.c]/\r.s.ok/\PtsAt W r.ad r.s.cd/\((∀m∈x.1.weights Tryz.prog 88,m<=reachBytes)->r.hv):=by
 obtain ⟨f0,f1,f2,f3,hu,t0,t1,t2,t3,o0,o1,o2,o3⟩:=q5O
 obtain ⟨xs,n,_,hxe,_,hxl,hf⟩:=DataW.trod_struct hu h
 obtain ⟨l⟩:=cs
 match xs,hxl,l,hsz with
 |[y0,y1,y2,y3],_,[v0,v1,v2,v3],_=>
  have g0:=hf 0 f0 rfl
  have g1:=hf 1 f1 rfl
  have g2:=hf 2 f2 rfl
  have g3:=hf 3 f3 rfl
  simp[o0,o1,o2,o3,t0,t1,t2,t3,q0J,q0X,q6V,q5y]at g0 g1 g2 g3
  obtain ⟨k0,q0,_,w0⟩:=DataW.trod_string Tryz.underlying9 g0
  obtain ⟨k1,q1,_,w1⟩:=DataW.trod_int Tryz.underlying3 g1
  obtain ⟨k2,q2,_⟩:=DataW.trod_bool Tryz.underlying4 g2
  obtain ⟨ad,cp,cd,rfl,h2,h3,h4,h5⟩:=q9Z g3
  simp only[List.cons.injEq,and_true]at q0 q1 q2
  subst q0 q1 q2
  have u1:=bounds_i64 w1
  unfold maxLen at w0
  refine ⟨⟨⟨k0,k1,k2,cd⟩,ad,cp⟩,rfl,⟨by show k0.size<=_;omega,⟨u1.1,by show k1<=_;omega⟩,h4⟩,h3,fun hw=>h5 (fun m hm=>hw m ?_)⟩
  rw[hxe]
  simp only[DataW.weights,hu]
  exact DataW.weights_mem_each (j:=3) (t:=86) (d:=y3.1) (by simp[t3]) rfl m hm
theorem q7b (h:DataW.trod enc Tryz.prog W 0 spare held fuel 22 [v]=some x):
  ∃(ad:Option Addr) (cap:Nat) (l:List SR),v= .slice ad l.length cap/\l.length<=9223372036854775807/\StsAt W ad l/\(∀r∈l,r.s.ok)/\((∀m∈x.1.weights Tryz.prog 22,m<=reachBytes)->l.length * 56<=140737488351232/\(ad=none->cap=0)/\ ∀r∈l,r.hv):=by
 rcases open_slice Tryz.underlying22 h with ⟨hcs,_⟩|⟨a,len,cap,m,n,D,Pl,hcs,hb,hl,hm,hmm,hxe,hx⟩
 ·simp only[List.cons.injEq,and_true]at hcs
  subst hcs
  exact ⟨none,0,[],rfl,by simp,fun hne=>absurd rfl hne,by simp,fun _=>⟨by simp,fun _=>rfl,by simp⟩⟩
 ·simp only[List.cons.injEq,and_true]at hcs
  subst hcs
  have hlm:len<=m:=by rw[hmm];split <;> omega
  have each: ∀i,i<len-> ∃y:SR,(W.cell? (a.add (i * 4))=some (.string y.s.nm)/\W.cell? (a.add (i * 4+1))=some (.int .i64 y.s.hw)/\W.cell? (a.add (i * 4+2))=some (.bool y.s.mn)/\W.cell? (a.add (i * 4+3))=some (.slice y.ad y.s.cd.length y.c))/\y.s.ok/\PtsAt W y.ad y.s.cd/\((∀m∈(D i).weights Tryz.prog 88,m<=reachBytes)->y.hv):=by
   intro i hi
   obtain ⟨cs',h1,h2⟩:=hx i (by omega)
   rw[q6U]at h1
   obtain ⟨_,hlen,hcell⟩:=World.cells?_some h1
   obtain ⟨y,hy,hok⟩:=q8J (cs:=cs'.toArray) (by simpa using hlen) (by simpa using h2)
   refine ⟨y,?_,hok⟩
   have hy':cs'=[.string y.s.nm, .int .i64 y.s.hw, .bool y.s.mn, .slice y.ad y.s.cd.length y.c]:=by simpa using congrArg Array.toList hy
   subst hy'
   have e0:=hcell 0 (by omega)
   have e1:=hcell 1 (by omega)
   have e2:=hcell 2 (by omega)
   have e3:=hcell 3 (by omega)
   rw[Go.Deep.add_add]at e0 e1 e2 e3
   exact ⟨by simpa using e0,by simpa using e1,by simpa using e2,by simpa using e3⟩
  have hinh:Inhabited SR:=⟨⟨⟨⟨#[]⟩,0,false,[]⟩,none,0⟩⟩
  obtain ⟨q,hq⟩:=choose_lt each
  refine ⟨some a,cap,(List.range len).map q,by simp,by simp;unfold maxLen at hm;omega,fun hne=>?_,fun y hy=>?_,fun hw=>⟨?_,(by intro e;cases e),fun y hy=>?_⟩⟩
  ·have h0:0<len:=by
    rcases Nat.eq_zero_or_pos len with e|e
    ·subst e;simp at hne
    ·exact e
   obtain ⟨b,off,spot⟩:=a
   have hc0:=(hq 0 h0).1.1
   have hspot:spot=none:=by simpa [Addr.add] using World.cell?_spot hc0
   subst hspot
   refine ⟨b,off,rfl,?_,fun i hi=>?_⟩
   ·rcases Nat.lt_or_ge b W.heap.size with hlt|hge
    ·exact hlt
    ·exfalso
     rw[Go.WideShapes.add_plain]at hc0
     simp[World.cell?,Array.getElem?_eq_none hge]at hc0
   ·have hi':i<len:=by simpa using hi
    obtain ⟨⟨c0,c1,c2,c3⟩,_,c4,_⟩:=hq i hi'
    rw[Go.WideShapes.add_plain]at c0 c1 c2 c3
    simp only[List.getElem_map,List.getElem_range]
    exact ⟨c0,by rw[Nat.add_assoc];exact c1,by rw[Nat.add_assoc];exact c2,by rw[Nat.add_assoc];exact c3,c4⟩
  ·obtain ⟨i,hi,rfl⟩:=List.mem_map.1 hy
   exact (hq i (List.mem_range.1 hi)).2.1
  ·have hw0:(len+(m-len)) * 56<=reachBytes:=hw _ (by rw[hxe];simp[DataW.weights,Tryz.underlying22,q6T])
   have hreach:reachBytes=140737488351232:=by decide
   simp only[zI,List.length_range]
   omega
  ·obtain ⟨i,hi,rfl⟩:=List.mem_map.1 hy
   refine (hq i (List.mem_range.1 hi)).2.2.2 (fun m hm=>hw m ?_)
   rw[hxe]
   simp only[DataW.weights,Tryz.underlying22]
   exact List.mem_cons_of_mem _ (zG.2 (Or.inl (q1E (List.mem_map.2 ⟨i,hi,rfl⟩) hm)))
theorem q6e {cs:Array Value}(hsz:cs.size=Tryz.prog.cellsOf 24)(h:DataW.trod enc Tryz.prog W 0 spare held fuel 24 cs.toList=some x):
  ∃(sa:Option Addr) (sc:Nat) (l:List SR) (wi:Int),cs=#[.slice sa l.length sc, .int .i64 wi]/\l.length<=9223372036854775807/\StsAt W sa l/\(∀r∈l,r.s.ok)/\(-9223372036854775808<=wi/\wi<=9223372036854775807)/\((∀m∈x.1.weights Tryz.prog 24,m<=reachBytes)->l.length * 56<=140737488351232/\(sa=none->sc=0)/\ ∀r∈l,r.hv):=by
 obtain ⟨f0,f1,hu,t0,t1,o0,o1⟩:=q2t
 rw[q5c]at hsz
 obtain ⟨xs,n,_,hxe,_,hxl,hf⟩:=DataW.trod_struct hu h
 obtain ⟨l⟩:=cs
 match xs,hxl,l,hsz with
 |[y0,y1],_,[v0,v1],_=>
  have g0:=hf 0 f0 rfl
  have g1:=hf 1 f1 rfl
  simp[o0,o1,t0,t1,q0X,q2W]at g0 g1
  obtain ⟨k1,q1,_,w1⟩:=DataW.trod_int Tryz.underlying3 g1
  obtain ⟨sa,sc,l,rfl,h2,h3,h4,h5⟩:=q7b g0
  simp only[List.cons.injEq,and_true]at q1
  subst q1
  have u1:=bounds_i64 w1
  refine ⟨sa,sc,l,k1,rfl,h2,h3,h4,⟨u1.1,by omega⟩,fun hw=>h5 (fun m hm=>hw m ?_)⟩
  rw[hxe]
  simp only[DataW.weights,hu]
  exact DataW.weights_mem_each (j:=0) (t:=22) (d:=y0.1) (by simp[t0]) rfl m hm
end
end
theorem q6w: ∀(p:List Int) (a:Int), -1<=a->q0H a p=true-> -1<=q1u p\/p=[]
 |[],_,_,_=>Or.inr rfl
 |p::r,a,ha,h=>Or.inl (by
  unfold q0H at h
  split at h
  ·cases h
  rename_i h0
  rcases q6w r p (by omega) h with h1|rfl
  ·cases r with
   |nil=>show-1<=p;omega
   |cons x y=>exact h1
  ·show-1<=p
   omega)
theorem q7Y: ∀(p:List Int) (a:Int), -1<=a->q0H a p=true-> ∀q∈p, -1<=q/\q<=1073741824
 |[],_,_,_=>by simp
 |p::r,a,ha,h=>fun q hq=>by
  unfold q0H at h
  split at h
  ·cases h
  rename_i h0
  rcases zH.1 hq with rfl|hq
  ·omega
  ·exact q7Y r p (by omega) h q hq
theorem q87: ∀(ss:List (List Int)) (left a:Int), -1<=a->q0u left a ss=true-> ∀x∈ss, ∀q∈x, -1<=q/\q<=1073741824
 |[],_,_,_,_=>by simp
 |p::r,left,a,ha,h=>fun x hx q hq=>by
  unfold q0u at h
  split at h
  ·cases h
  rename_i h0
  have hp:q0H a p=true:=by
   cases hb:q0H a p with
   |true=>rfl
   |false=>exact absurd (Or.inr (Or.inr hb)) h0
  rcases zH.1 hx with rfl|hx
  ·exact q7Y _ a ha hp q hq
  ·refine q87 r _ (q1u p) ?_ h x hx q hq
   rcases q6w p a ha hp with h1|rfl
   ·exact h1
   ·exact absurd (Or.inl (by simp)) h0
theorem qdp {k:ByteArray}{ss:List (List Int)}(h3:MtOk k ss)(h4:mayM k ss=true): ∀x∈ss,x.length<=9223372036854775807/\ ∀q∈x, -9223372036854775808<=q/\q<=9223372036854775807:=fun x hx=>⟨h3.2.2 x hx,fun q hq=>by
 unfold mayM at h4
 rw[Bool.and_eq_true]at h4
 have:=q87 ss _ (-1) (by omega) h4.2 x hx q hq
 omega⟩
theorem q6v (x y:Int): -1<=Lib.compareInt x y/\Lib.compareInt x y<=1:=by
 unfold Lib.compareInt;repeat' split
 all_goals omega
theorem q3w {α:Type}{c:α->α->Int}(hc: ∀x y, -1<=c x y/\c x y<=1): ∀x y, -1<=cL c x y/\cL c x y<=1
 |[],[]=>by simp[cL]
 |[],_::_=>by simp[cL]
 |_::_,[]=>by simp[cL]
 |a::r,b::s=>by
  simp only[cL]
  split
  ·exact q3w hc r s
  ·exact hc a b
theorem qcu {a b:Int}(ha: -1<=a/\a<=1)(hb: -1<=b/\b<=1): -1<=orI a b/\orI a b<=1:=by unfold orI;split <;> omega
theorem qaS (k1:ByteArray)(s1:List (List Int))(k2:ByteArray)(s2:List (List Int)): -1<=cM k1 s1 k2 s2/\cM k1 s1 k2 s2<=1:=
 qcu (q6v _ _) (qcu (q3w (q3w q6v) _ _) (by rw[q0E];exact q3w (fun x y=>q6v _ _) _ _))
theorem qea {l:List SR}{wi:Int}{k:ByteArray}{es:List Ev}(h:fiE ⟨stgs l,wi⟩ k es=0){zs:List Cp}(ht:zs.map (·.T)=fiL ⟨stgs l,wi⟩ k es)(i:Nat)(hi:i<zs.length):riB l wi es (Mt.toZ zs[i].T)=true/\zs[i].T.length=l.length/\MtOk k (Mt.toZ zs[i].T)/\mayM k (Mt.toZ zs[i].T)=true/\(0<i->cM k (Mt.toZ (zs[i-1]'(by omega)).T) k (Mt.toZ zs[i].T)= -1):=by
 have hm: ∀j (hj:j<zs.length),zs[j].T∈fiL ⟨stgs l,wi⟩ k es:=fun j hj=>by rw[<-ht];exact List.mem_map_of_mem (zJ hj)
 obtain ⟨h1,h2⟩:=(q3G h _).1 (hm i hi)
 obtain ⟨_,_,h3,h4⟩:=qcN (hm i hi)
 refine ⟨h1,h2,h3,h4,fun h0=>?_⟩
 have hs:=q9l h
 rw[<-ht]at hs
 have:=List.pairwise_iff_getElem.1 hs (i-1) i (by rw[zI];omega) (by rw[zI];exact hi) (by omega)
 rw[List.getElem_map,List.getElem_map]at this
 have hr:=qaS ByteArray.empty (Mt.toZ (zs[i-1]'(by omega)).T) ByteArray.empty (Mt.toZ zs[i].T)
 rw[q98]
 unfold cT at this
 omega
def fnd (zs:List Cp)(Z:List (List Int))(i:Nat):Bool:=(zs.take i).any fun x=>decide (Mt.toZ x.T=Z)
theorem qb9 {zs:List Cp}{Z:List (List Int)}{i:Nat}(hi:i<zs.length):fnd zs Z (i+1)=(fnd zs Z i||decide (Mt.toZ zs[i].T=Z)):=by
 unfold fnd
 rw[List.take_succ_eq_append_getElem hi,List.any_append]
 simp
theorem qd1 {l:List SR}{wi:Int}{k:ByteArray}{es:List Ev}(h:fiE ⟨stgs l,wi⟩ k es=0){zs:List Cp}(ht:zs.map (·.T)=fiL ⟨stgs l,wi⟩ k es)(Z:List (List Int)):fnd zs Z zs.length=(riB l wi es Z && decide (Z.length=l.length)):=by
 unfold fnd
 rw[List.take_length,Bool.eq_iff_iff,qb2 h,List.any_eq_true, <-ht]
 constructor
 ·rintro ⟨x,hx,h2⟩
  exact ⟨x.T,List.mem_map_of_mem hx,of_decide_eq_true h2⟩
 ·rintro ⟨T,hT,h2⟩
  obtain ⟨x,hx,rfl⟩:=List.mem_map.1 hT
  exact ⟨x,hx,decide_eq_true h2⟩
theorem q79 (sa:Option Addr)(sc:Nat)(l:List SR)(wi:Int)(ea:Option Addr)(ec:Nat)(es:List Ev)(za:Option Addr)(zc:Nat)(Z:List (List Int))(w:World)(hl:l.length<=9223372036854775807)(h:StsAt w sa l)(hok: ∀r∈l,r.s.ok)(hsc:l.length<=sc)(hle:es.length<=9223372036854775807)(hE:EvsAt w ea es)(hoke: ∀y∈es,y.ok)(hca:ea=none->ec=0)(hzl:Z.length<=9223372036854775807)(hz:StagesAt w za Z)(hZ: ∀x∈Z,x.length<=9223372036854775807/\ ∀q∈x, -9223372036854775808<=q/\q<=9223372036854775807)(hT:TbE w):
  Calls Tryz.prog 3 #[.agg #[.slice sa l.length sc, .int .i64 wi], .slice ea es.length ec, .slice za Z.length zc] w fun e w'=>e= .returned (.bool true)/\Kp [] w w':=by
 obtain ⟨W1,hW1⟩: ∃W1,W1=w.alloc (.cells #[.slice sa l.length sc, .int .i64 wi] 24):=⟨_,rfl⟩
 have k1:Kp [] w W1:=by rw[hW1];exact Kp.alloc _ _
 have b1:CBox w.heap.size #[.slice sa l.length sc, .int .i64 wi] 24 W1:=by rw[hW1];exact CBox.new _ _ _
 have WK:=hZq (q8F W1 (hT.kp k1 (by simp)))
 have hfit: ∀r∈l, ∀q∈r.s.cd,q.fit:=fun r hr q hq=>((hok r hr).2.2 q hq).2.2.2.1
 have FD:=hZq (fun (fa:Option Addr) (fc:Nat) (fs:List Ev) (W:World) (hk:Kp [] w W) (hf:EvsAt W fa fs) (hfl:fs.length<=9) (hfs: ∀e∈fs,evSz e)=>q5P sa sc l wi fa fc fs ⟨#[107]⟩ W (h.kp hk) hf (hT.kp hk (by simp)) hok hfit hsc hl (by omega) hfs (by decide))
 have RT:=hZq (fun (fa:Option Addr) (fc:Nat) (fs:List Ev) (ya:Option Addr) (yc:Nat) (Y:List (List Int)) (W:World) (hk:Kp [] w W) (hf:EvsAt W fa fs) (hfl:fs.length<=9) (hfs: ∀e∈fs,evSz e) (hy:StagesAt W ya Y) (hyl:Y.length<=9223372036854775807) (hY: ∀x∈Y,x.length<=9223372036854775807/\ ∀q∈x, -9223372036854775808<=q/\q<=9223372036854775807)=>qa9 sa sc l wi fa fc fs ya yc Y W (h.kp hk) hf (hT.kp hk (by simp)) hok hfit hl hsc (by omega) hfs hy hyl hY)
 have HCP:=hZq (fun W (hk:Kp [] w W) (h9:es.length<=9)=>q6y (hE.kp hk (by simp)) hca (by omega) 25)
 have HSZ:Hid (∀e∈es.map (q1b ⟨#[107]⟩),evSz e):=hZq (fun e he=>by
  rw[List.mem_map]at he
  obtain ⟨y,hy,rfl⟩:=he
  have:=hoke y hy
  exact ⟨by show (⟨#[107]⟩:ByteArray).size<=_;decide,this.2.1,this.2.2.1⟩)
 have HB1:=hZq (And.intro b1 k1)
 have HZA:=hZq (fun W (hk:Kp [] w W)=>q1l hz hk)
 have HZO:Hid (Z.length<=9223372036854775807/\(∀x∈Z,x.length<=9223372036854775807/\ ∀q∈x, -9223372036854775808<=q/\q<=9223372036854775807)):=hZq ⟨hzl,hZ⟩
 clear h hok hE hoke hca hT hfit b1 k1 hsc hz hZ
 obtain ⟨ln,hln⟩: ∃ln,ln=l.length:=⟨_,rfl⟩
 have HLN:=hZq hln
 rw[<-hln]at hW1 HB1 FD RT hl ⊢
 obtain ⟨n,hn⟩: ∃n,n=es.length:=⟨_,rfl⟩
 have HN:=hZq hn
 rw[<-hn]at HCP hle ⊢
 obtain ⟨zn,hzn⟩: ∃zn,zn=Z.length:=⟨_,rfl⟩
 have HZN:=hZq hzn
 rw[<-hzn]at hzl ⊢
 clear hln hn hzn
 go_enter Tryz.func3,Tryz.ntmps3
 go_upto_region 1 with fail
 rw[<-hW1]
 clear hW1
 go_wp2_with fail
 refine (uQ WK).mono ?_
 rintro e w2 ⟨rfl,hk2⟩
 have HK2:=hZq ((uQ HB1).2.trans hk2 (by simp))
 have HB2:=hZq ((uQ HB1).1.kp hk2 (by simp))
 clear WK hk2 HB1
 by_cases h9:9<n
 ·have h9i:(9:Int)<(n:Int):=by omega
  clear FD RT HCP
  go_wp2
  go_ret
  exact ⟨rfl,uQ HK2⟩
 ·have h9i: ¬ (9:Int)<(n:Int):=by omega
  obtain ⟨g,cap,w3,hrun,ho,hk3⟩:=uQ HCP w2 (uQ HK2) (by omega)
  have HRUN:=hZq hrun
  have HS3:Hid (SyE w2 g cap (evJ ⟨#[107]⟩ es 0) w3):=hZq ⟨by rw[q1T, <-uQ HN,qaZ];exact ho,hk3⟩
  clear HCP hrun ho hk3
  go_wp2_with (at_builtin;refine q0g rfl _ _ _ rfl rfl rfl (uQ HRUN) ?_)
  clear HRUN
  go_loopw [30] (fun iv wr=> ∃j:Nat,j<=n/\iv= .int .i64 (j:Int)/\Hid (SyE w2 g cap (evJ ⟨#[107]⟩ es j) wr)) (fun iv _=>n-(intOf iv).toNat)
  case atStart=>exact ⟨0,Nat.zero_le _,rfl,HS3⟩
  case round=>
   obtain ⟨j,hj,rfl,HS⟩:=hrel
   by_cases hlt:j<n
   ·have hli:(j:Int)<(n:Int):=by omega
    have hje:j<es.length:=by rw[<-uQ HN];exact hlt
    have hrow:=(uQ HS).row
    have hgw:w2.heap.size<=g:=(World.ownsRow.lt hrow g rfl).1
    have hjl:j<(evJ ⟨#[107]⟩ es j).length:=by rw[q1T];exact hje
    have hc:=q0t q1i hrow j 0 hjl (by omega)
    rw[Nat.add_zero]at hc
    have hcs:wr.cell? ⟨g,j * 7,none⟩=some (.string ((evJ ⟨#[107]⟩ es j)[j]).k):=hc
    have hfz:wr.frozen? ⟨g,j * 7,none⟩=false:=by
     obtain ⟨_,⟨e,_⟩|⟨g',c',cur,e,_,hb,_⟩⟩:=hrow
     ·cases e
     ·cases e
      exact (show CBox g cur 30 wr from hb).froz _
    have HN1:Hid (SyE w2 g cap (evJ ⟨#[107]⟩ es (j+1)) (wr.setCell ⟨g,j * 7,none⟩ (.string ⟨#[107]⟩))):=hZq ⟨by
     rw[q1T]at hrow ⊢
     exact OwnsX.key hrow rfl hje,(uQ HS).kp.trans (Kp.set _ _ _ _) (fun x hx=>Or.inr (by rw[zD]at hx;omega))⟩
    generalize ((evJ ⟨#[107]⟩ es j)[j]).k=kk at *
    clear hrow hc HS HS3 FD RT HSZ
    go_wp2
    go_roundw
    case rel=>exact ⟨j+1,by omega,by go_num,HN1⟩
    case measure=>simp[intOf];omega
   ·obtain rfl:j=n:=by omega
    have HS4:Hid (SyE w2 g cap (es.map (q1b ⟨#[107]⟩)) wr):=hZq (by have:=uQ HS;rw[uQ HN,qcG]at this;exact this)
    obtain ⟨wq,hwq⟩: ∃wq,wq=wr:=⟨_,rfl⟩
    have hpc:=((uQ HB2).kp (uQ HS4).kp (by simp))
    have p0:=hpc.cell (i:=0) (v:= .slice sa ln sc) rfl
    have p1:=hpc.cell (i:=1) (v:= .int .i64 wi) rfl
    have kwr:=(uQ HK2).trans (uQ HS4).kp (by simp)
    have hlen:(es.map (q1b ⟨#[107]⟩)).length=j:=by rw[zI];exact (uQ HN).symm
    have F1:=hZq (uQ FD (some ⟨g,0,none⟩) cap (es.map (q1b ⟨#[107]⟩)) wr kwr (uQ HS4).at (by rw[hlen];omega) (uQ HSZ))
    rw[hlen]at F1
    have HPB:Hid (∀W,Kp [] wr W->W.cell? ⟨w.heap.size,0,none⟩=some (.slice sa ln sc)/\W.cell? ⟨w.heap.size,1,none⟩=some (.int .i64 wi)):=hZq (fun W hk=>by
     have:=hpc.kp hk (by simp)
     exact ⟨this.cell rfl,this.cell rfl⟩)
    have RT2:=hZq (fun (ya:Option Addr) (yc:Nat) (Y:List (List Int)) (W:World) (hk:Kp [] wr W) (hy:StagesAt W ya Y) (hyl:Y.length<=9223372036854775807) (hY: ∀x∈Y,x.length<=9223372036854775807/\ ∀q∈x, -9223372036854775808<=q/\q<=9223372036854775807)=>uQ RT (some ⟨g,0,none⟩) cap (es.map (q1b ⟨#[107]⟩)) ya yc Y W (kwr.trans hk (by simp)) (((uQ HS4).up hk).at) (by rw[hlen];omega) (uQ HSZ) hy hyl hY)
    rw[hlen]at RT2
    have HKW:=hZq kwr
    obtain ⟨fs,hfs⟩: ∃fs,fs=es.map (q1b ⟨#[107]⟩):=⟨_,rfl⟩
    rw[<-hfs]at F1 RT2 hlen
    have HLE:=hZq (qe9 (p:=⟨stgs l,wi⟩) (k:=⟨#[107]⟩) (es:=fs))
    have HLO:Hid (∀T∈fiL ⟨stgs l,wi⟩ ⟨#[107]⟩ fs,True):=hZq (fun T h=>trivial)
    obtain ⟨E,hEe⟩: ∃E,E=fiE ⟨stgs l,wi⟩ ⟨#[107]⟩ fs:=⟨_,rfl⟩
    rw[<-hEe]at F1
    have HEE:=hZq hEe
    clear HS HS3 HB2 hpc kwr HS4 FD RT HSZ hfs hlen HN hEe HLO hwq wq HK2
    go_wp2_with fail
    refine (uQ F1).mono ?_
    rintro e w5 ⟨v1,zs,rfl,hP1⟩
    obtain ⟨va,vc,rfl,hvg⟩:=q2g hP1.row
    have HVG:=hZq hvg
    have HP1:=hZq hP1
    have HK5:=hZq ((uQ HKW).trans hP1.kp (by simp))
    obtain ⟨zl,hzl1⟩: ∃zl,zl=zs.length:=⟨_,rfl⟩
    have HZL:=hZq hzl1
    rw[<-hzl1]
    clear F1 hvg hP1 hzl1 p0 p1
    by_cases h0:E=0
    ·subst h0
     have hfe:=(uQ HEE).symm
     have HTS:=hZq (uQ HP1).ts
     have HSAY:=hZq (fun i hi=>qea hfe (uQ HTS) i hi)
     have HEND:=hZq (qd1 hfe (uQ HTS) Z)
     have hmk:=(q3r hfe).1
     have RT3:Hid (∀(ya:Option Addr) (yc:Nat) (Y:List (List Int)) (W:World),Kp [] w5 W->StagesAt W ya Y->Y.length<=9223372036854775807->(∀x∈Y,x.length<=9223372036854775807/\ ∀q∈x, -9223372036854775808<=q/\q<=9223372036854775807)->Calls Tryz.prog 6 #[.agg #[.slice sa ln sc, .int .i64 wi], .slice (some ⟨g,0,none⟩) j cap, .slice ya Y.length yc] W fun e w'=>e= .returned (.tuple #[.bool (riB l wi fs Y), .int .i64 0])/\Kp [] W w'):=hZq (fun ya yc Y W hk hy hyl hY=>by
      have:=uQ RT2 ya yc Y W ((uQ HP1).kp.trans hk (by simp)) hy hyl hY
      rw[hmk]at this
      exact this)
     have HMR:Hid (MsR ⟨#[107]⟩ w5 (.slice va zl vc) zs):=hZq (by
      rw[uQ HZL]
      exact ⟨qbT (uQ HP1).row,(uQ HP1).cp⟩)
     have HPC:Hid (∀W,Kp [] w5 W->W.cell? ⟨w.heap.size,0,none⟩=some (.slice sa ln sc)/\W.cell? ⟨w.heap.size,1,none⟩=some (.int .i64 wi)):=hZq (fun W hk=>uQ HPB W ((uQ HP1).kp.trans hk (by simp)))
     have HZB:=hZq (fun W (hk:Kp [] w5 W)=>uQ HZA W ((uQ HK5).trans hk (by simp)))
     have hzb:zl<=4096:=by rw[uQ HZL, <-List.length_map (f:=Cp.T),uQ HTS];exact uQ HLE
     clear RT2 HP1 HPB HZA HLE HEE HTS hmk hfe HKW
     go_wp2_with fail
     go_loopw [11,51] (fun fv iv wr=> ∃i:Nat,i<=zl/\iv= .int .i64 (i:Int)/\fv= .bool (fnd zs Z i)/\Hid (Kp [] w5 wr)) (fun _ iv _=>zl-(intOf iv).toNat)
     case atStart=>exact ⟨0,Nat.zero_le _,rfl,rfl,hZq (Kp.refl _ _)⟩
     case round=>
      obtain ⟨i,hi,rfl,rfl,HKQ⟩:=hrel
      by_cases hlt2:i<zl
      ·have hli:(i:Int)<(zl:Int):=by omega
       have hiz:i<zs.length:=by rw[<-uQ HZL];exact hlt2
       obtain ⟨ag,rfl⟩:=uQ HVG (by rw[<-uQ HZL];omega)
       obtain ⟨s1,s2,s3,s4,s5⟩:=uQ HSAY i hiz
       have hTL:zs[i].T.length=ln:=by rw[s2];exact (uQ HLN).symm
       obtain ⟨c0,c1⟩:=((uQ HMR).up (uQ HKQ)).cell (uQ HZL) i hiz
       unfold Cp.v at c1
       rw[hTL]at c1
       have hZL:(Mt.toZ zs[i].T).length=ln:=by rw[q0C];exact hTL
       have hZin: ∀x∈Mt.toZ zs[i].T,x.length<=9223372036854775807/\ ∀q∈x, -9223372036854775808<=q/\q<=9223372036854775807:=qdp s3 s4
       obtain ⟨W8,hW8⟩: ∃W8,W8=wr.alloc (.cells #[.string ⟨#[107]⟩, .slice (some ⟨zs[i].g,0,none⟩) ln ln] 36):=⟨_,rfl⟩
       have k8:Kp [] w5 W8:=by rw[hW8];exact (uQ HKQ).trans (Kp.alloc _ _) (by simp)
       have b8:CBox wr.heap.size #[.string ⟨#[107]⟩, .slice (some ⟨zs[i].g,0,none⟩) ln ln] 36 W8:=by rw[hW8];exact CBox.new _ _ _
       have XB:Hid (∀W,Kp [] W8 W->(W.cell? ⟨wr.heap.size,0,none⟩=some (.string ⟨#[107]⟩)/\W.cell? ⟨wr.heap.size,1,none⟩=some (.slice (some ⟨zs[i].g,0,none⟩) ln ln))/\W.cell? ⟨w.heap.size,0,none⟩=some (.slice sa ln sc)/\W.cell? ⟨w.heap.size,1,none⟩=some (.int .i64 wi)):=hZq (fun W hk=>by
        have:=b8.kp hk (by simp)
        exact ⟨⟨this.cell rfl,this.cell rfl⟩,uQ HPC W (k8.trans hk (by simp))⟩)
       have RTi:Hid (∀W,Kp [] W8 W->Calls Tryz.prog 6 #[.agg #[.slice sa ln sc, .int .i64 wi], .slice (some ⟨g,0,none⟩) j cap, .slice (some ⟨zs[i].g,0,none⟩) ln ln] W fun e w'=>e= .returned (.tuple #[.bool true, .int .i64 0])/\Kp [] W w'):=hZq (fun W hk=>by
        have:=uQ RT3 (some ⟨zs[i].g,0,none⟩) ln (Mt.toZ zs[i].T) W (k8.trans hk (by simp)) (((uQ HMR).up (k8.trans hk (by simp))).cp _ (zJ hiz)).stages (by rw[hZL];exact hl) hZin
        rw[hZL,s1]at this
        exact this)
       have CKi:Hid (∀W,Kp [] W8 W->Calls Tryz.prog 7 #[.agg #[.string ⟨#[107]⟩, .slice (some ⟨zs[i].g,0,none⟩) ln ln]] W fun e w'=>e= .returned (.int .i64 0)/\Kp [] W w'):=hZq (fun W hk=>by
        have:=q1v ⟨#[107]⟩ (some ⟨zs[i].g,0,none⟩) ln (Mt.toZ zs[i].T) W s3 (((uQ HMR).up (k8.trans hk (by simp))).cp _ (zJ hiz)).stages
        rw[hZL]at this
        unfold chkM at this
        rw[if_pos s4]at this
        refine this.mono ?_
        rintro e w' ⟨rfl,rfl⟩
        exact ⟨rfl,Kp.alloc _ _⟩)
       have CMi:Hid (∀(h0:0<i) W,Kp [] W8 W->Calls Tryz.prog 8 #[.agg #[.string ⟨#[107]⟩, .slice (some ⟨(zs[i-1]'(by omega)).g,0,none⟩) ln ln], .agg #[.string ⟨#[107]⟩, .slice (some ⟨zs[i].g,0,none⟩) ln ln]] W fun e w'=>e= .returned (.tuple #[.int .i64 (-1), .int .i64 0])/\Kp [] W w'):=hZq (fun h0 W hk=>by
        have hi1:i-1<zs.length:=by omega
        obtain ⟨_,t2,t3,t4,_⟩:=uQ HSAY (i-1) hi1
        have hTL1:(Mt.toZ zs[i-1].T).length=ln:=by rw[q0C,t2];exact (uQ HLN).symm
        have hm:=(uQ HMR).up (k8.trans hk (by simp))
        have:=q6X ⟨#[107]⟩ (some ⟨zs[i-1].g,0,none⟩) ln (Mt.toZ zs[i-1].T) ⟨#[107]⟩ (some ⟨zs[i].g,0,none⟩) ln (Mt.toZ zs[i].T) W t3 s3 (hm.cp _ (zJ hi1)).stages (hm.cp _ (zJ hiz)).stages
        rw[hTL1,hZL]at this
        unfold cmpV cmpE at this
        rw[if_pos ⟨t4,s4⟩,if_pos ⟨t4,s4⟩,s5 h0]at this
        refine this.mono ?_
        rintro e w' ⟨rfl,hb⟩
        exact ⟨rfl,Kp.ofBelow hb⟩)
       have CPi:Hid (∀(h0:0<i) W,Kp [] W8 W->W.cell? ⟨ag,(i-1) * 2,none⟩=some (.string ⟨#[107]⟩)/\W.cell? ⟨ag,(i-1) * 2+1,none⟩=some (.slice (some ⟨(zs[i-1]'(by omega)).g,0,none⟩) ln ln)):=hZq (fun h0 W hk=>by
        have hi1:i-1<zs.length:=by omega
        obtain ⟨_,t2,_⟩:=uQ HSAY (i-1) hi1
        have:=((uQ HMR).up (k8.trans hk (by simp))).cell (uQ HZL) (i-1) hi1
        unfold Cp.v at this
        rw[t2, <-uQ HLN]at this
        exact this)
       obtain ⟨D,hD⟩: ∃D,D=decide (Mt.toZ zs[i].T=Z):=⟨_,rfl⟩
       have SMi:Hid (∀W,Kp [] W8 W->Calls Tryz.prog 9 #[.agg #[.string ⟨#[107]⟩, .slice (some ⟨zs[i].g,0,none⟩) ln ln], .agg #[.string ⟨#[107]⟩, .slice za zn zc]] W fun e w'=>e= .returned (.bool D)/\Kp [] W w'):=hZq (fun W hk=>by
        have:=q30 ⟨#[107]⟩ (some ⟨zs[i].g,0,none⟩) ln (Mt.toZ zs[i].T) ⟨#[107]⟩ za zc Z W s3 ⟨s3.1,(uQ HZO).1,fun p hp=>((uQ HZO).2 p hp).1⟩ (((uQ HMR).up (k8.trans hk (by simp))).cp _ (zJ hiz)).stages (uQ HZB W (k8.trans hk (by simp)))
        rw[hZL, <-uQ HZN]at this
        refine this.mono ?_
        rintro e w' ⟨rfl,hb⟩
        refine ⟨?_,Kp.ofBelow hb⟩
        rw[hD]
        congr 3
        rw[eq_iff_iff]
        exact ⟨fun h=>h.2,fun h=>⟨rfl,h⟩⟩)
       have HNX:=hZq (qb9 (Z:=Z) hiz)
       rw[<-hD]at HNX
       obtain ⟨pg,hpg⟩: ∃pg, ∀h0:0<i,pg=(zs[i-1]'(by omega)).g:=⟨if h0:0<i then (zs[i-1]'(by omega)).g else 0,fun h0=>by rw[dif_pos h0]⟩
       have CM2:Hid (0<i-> ∀W,Kp [] W8 W->Calls Tryz.prog 8 #[.agg #[.string ⟨#[107]⟩, .slice (some ⟨pg,0,none⟩) ln ln], .agg #[.string ⟨#[107]⟩, .slice (some ⟨zs[i].g,0,none⟩) ln ln]] W fun e w'=>e= .returned (.tuple #[.int .i64 (-1), .int .i64 0])/\Kp [] W w'):=hZq (fun h0 W hk=>by rw[hpg h0];exact uQ CMi h0 W hk)
       have CP2:Hid (0<i-> ∀W,Kp [] W8 W->W.cell? ⟨ag,(i-1) * 2,none⟩=some (.string ⟨#[107]⟩)/\W.cell? ⟨ag,(i-1) * 2+1,none⟩=some (.slice (some ⟨pg,0,none⟩) ln ln)):=hZq (fun h0 W hk=>by rw[hpg h0];exact uQ CPi h0 W hk)
       have HK8:=hZq k8
       clear CMi CPi hpg hD hZL hZin hTL s1 s2 s3 s4 s5 HSAY HMR RT3 HZB HEND HZO b8 k8 HPC
       generalize zs[i].g=xg at *
       go_upto_region 18 with fail
       rw[<-hW8]
       clear hW8 c0 c1
       generalize wr.heap.size=mg at *
       obtain ⟨⟨x0,x1⟩,p0,p1⟩:=uQ XB W8 (Kp.refl _ _)
       go_wp2_with fail
       refine (uQ RTi W8 (Kp.refl _ _)).mono ?_
       rintro e w9 ⟨rfl,hk9⟩
       have HK9:=hZq hk9
       clear x0 x1 p0 p1 RTi hk9
       obtain ⟨⟨x0,x1⟩,p0,p1⟩:=uQ XB w9 (uQ HK9)
       go_wp2_with fail
       refine (uQ CKi w9 (uQ HK9)).mono ?_
       rintro e w10 ⟨rfl,hk10⟩
       have HK10:=hZq ((uQ HK9).trans hk10 (by simp))
       clear x0 x1 p0 p1 CKi hk10 HK9
       obtain ⟨⟨x0,x1⟩,p0,p1⟩:=uQ XB w10 (uQ HK10)
       go_upto_if 90 with fail
       go_cut [] (fun wc=>Hid (Kp [] W8 wc))
       case first=>
        by_cases hi0:0<i
        ·have hi0i:(0:Int)<(i:Int):=by omega
         obtain ⟨i2,rfl⟩: ∃i2,i=i2+1:=⟨i-1,by omega⟩
         have em:(((i2+1:Nat)):Int)-1=(i2:Int):=by omega
         have hi2:(i2:Int)<(zl:Int):=by omega
         have hwq:IntKind.i64.wrap (i2:Int)=(i2:Int):=by rw[IntKind.wrap_i64];omega
         have CM3:=hZq (uQ CM2 hi0)
         have YK:Hid (∀W,Kp [] W8 W->W.cell? ⟨ag,i2 * 2,none⟩=some (.string ⟨#[107]⟩)/\W.cell? ⟨ag,i2 * 2+1,none⟩=some (.slice (some ⟨pg,0,none⟩) ln ln)/\W.cell? ⟨mg,0,none⟩=some (.string ⟨#[107]⟩)/\W.cell? ⟨mg,1,none⟩=some (.slice (some ⟨xg,0,none⟩) ln ln)):=hZq (fun W hk=>by
          have a1:=uQ CP2 hi0 W hk
          have a2:=(uQ XB W hk).1
          exact ⟨a1.1,a1.2,a2.1,a2.2⟩)
         have y0:=uQ YK w10.drew ((uQ HK10).trans (Kp.drew _) (by simp))
         clear CM2 CP2 SMi HNX XB x0 x1 p0 p1
         go_upto_region 22 with fail
         go_region_held3 (fun W=>W.cell? ⟨ag,i2 * 2,none⟩=some (.string ⟨#[107]⟩)/\W.cell? ⟨ag,i2 * 2+1,none⟩=some (.slice (some ⟨pg,0,none⟩) ln ln)/\W.cell? ⟨mg,0,none⟩=some (.string ⟨#[107]⟩)/\W.cell? ⟨mg,1,none⟩=some (.slice (some ⟨xg,0,none⟩) ln ln)) (first|with_reducible exact y0|with_reducible exact y1|exact y0)
          (first
           |(go_at_call 8;refine (uQ CM3 _ ((uQ HK10).trans (Kp.drew _) (by simp))).mono ?_;rintro _ w11 ⟨rfl,k11⟩;have K11:=hZq (((uQ HK10).trans (Kp.drew w10) (by simp)).trans k11 (by simp));have y1:=uQ YK _ (uQ K11);clear k11))
         go_wp2
         go_meet
         exact K11
        ·have hi0i: ¬ (0:Int)<(i:Int):=by omega
         clear CM2 CP2 SMi HNX XB x0 x1 p0 p1
         go_wp2
         go_meet
         exact HK10
       case rest=>
       clear x0 x1 p0 p1 CM2 CP2 HK10
       obtain ⟨⟨x0,x1⟩,p0,p1⟩:=uQ XB wc (uQ hcut)
       have HKC:=hZq ((uQ HK8).trans (uQ hcut) (by simp))
       have SMc:=hZq (uQ SMi wc (uQ hcut))
       obtain ⟨F,hF⟩: ∃F,F=fnd zs Z i:=⟨_,rfl⟩
       rw[<-hF]at HNX ⊢
       clear SMi XB hF
       cases F with
       |true=>
        have hnx:=uQ HNX
        rw[Bool.true_or]at hnx
        have HNY:=hZq hnx
        clear HNX hnx SMc
        go_wp2
        go_roundw
        case rel=>exact ⟨i+1,by omega,by go_num,by rw[uQ HNY],HKC⟩
        case measure=>simp[intOf];omega
       |false=>
        have hnx:=uQ HNX
        rw[Bool.false_or]at hnx
        have HNY:=hZq hnx
        clear HNX hnx
        go_wp2_with fail
        refine (uQ SMc).mono ?_
        rintro e w12 ⟨rfl,hk12⟩
        have HKD:=hZq ((uQ HKC).trans hk12 (by simp))
        clear SMc hk12 HKC x0 x1 p0 p1
        go_wp2
        go_roundw
        case rel=>exact ⟨i+1,by omega,by go_num,by rw[uQ HNY],HKD⟩
        case measure=>simp[intOf];omega
      ·obtain rfl:i=zl:=by omega
       have hli: ¬ (i:Int)<(i:Int):=by omega
       obtain ⟨p0,p1⟩:=uQ HPC wr (uQ HKQ)
       have RTz:=hZq (uQ RT3 za zc Z wr (uQ HKQ) (uQ HZB wr (uQ HKQ)) (uQ HZO).1 (uQ HZO).2)
       rw[<-uQ HZN]at RTz
       have hend:=uQ HEND
       rw[<-uQ HZL, <-uQ HZN, <-uQ HLN]at hend
       have HE2:=hZq hend
       obtain ⟨F,hF⟩: ∃F,F=fnd zs Z i:=⟨_,rfl⟩
       rw[<-hF]at HE2 ⊢
       obtain ⟨B,hB⟩: ∃B,B=riB l wi fs Z:=⟨_,rfl⟩
       rw[<-hB]at HE2 RTz
       have HPD:=hZq (fun W (hk:Kp [] wr W)=>uQ HPC W ((uQ HKQ).trans hk (by simp)))
       have HKE:=hZq ((uQ HK5).trans (uQ HKQ) (by simp))
       clear hend hF hB HEND RT3 HZB HZO HPC HSAY HMR HKQ
       go_wp2_with fail
       refine (uQ RTz).mono ?_
       rintro e w9 ⟨rfl,hk9⟩
       have HKF:=hZq ((uQ HKE).trans hk9 (by simp))
       clear p0 p1
       obtain ⟨p0,p1⟩:=uQ HPD w9 hk9
       have hfb:=uQ HE2
       clear HE2 RTz HPD hk9
       by_cases hzz:zn=ln
       ·have hzi:(zn:Int)=(ln:Int):=by omega
        have hzd:decide (zn=ln)=true:=decide_eq_true hzz
        rw[hzd,Bool.and_true]at hfb
        subst hfb
        clear hzd
        cases F with
        |true=>
         go_wp2
         go_ret
         exact ⟨by simp,uQ HKF⟩
        |false=>
         go_wp2
         go_ret
         exact ⟨by simp,uQ HKF⟩
       ·have hzi: ¬ (zn:Int)=(ln:Int):=by omega
        have hzd:decide (zn=ln)=false:=zK hzz
        rw[hzd,Bool.and_false]at hfb
        subst hfb
        clear hzd
        cases B with
        |true=>
         go_wp2
         go_ret
         exact ⟨by simp[hzi],uQ HKF⟩
        |false=>
         go_wp2
         go_ret
         exact ⟨by simp,uQ HKF⟩
    ·have hn0:zl=0:=by
      have:=(uQ HP1).ts
      rw[qcO (by rw[<-uQ HEE];exact h0)]at this
      rw[uQ HZL, <-List.length_map (f:=Cp.T),this]
      rfl
     subst hn0
     have h0b:(E==0)=false:=by simpa using h0
     clear RT2 HP1 HVG HZL HPB HLE
     go_wp2
     go_ret
     exact ⟨rfl,uQ HK5⟩
section
open Go.RowKit Go.Deep
theorem q2l:Tryz.prog.cellsOf 30=7:=by kernel_rfl
theorem q9a:Tryz.prog.cellsOf 2=1:=by kernel_rfl
theorem q5x:Tryz.prog.cellsOf 28=4:=by kernel_rfl
theorem q8i:Tryz.prog.cellsOf 9=1:=by kernel_rfl
theorem q5N: ∃f0 f1 f2 f3:Field,Tryz.prog.underlying 30=some (.struct #[f0,f1,f2,f3])/\f0.type=9/\f1.type=9/\f2.type=28/\f3.type=9/\f0.offset=0/\f1.offset=1/\f2.offset=2/\f3.offset=6:=
 ⟨_,_,_,_,Tryz.underlying30,rfl,rfl,rfl,rfl,rfl,rfl,rfl,rfl⟩
theorem qfb {α:Type}: ∀(l:List α),l.length=7-> ∃a b c d e f g,l=[a,b,c,d,e,f,g]
 |[a,b,c,d,e,f,g],_=>⟨a,b,c,d,e,f,g,rfl⟩
theorem qcs {α:Type}: ∀(l:List α),l.length=4-> ∃a b c d,l=[a,b,c,d]
 |[a,b,c,d],_=>⟨a,b,c,d,rfl⟩
section
variable {H:Type} {enc:TypeId × Value->H} {W:World} {spare:Nat->Bool} {held:Bool} {fuel:Nat} {x:DataW H × List MemPlace}
theorem q8I {cs:Array Value}(hsz:cs.size=Tryz.prog.cellsOf 30)(h:DataW.trod enc Tryz.prog W 0 spare held fuel 30 cs.toList=some x):
  ∃e:Ev,cs=e.c/\e.ok:=by
 obtain ⟨f0,f1,f2,f3,hu,t0,t1,t2,t3,o0,o1,o2,o3⟩:=q5N
 rw[q2l]at hsz
 obtain ⟨xs,n,_,_,_,hxl,hf⟩:=DataW.trod_struct hu h
 obtain ⟨l⟩:=cs
 obtain ⟨v0,v1,v2,v3,v4,v5,v6,rfl⟩:=qfb l hsz
 obtain ⟨y0,y1,y2,y3,rfl⟩:=qcs xs hxl
 have g0:=hf 0 f0 rfl
 have g1:=hf 1 f1 rfl
 have g2:=hf 2 f2 rfl
 have g3:=hf 3 f3 rfl
 simp[o0,o1,o2,o3,t0,t1,t2,t3,q8i,q5x]at g0 g1 g2 g3
 obtain ⟨k,q0,_,hk⟩:=DataW.trod_string Tryz.underlying9 g0
 obtain ⟨t,q1,_,ht⟩:=DataW.trod_string Tryz.underlying9 g1
 obtain ⟨s,q3,_,hs⟩:=DataW.trod_string Tryz.underlying9 g3
 simp only[List.cons.injEq,and_true]at q0 q1 q3
 subst q0 q1 q3
 obtain ⟨zs,m,_,_,_,hzl,hz⟩:=DataW.trod_array Tryz.underlying28 g2
 obtain ⟨z0,z1,z2,z3,rfl⟩:=qcs zs hzl
 have a0:=hz 0 (by omega)
 have a1:=hz 1 (by omega)
 have a2:=hz 2 (by omega)
 have a3:=hz 3 (by omega)
 simp[q9a]at a0 a1 a2 a3
 obtain ⟨n0,p0,_,w0⟩:=DataW.trod_int Tryz.underlying2 a0
 obtain ⟨n1,p1,_,w1⟩:=DataW.trod_int Tryz.underlying2 a1
 obtain ⟨n2,p2,_,w2⟩:=DataW.trod_int Tryz.underlying2 a2
 obtain ⟨n3,p3,_,w3⟩:=DataW.trod_int Tryz.underlying2 a3
 simp only[List.cons.injEq,and_true]at p0 p1 p2 p3
 subst p0 p1 p2 p3
 have u0:=bounds_i64 w0
 have u1:=bounds_i64 w1
 have u2:=bounds_i64 w2
 have u3:=bounds_i64 w3
 unfold maxLen at hk ht hs
 exact ⟨⟨k,t,n0,n1,n2,n3,s⟩,rfl,by show k.size<=_;omega,by show t.size<=_;omega,by show s.size<=_;omega,⟨u0.1,by show n0<_;omega⟩,⟨u1.1,by show n1<_;omega⟩,⟨u2.1,by show n2<_;omega⟩,⟨u3.1,by show n3<_;omega⟩⟩
end
end
section
open Go.RowKit Go.Deep
theorem q7a {H:Type}{enc:TypeId × Value->H}{W:World}{spare:Nat->Bool}{held:Bool}{fuel:Nat}{v:Value}{x:DataW H × List MemPlace}
  (h:DataW.trod enc Tryz.prog W 0 spare held fuel 25 [v]=some x):
  ∃(ad:Option Addr) (cap:Nat) (l:List Ev),v= .slice ad l.length cap/\l.length<=9223372036854775807/\EvsAt W ad l/\ ∀y∈l,y.ok:=by
 rcases open_slice Tryz.underlying25 h with ⟨hcs,_⟩|⟨a,len,cap,m,n,D,Pl,hcs,hb,hl,hm,hmm,_,hx⟩
 ·simp only[List.cons.injEq,and_true]at hcs
  subst hcs
  exact ⟨none,0,[],rfl,by simp,fun hne=>absurd rfl hne,by simp⟩
 ·simp only[List.cons.injEq,and_true]at hcs
  subst hcs
  have hlm:len<=m:=by rw[hmm];split <;> omega
  have each: ∀i,i<len-> ∃y:Ev,(∀(j:Nat) (u:Value),y.c[j]?=some u->W.cell? (a.add (i * 7+j))=some u)/\y.ok:=by
   intro i hi
   obtain ⟨cs',h1,h2⟩:=hx i (by omega)
   rw[q2l]at h1
   obtain ⟨_,hlen,hcell⟩:=World.cells?_some h1
   obtain ⟨y,hy,hok⟩:=q8I (cs:=cs'.toArray) (by rw[q2l];simpa using hlen) (by simpa using h2)
   refine ⟨y,fun j u hu=>?_,hok⟩
   rw[<-hy]at hu
   have hj:j<cs'.length:=by
    have:=(zB.1 hu).1
    simpa using this
   have e0:=hcell j (by omega)
   rw[Go.Deep.add_add]at e0
   rw[e0]
   simpa using hu
  have hinh:Inhabited Ev:=⟨⟨⟨#[]⟩,⟨#[]⟩,0,0,0,0,⟨#[]⟩⟩⟩
  obtain ⟨q,hq⟩:=choose_lt each
  refine ⟨some a,cap,(List.range len).map q,by simp,by simp;unfold maxLen at hm;omega,fun hne=>?_,fun y hy=>?_⟩
  ·have h0:0<len:=by
    rcases Nat.eq_zero_or_pos len with e|e
    ·subst e;simp at hne
    ·exact e
   obtain ⟨b,off,spot⟩:=a
   have hc0:=(hq 0 h0).1 0 _ rfl
   have hspot:spot=none:=by simpa [Addr.add] using World.cell?_spot hc0
   subst hspot
   refine ⟨b,off,rfl,?_,fun i e hi j u hu=>?_⟩
   ·rcases Nat.lt_or_ge b W.heap.size with hlt|hge
    ·exact hlt
    ·exfalso
     rw[Go.WideShapes.add_plain]at hc0
     simp[World.cell?,Array.getElem?_eq_none hge]at hc0
   ·have hi':i<len:=by
     have:=(zC.1 hi).1
     simpa using this
    have he:e=q i:=by
     rw[List.getElem?_map,List.getElem?_range hi']at hi
     simpa using hi.symm
    subst he
    have:=(hq i hi').1 j u hu
    rw[Go.WideShapes.add_plain]at this
    rw[Nat.add_assoc]
    exact this
  ·obtain ⟨i,hi,rfl⟩:=List.mem_map.1 hy
   exact (hq i (List.mem_range.1 hi)).2
end
section
open Go.RowKit Go.Deep
section
variable {H:Type} {enc:TypeId × Value->H} {W:World} {spare:Nat->Bool} {held:Bool} {fuel:Nat} {x:DataW H × List MemPlace}
theorem q6d {ad:Option Addr}{n cap:Nat}(h:DataW.trod enc Tryz.prog W 0 spare held fuel 25 [.slice ad n cap]=some x):n<=cap/\(ad=none->cap=0):=by
 rcases open_slice Tryz.underlying25 h with ⟨hcs,_⟩|⟨a,len,cap,m,k,D,Pl,hcs,hb,hl,hm,hmm,_,hx⟩
 ·simp only[List.cons.injEq,and_true]at hcs
  cases hcs
  exact ⟨zM _,fun _=>rfl⟩
 ·simp only[List.cons.injEq,and_true]at hcs
  cases hcs
  exact ⟨hl,fun e=>by cases e⟩
theorem q6g {ad:Option Addr}{n cap:Nat}(h:DataW.trod enc Tryz.prog W 0 spare held fuel 22 [.slice ad n cap]=some x):n<=cap:=by
 rcases open_slice Tryz.underlying22 h with ⟨hcs,_⟩|⟨a,len,cap,m,k,D,Pl,hcs,hb,hl,hm,hmm,_,hx⟩
 ·simp only[List.cons.injEq,and_true]at hcs
  cases hcs
  exact zM _
 ·simp only[List.cons.injEq,and_true]at hcs
  cases hcs
  exact hl
theorem q3M {sa:Option Addr}{n sc:Nat}{wi:Int}(h:DataW.trod enc Tryz.prog W 0 spare held fuel 24 [.slice sa n sc, .int .i64 wi]=some x):n<=sc:=by
 obtain ⟨f0,f1,hu,t0,t1,o0,o1⟩:=q2t
 obtain ⟨xs,k,_,hxe,_,hxl,hf⟩:=DataW.trod_struct hu h
 match xs,hxl with
 |[y0,y1],_=>
  have g0:=hf 0 f0 rfl
  simp[o0,t0,q2W]at g0
  exact q6g g0
end
end
section
open Go.RowKit Go.Deep
theorem q9b:Tryz.prog.cellsOf 3=1:=by kernel_rfl
section
variable {H:Type} {enc:TypeId × Value->H} {W:World} {spare:Nat->Bool} {held:Bool} {fuel:Nat} {v:Value} {x:DataW H × List MemPlace}
theorem q9X (h:DataW.trod enc Tryz.prog W 0 spare held fuel 51 [v]=some x):
  ∃(ad:Option Addr) (cap:Nat) (l:List Int),v= .slice ad l.length cap/\l.length<=9223372036854775807/\IntsAt W ad l/\(∀y∈l, -9223372036854775808<=y/\y<=9223372036854775807)/\(ad=none->cap=0):=by
 rcases open_slice1 Tryz.underlying51 q9b h with ⟨hcs,_⟩|⟨a,len,cap,m,n,V,D,Pl,hcs,hb,hl,hm,hmm,_,hx⟩
 ·simp only[List.cons.injEq,and_true]at hcs
  subst hcs
  exact ⟨none,0,[],rfl,by simp,fun hne=>absurd rfl hne,by simp,fun _=>rfl⟩
 ·simp only[List.cons.injEq,and_true]at hcs
  subst hcs
  have hlm:len<=m:=by rw[hmm];split <;> omega
  have each: ∀i,i<len-> ∃y:Int,W.cell? (a.add i)=some (.int .i64 y)/\ -9223372036854775808<=y/\y<=9223372036854775807:=by
   intro i hi
   obtain ⟨h1,h2⟩:=hx i (by omega)
   obtain ⟨k1,q1,_,wf⟩:=DataW.trod_int Tryz.underlying3 h2
   simp only[List.cons.injEq,and_true]at q1
   rw[q1]at h1
   have:=bounds_i64 wf
   exact ⟨k1,h1,this.1,by omega⟩
  have hinh:Inhabited Int:=⟨0⟩
  obtain ⟨q,hq⟩:=choose_lt each
  refine ⟨some a,cap,(List.range len).map q,by simp,by simp;unfold maxLen at hm;omega,fun hne=>?_,fun y hy=>?_,fun e=>by cases e⟩
  ·have h0:0<len:=by
    rcases Nat.eq_zero_or_pos len with e|e
    ·subst e;simp at hne
    ·exact e
   obtain ⟨b,off,spot⟩:=a
   have hc0:=(hq 0 h0).1
   have hspot:spot=none:=by simpa [Addr.add] using World.cell?_spot hc0
   subst hspot
   refine ⟨b,off,rfl,?_,fun i hi=>?_⟩
   ·rcases Nat.lt_or_ge b W.heap.size with hlt|hge
    ·exact hlt
    ·exfalso
     rw[Go.WideShapes.add_plain]at hc0
     simp[World.cell?,Array.getElem?_eq_none hge]at hc0
   ·have hi':i<len:=by simpa using hi
    obtain ⟨c0,_⟩:=hq i hi'
    rw[Go.WideShapes.add_plain]at c0
    simp only[List.getElem_map,List.getElem_range]
    exact c0
  ·obtain ⟨i,hi,rfl⟩:=List.mem_map.1 hy
   exact (hq i (List.mem_range.1 hi)).2
end
end
section
open Go.RowKit Go.Deep
theorem q6W:Tryz.prog.cellsOf 51=1:=by kernel_rfl
section
variable {H:Type} {enc:TypeId × Value->H} {W:World} {spare:Nat->Bool} {held:Bool} {fuel:Nat} {v:Value} {x:DataW H × List MemPlace}
theorem qdy (h:DataW.trod enc Tryz.prog W 0 spare held fuel 26 [v]=some x):
  ∃(ad:Option Addr) (cap:Nat) (ss:List (List Int)),v= .slice ad ss.length cap/\ss.length<=9223372036854775807/\StagesAt W ad ss/\(∀p∈ss,p.length<=9223372036854775807/\ ∀q∈p, -9223372036854775808<=q/\q<=9223372036854775807):=by
 rcases open_slice1 Tryz.underlying26 q6W h with ⟨hcs,_⟩|⟨a,len,cap,m,n,V,D,Pl,hcs,hb,hl,hm,hmm,_,hx⟩
 ·simp only[List.cons.injEq,and_true]at hcs
  subst hcs
  exact ⟨none,0,[],rfl,by simp,fun hne=>absurd rfl hne,by simp⟩
 ·simp only[List.cons.injEq,and_true]at hcs
  subst hcs
  have hlm:len<=m:=by rw[hmm];split <;> omega
  have each: ∀i,i<len-> ∃p:List Int,(∃a' c,W.cell? (a.add i)=some (.slice a' p.length c)/\IntsAt W a' p)/\p.length<=9223372036854775807/\ ∀q∈p, -9223372036854775808<=q/\q<=9223372036854775807:=by
   intro i hi
   obtain ⟨h1,h2⟩:=hx i (by omega)
   obtain ⟨ad,cp,l,e,hl',hI,hb',_⟩:=q9X h2
   rw[e]at h1
   exact ⟨l,⟨ad,cp,h1,hI⟩,hl',hb'⟩
  have hinh:Inhabited (List Int):=⟨[]⟩
  obtain ⟨q,hq⟩:=choose_lt each
  refine ⟨some a,cap,(List.range len).map q,by simp,by simp;unfold maxLen at hm;omega,fun hne=>?_,fun y hy=>?_⟩
  ·have h0:0<len:=by
    rcases Nat.eq_zero_or_pos len with e|e
    ·subst e;simp at hne
    ·exact e
   obtain ⟨b,off,spot⟩:=a
   obtain ⟨_,_,hc0,_⟩:=(hq 0 h0).1
   have hspot:spot=none:=by simpa [Addr.add] using World.cell?_spot hc0
   subst hspot
   refine ⟨b,off,rfl,?_,fun i hi=>?_⟩
   ·rcases Nat.lt_or_ge b W.heap.size with hlt|hge
    ·exact hlt
    ·exfalso
     rw[Go.WideShapes.add_plain]at hc0
     simp[World.cell?,Array.getElem?_eq_none hge]at hc0
   ·have hi':i<len:=by simpa using hi
    obtain ⟨⟨a',c,c0,hI⟩,_⟩:=hq i hi'
    rw[Go.WideShapes.add_plain]at c0
    simp only[List.getElem_map,List.getElem_range]
    exact ⟨a',c,c0,hI⟩
  ·obtain ⟨i,hi,rfl⟩:=List.mem_map.1 hy
   exact (hq i (List.mem_range.1 hi)).2
end
end
end Go.Proofs.YtfgkikeeadlcfaaGreatDoor
