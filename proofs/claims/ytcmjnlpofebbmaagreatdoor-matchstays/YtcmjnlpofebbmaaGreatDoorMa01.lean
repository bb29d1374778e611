/-
  Walks and plain facts, made small.
-/
import Derived.WalkKit
import Derived.WalkSpells
import Derived.Lib.AppendStr
import Derived.Lib.ItoaNum
import Derived.Lib.ItoaLen
import Derived.Lib.ParseIntBCases
set_option maxRecDepth 100000
set_option maxHeartbeats 8000000
set_option linter.unusedSimpArgs false
namespace Go.Proofs.YtcmjnlpofebbmaaGreatDoor
open Go.RowKit
theorem hZq {p:Prop}(h:p):Hid p:=h
theorem zz1 {α:Type} (l:List α) (i:Nat) (a:α):l.toArray.setIfInBounds i a=(l.set i a).toArray:=by simp
theorem zz2 {α:Type} (x:α) (l:List α) (a:α):(x::l).set 0 a=a::l:=rfl
theorem zz3 {α:Type} (x:α) (l:List α) (n:Nat) (a:α):(x::l).set (n+1) a=x::l.set n a:=rfl
theorem uQ {p:Prop}(h:Hid p):p:=h
theorem q0H {k:IntKind}{a b:Int}(h:a=b):Ending.returned (.int k a)= .returned (.int k b):=by rw[h]
theorem q0Y {a b:Bool}(h:a=b):Ending.returned (.bool a)= .returned (.bool b):=by rw[h]
structure Fr (B e:Nat)(w w':World):Prop where
 below:Below B w w'
 other: ∀k,k<w.heap.size->(∀cur f,w.heap[k]?≠some (.cells cur e f))->w'.heap[k]?=w.heap[k]?
theorem Fr.refl (B e:Nat)(w:World):Fr B e w w:=⟨Below.refl _ _,fun _ _ _=>rfl⟩
theorem Fr.alloc {B e:Nat}{a w:World}(h:Fr B e a w)(hB:B<=w.heap.size)(o:Obj):Fr B e a (w.alloc o):=
 ⟨h.below.alloc hB o,fun k hk hn=>by rw[Below.heap_alloc _ _ _ (by have:=h.below.size;omega)];exact h.other k hk hn⟩
theorem Fr.grown {B e size n:Nat}{a w w':World}{v:Value}{xs:List Value}(h:Fr B e a w)(ho:w.ownsRow B e size v n xs)(hg:w.grownBy w' v.ownBlock)(hB:B<=w.heap.size):Fr B e a w':=
 ⟨h.below.grown hg hB (fun k hk=>(ho.lt k hk).1),fun k hk hn=>by
  have e1:=h.other k hk hn
  rw[<-e1]
  refine hg.block k (by have:=h.below.size;omega) fun hv=>?_
  obtain ⟨_,⟨rfl,_⟩|⟨g,cap,cur,rfl,_,hh,_⟩⟩:=ho
  ·simp[Value.ownBlock]at hv
  ·simp[Value.ownBlock]at hv
   subst hv
   exact hn cur (0,0) (by rw[<-e1];exact hh)⟩
theorem Fr.keep {B e k:Nat}{a w:World}(h:Fr B e a w){cur:Array Value}{t:TypeId}{f:Nat × Nat}(hb:a.heap[k]?=some (.cells cur t f))(ht:t≠e):w.heap[k]?=some (.cells cur t f):=by
 have hk:k<a.heap.size:=by
  rcases Nat.lt_or_ge k a.heap.size with h1|h1
  ·exact h1
  ·rw[Array.getElem?_eq_none h1]at hb;cases hb
 rw[h.other k hk (fun c g hc=>by rw[hb]at hc;simp at hc;exact ht hc.2.1)];exact hb
theorem q4c {P:Program}{ops:Array Oper}{o:Oper}{a:Act}{w:World}{K:Act->World->Prop}{Q:Exit->Act->World->Prop}{E:Prop}
  (hg:o.guard=none) (s x:Operand) (t:TypeId) (hop:o.op=Op.call { callee:=Callee.builtin Builtin.append,args:=#[s,x],argTypes:=#[t,t] })
  (base:Nat) (e:TypeId) (i:TypeInfo) (z:Value) (size bytes:Nat) (h1:P.underlying t=some (.slice e)) (h2:P.info? e=some i) (h3:i.zero=some z) (h4:i.size=size) (h5:i.bytes=bytes) (h6:z.cells.size=size) (h7:0<size)
  (v:Value) (n:Nat) (xs:List Value) (hs:a.eval s=v) (hown:w.ownsRow base e size v n xs)
  (ad:Addr) (m c:Nat) (news:List Value) (hx:a.eval x= .slice (some ad) m c) (hn:news.length=m * size) (hc: ∀j u,news[j]?=some u->w.cell? (ad.add j)=some u) (h1c: ∀u∈news,u.oneCell'=true)
  (b1:n+m<=maxLen) (b2:(n+m) * bytes<=140737488355328) (hb:base<=w.heap.size)
  (hK: ∀v' w',w'.ownsRow base e size v' (n+m) (xs++news)->w.grownBy w' v.ownBlock->K (a.put o.dst v') w'):
  if Region.wanted o (yielded ops a.tmps)=true then Oper.wp P o a w K Q else E:=by
 have hw:Region.wanted o (yielded ops a.tmps)=true:=by simp[Region.wanted,hg]
 rw[if_pos hw]
 obtain ⟨v',w',hrun,r1,r2,_⟩:=run_append_own (P:=P) w base t o.type e i z size bytes h1 h2 h3 h4 h5 h6 h7 v n xs hown ad m c news hn hc h1c b1 b2 hb
 unfold Oper.wp
 simp[execOp,hop,resolve,invoke,builtin,hs,hx,hrun,Result.andThen]
 exact hK v' w' r1 r2
def q0C (l:List UInt8):List Value:=l.map fun b=> .int .u8 (b.toNat:Int)
theorem q31 (a b:List UInt8):q0C (a++b)=q0C a++q0C b:=by unfold q0C;exact List.map_append
theorem q0V (a:List UInt8):(q0C a).length=a.length:=by unfold q0C;exact List.length_map ..
theorem q8Q (s:ByteArray):Lib.strCells s=q0C s.data.toList:=by
 unfold Lib.strCells q0C;rfl
theorem q8P (n:Nat)(h:n<256):[Value.int .u8 (n:Int)]=q0C [UInt8.ofNat n]:=by
 unfold q0C;simp[Nat.mod_eq_of_lt h]
def q0A (b:UInt8):Bool:=decide (97<=b.toNat) && decide (b.toNat<=122)
def q07 (b:UInt8):Bool:=decide (48<=b.toNat) && decide (b.toNat<=57)
def q09 (b:UInt8):Bool:=decide (b.toNat=32)||decide (b.toNat=10)
def q0h (b:UInt8):Bool:=q0A b||q07 b
def isIn (b:UInt8):Bool:= !(decide (b.toNat=39)||decide (b.toNat=10))
def spn (p:UInt8->Bool):List UInt8->Nat
 |[]=>0
 |b::r=>if p b then spn p r+1 else 0
theorem q19 (p:UInt8->Bool)(l:List UInt8):spn p l<=l.length:=by
 induction l with
 |nil=>exact Nat.le_refl _
 |cons b r ih=>rw[spn];split <;> simp <;> omega
theorem q23 {p:UInt8->Bool}{l:List UInt8}{k:Nat}(h:k<=spn p l)(hk:k<l.length)(hp:p l[k]=true):k+1<=spn p l:=by
 induction l generalizing k with
 |nil=>simp at hk
 |cons b r ih=>
  rw[spn]at h ⊢
  cases k with
  |zero=>simp at hp;rw[if_pos hp];omega
  |succ k=>
   split at h
   ·rename_i hb
    rw[if_pos hb]
    have:=ih (k:=k) (by omega) (by simpa using hk) (by simpa using hp)
    omega
   ·omega
theorem q1z {p:UInt8->Bool}{l:List UInt8}{k:Nat}(h:k<=spn p l)(hp: ∀hk:k<l.length,p l[k]=false):k=spn p l:=by
 induction l generalizing k with
 |nil=>simp[spn]at h ⊢;exact h
 |cons b r ih=>
  rw[spn]at h ⊢
  cases k with
  |zero=>have:=hp (by simp);simp at this;rw[if_neg (by simp[this])]
  |succ k=>
   split at h
   ·rename_i hb
    rw[if_pos hb]
    have:=ih (k:=k) (by omega) (fun hk=>hp (by simpa using hk))
    omega
   ·omega
theorem q2P (p:UInt8->Bool)(l:List UInt8)(k:Nat):spn p (l.take k)=min (spn p l) k:=by
 induction l generalizing k with
 |nil=>simp[spn]
 |cons b r ih=>
  cases k with
  |zero=>simp[spn]
  |succ k=>
   rw[List.take_succ_cons,spn,spn]
   split
   ·rw[ih];omega
   ·omega
theorem q3N {p:UInt8->Bool}{a b:List UInt8}(h:spn p a=a.length):spn p (a++b)=a.length+spn p b:=by
 induction a with
 |nil=>simp
 |cons c r ih=>
  rw[spn]at h
  split at h
  ·rename_i hc
   rw[List.cons_append,spn,if_pos hc,ih (by simpa using h)]
   simp;omega
  ·simp at h
theorem qeh {p:UInt8->Bool}{a b:List UInt8}(h:spn p a<a.length):spn p (a++b)=spn p a:=by
 induction a with
 |nil=>simp at h
 |cons c r ih=>
  rw[spn]at h
  rw[List.cons_append,spn,spn]
  split
  ·rename_i hc
   rw[if_pos hc]at h
   rw[ih (by simpa using h)]
  ·rfl
theorem q7P {p:UInt8->Bool}{l:List UInt8}: ∀x∈l.take (spn p l),p x=true:=by
 induction l with
 |nil=>simp
 |cons b r ih=>
  rw[spn]
  split
  ·rename_i hb
   rw[List.take_succ_cons]
   intro x hx
   rcases List.mem_cons.1 hx with rfl|hx
   ·exact hb
   ·exact ih x hx
  ·simp
theorem q3M {p:UInt8->Bool}{l:List UInt8}:spn p (l.drop (spn p l))=0:=by
 induction l with
 |nil=>rfl
 |cons b r ih=>
  by_cases hb:p b=true
  ·rw[spn,if_pos hb,List.drop_succ_cons];exact ih
  ·rw[spn,if_neg hb,List.drop_zero,spn,if_neg hb]
def dst (a:Nat)(c:UInt8):Nat:=a * 10+(c.toNat-48)
def dvl (a:Nat)(l:List UInt8):Nat:=l.foldl dst a
theorem q2p (a:Nat):dvl a []=a:=by unfold dvl;rw[List.foldl_nil]
theorem q1u (a:Nat)(c:UInt8)(r:List UInt8):dvl a (c::r)=dvl (a * 10+(c.toNat-48)) r:=by unfold dvl;rw[List.foldl_cons,dst]
theorem qap (a:Nat)(l:List UInt8)(c:UInt8):dvl a (l++[c])=dvl a l * 10+(c.toNat-48):=by
 induction l generalizing a with
 |nil=>rw[List.nil_append,q1u,q2p,q2p]
 |cons b r ih=>rw[List.cons_append,q1u,ih,q1u]
theorem q8V (a:Nat)(l:List UInt8):a<=dvl a l:=by
 induction l generalizing a with
 |nil=>rw[q2p];exact Nat.le_refl _
 |cons b r ih=>rw[q1u];have:=ih (a * 10+(b.toNat-48));omega
theorem q2o (c:UInt8):q07 c=true↔48<=c.toNat/\c.toNat<=57:=by unfold q07;simp
theorem q8W (l:List UInt8)(a:Nat)(hl: ∀x∈l,q07 x=true)(ha:a<=18446744073709551615):
  Lib.parseUintM 18446744073709551615 a l=if dvl a l<=18446744073709551615 then .ok (dvl a l) else .range:=by
 induction l generalizing a with
 |nil=>rw[Lib.parseUintM,q2p,if_pos ha]
 |cons c r ih=>
  have hc:=(q2o c).1 (hl c (by simp))
  have hg:=q8V (a * 10+(c.toNat-48)) r
  rw[Lib.parseUintM,if_pos hc,q1u]
  split
  ·rw[if_neg (by omega)]
  ·split
   ·rw[if_neg (by omega)]
   ·exact ih _ (fun x hx=>hl x (by simp[hx])) (by omega)
theorem q7l (l:List UInt8)(hl: ∀x∈l,q07 x=true)(h0:l≠[]):Lib.parseIntB 64 l=if 9223372036854775807<dvl 0 l then .range else .ok (dvl 0 l:Int):=by
 cases l with
 |nil=>exact absurd rfl h0
 |cons c r=>
  have hc:=(q2o c).1 (hl c (by simp))
  rw[Lib.parseIntB_plain 64 c r (by omega) (by omega),Lib.parseUintB,if_neg (by simp),show (2:Nat) ^ 64-1=18446744073709551615 by decide,q8W _ 0 hl (by omega)]
  split
  ·unfold Lib.signlessC
   dsimp only
   by_cases h:9223372036854775807<dvl 0 (c::r)
   ·rw[if_pos h,if_pos (by omega)]
   ·rw[if_neg h,if_neg (by omega)]
  ·rw[if_pos (by omega)]
   rfl
theorem qao (l:List UInt8)(hl: ∀x∈l,q07 x=true)(h0:l≠[])(hz:l.head?=some 48->l.length=1):Lib.decDigits (dvl 0 l)=l:=by
 induction h:l.length using Nat.strongRecOn generalizing l with
 |_ n ih=>
  obtain ⟨r,c,rfl⟩: ∃r c,l=r++[c]:=⟨l.dropLast,l.getLast h0,(List.dropLast_concat_getLast h0).symm⟩
  have hc:=(q2o c).1 (hl c (by simp))
  have hcc:UInt8.ofNat (48+(c.toNat-48))=c:=by rw[show 48+(c.toNat-48)=c.toNat by omega];simp
  rw[qap]
  cases r with
  |nil=>
   rw[q2p,Nat.zero_mul,Nat.zero_add,Lib.decDigits_one (by omega),hcc];rfl
  |cons d r=>
   have hd:=(q2o d).1 (hl d (by simp))
   have hd0:d.toNat≠48:=fun e=>by
    have:=hz (by simp;exact UInt8.toNat_inj.1 e)
    simp at this
   have h1:=ih (d::r).length (by rw[<-h];simp) (d::r) (fun x hx=>hl x (by simp at hx ⊢;rcases hx with h|h <;> simp[h])) (by simp) (fun e=>by simp at e;subst e;exact absurd rfl hd0) rfl
   have hg:1<=dvl 0 (d::r):=by
    rw[q1u]
    have:=q8V (0 * 10+(d.toNat-48)) r
    omega
   rw[Lib.decDigits,dif_neg (by omega),show (dvl 0 (d::r) * 10+(c.toNat-48)) / 10=dvl 0 (d::r) by omega,show (dvl 0 (d::r) * 10+(c.toNat-48)) % 10=c.toNat-48 by omega,h1,hcc]
structure Tk where
 kd:Int
 s:ByteArray
 n:Int
 pl:Int
def txt (l:List UInt8):ByteArray:=⟨l.toArray⟩
theorem q0y (l:List UInt8):(txt l).data.toList=l:=rfl
theorem q0k (l:List UInt8):(txt l).size=l.length:=rfl
theorem q0z (b:ByteArray):txt b.data.toList=b:=by unfold txt;simp
def tkEq (a b:Tk):Bool:=a.kd==b.kd && (a.s.data.toList==b.s.data.toList && (a.n==b.n && a.pl==b.pl))
theorem q3P (a b:Tk):tkEq a b=true↔a=b:=by
 obtain ⟨k,s,n,p⟩:=a
 obtain ⟨k',s',n',p'⟩:=b
 unfold tkEq
 simp only[Bool.and_eq_true,beq_iff_eq,Tk.mk.injEq]
 constructor
 ·rintro ⟨h1,h2,h3,h4⟩
  exact ⟨h1,by rw[<-q0z s, <-q0z s',h2],h3,h4⟩
 ·rintro ⟨h1,h2,h3,h4⟩
  exact ⟨h1,by rw[h2],h3,h4⟩
def tkW (l:List UInt8):Option (Tk × Nat):=if 32<spn q0h l then none else some (⟨1,txt (l.take (spn q0h l)),0,0⟩,spn q0h l)
def tkN (l:List UInt8):Option (Tk × Nat):=if l.head?=some 48/\1<spn q07 l then none else if 9223372036854775807<dvl 0 (l.take (spn q07 l)) then none else some (⟨2,txt [],(dvl 0 (l.take (spn q07 l)):Nat),0⟩,spn q07 l)
def tkT (r:List UInt8):Option (Tk × Nat):=if 256<spn isIn r then none else if (r.drop (spn isIn r)).head?=some 39 then some (⟨3,txt (r.take (spn isIn r)),0,0⟩,spn isIn r+2) else none
def q1K (b:UInt8):Bool:=decide (b.toNat=60)||decide (b.toNat=61)||decide (b.toNat=33)
def q40 (b:UInt8):Bool:=decide (b.toNat=60)||decide (b.toNat=61)||decide (b.toNat=58)||decide (b.toNat=59)||decide (b.toNat=46)||(decide (40<=b.toNat) && decide (b.toNat<=43))||decide (b.toNat=45)
def tkS (b:UInt8)(r:List UInt8):Option (Tk × Nat):=if q1K b=true/\r.head?=some 61 then some (⟨4,txt [b,61],0,0⟩,2) else if q40 b=true then some (⟨4,txt [b],0,0⟩,1) else none
def tkR:List UInt8->Option (Tk × Nat)
 |[]=>none
 |b::r=>if q0A b then tkW (b::r) else if q07 b then tkN (b::r) else if b.toNat=39 then tkT r else tkS b r
def q04 (t:Tk):List UInt8:=if t.kd=2 then Lib.itoa t.n else if t.kd=3 then 39::(t.s.data.toList++[39]) else t.s.data.toList
theorem q2A {k:Int}{s:ByteArray}{n p:Int}(h2:k≠2)(h3:k≠3):q04 ⟨k,s,n,p⟩=s.data.toList:=by unfold q04;rw[if_neg h2,if_neg h3]
theorem q7O {s:ByteArray}{n p:Int}:q04 ⟨3,s,n,p⟩=39::(s.data.toList++[39]):=by unfold q04;rw[if_neg (by dsimp only;omega),if_pos rfl]
theorem q7N {s:ByteArray}{n p:Int}:q04 ⟨2,s,n,p⟩=Lib.itoa n:=by unfold q04;rw[if_pos rfl]
theorem qaY (n:Nat):Lib.itoa (n:Int)=Lib.decDigits n:=by
 unfold Lib.itoa
 rw[if_neg (by omega),Int.toNat_natCast]
theorem q0o {l:List UInt8}{t:Tk}{n:Nat}(h:tkR l=some (t,n)):0<n/\n<=l.length/\q04 t=l.take n/\t.pl=0/\1<=t.kd/\t.kd<=4/\t.s.size<=256/\0<=t.n/\t.n<=9223372036854775807/\(∃b,l.head?=some b/\q09 b=false)/\(t.kd≠2->t.n=0):=by
 cases l with
 |nil=>cases h
 |cons b r=>
  rw[tkR]at h
  split at h
  ·rename_i hb
   have hal:q0h b=true:=by unfold q0h;simp[hb]
   have h1:1<=spn q0h (b::r):=by rw[spn,if_pos hal];omega
   have h2:=q19 q0h (b::r)
   unfold tkW at h
   split at h
   ·cases h
   ·simp only[Option.some.injEq,Prod.mk.injEq]at h
    obtain ⟨rfl,rfl⟩:=h
    refine ⟨h1,h2,?_,rfl,by dsimp only;omega,by dsimp only;omega,?_,by dsimp only;omega,by dsimp only;omega,⟨b,rfl,?_⟩,fun _=>rfl⟩
    ·rw[q2A (by omega) (by omega),q0y]
    ·rw[q0k,List.length_take];omega
    ·unfold q0A at hb
     unfold q09
     simp at hb ⊢
     omega
  ·split at h
   ·rename_i hb
    have h1:1<=spn q07 (b::r):=by rw[spn,if_pos hb];omega
    have h2:=q19 q07 (b::r)
    unfold tkN at h
    split at h
    ·cases h
    ·rename_i hz
     split at h
     ·cases h
     ·rename_i hv
      simp only[Option.some.injEq,Prod.mk.injEq]at h
      obtain ⟨rfl,rfl⟩:=h
      refine ⟨h1,h2,?_,rfl,by dsimp only;omega,by dsimp only;omega,by rw[q0k];simp,by show (0:Int)<=((dvl 0 _:Nat):Int);omega,by show ((dvl 0 _:Nat):Int)<=_;omega,⟨b,rfl,?_⟩,fun e=>absurd rfl e⟩
      ·rw[q7N]
       show Lib.itoa ((dvl 0 _:Nat):Int)=_
       rw[qaY]
       refine qao _ q7P ?_ ?_
       ·intro e
        have:=congrArg List.length e
        rw[List.length_take]at this
        simp only[List.length_nil]at this
        omega
       ·intro e
        rw[List.length_take]
        have e2:(b::r).head?=some 48:=by
         obtain ⟨m,hm⟩: ∃m,spn q07 (b::r)=m+1:=⟨spn q07 (b::r)-1,by omega⟩
         rw[hm,List.take_succ_cons]at e
         exact e
        have: ¬ 1<spn q07 (b::r):=fun h3=>hz ⟨e2,h3⟩
        omega
      ·have:=(q2o b).1 hb
       unfold q09
       simp
       omega
   ·split at h
    ·rename_i hb
     unfold tkT at h
     split at h
     ·cases h
     ·split at h
      ·rename_i hlen hq
       simp only[Option.some.injEq,Prod.mk.injEq]at h
       obtain ⟨rfl,rfl⟩:=h
       have hlt:spn isIn r<r.length:=by
        rcases Nat.lt_or_ge (spn isIn r) r.length with h|h
        ·exact h
        ·rw[List.drop_eq_nil_of_le h]at hq;cases hq
       refine ⟨by omega,by simp;omega,?_,rfl,by dsimp only;omega,by dsimp only;omega,?_,by dsimp only;omega,by dsimp only;omega,⟨b,rfl,?_⟩,fun _=>rfl⟩
       ·rw[q7O,q0y,List.take_succ_cons,show b=39 from UInt8.toNat_inj.1 hb,List.take_add_one]
        rw[List.head?_drop]at hq
        rw[hq]
        rfl
       ·rw[q0k,List.length_take];omega
       ·unfold q09;simp;omega
      ·cases h
    ·rename_i hb
     unfold tkS at h
     split at h
     ·rename_i h2
      simp only[Option.some.injEq,Prod.mk.injEq]at h
      obtain ⟨rfl,rfl⟩:=h
      obtain ⟨ht,hh⟩:=h2
      cases r with
      |nil=>cases hh
      |cons c r=>
       simp at hh
       subst hh
       refine ⟨by omega,by simp,?_,rfl,by dsimp only;omega,by dsimp only;omega,by rw[q0k];simp,by dsimp only;omega,by dsimp only;omega,⟨b,rfl,?_⟩,fun _=>rfl⟩
       ·rw[q2A (by omega) (by omega),q0y]
        rfl
       ·unfold q1K at ht
        unfold q09
        simp at ht ⊢
        omega
     ·split at h
      ·rename_i h1
       simp only[Option.some.injEq,Prod.mk.injEq]at h
       obtain ⟨rfl,rfl⟩:=h
       refine ⟨by omega,by simp,?_,rfl,by dsimp only;omega,by dsimp only;omega,by rw[q0k];simp,by dsimp only;omega,by dsimp only;omega,⟨b,rfl,?_⟩,fun _=>rfl⟩
       ·rw[q2A (by omega) (by omega),q0y]
        rfl
       ·unfold q40 at h1
        unfold q09
        simp at h1 ⊢
        omega
      ·cases h
theorem q7T (l:List UInt8){n k:Nat}(h:n<=k):(l.take k).take n=l.take n:=by rw[List.take_take,Nat.min_eq_left h]
theorem qby {l:List UInt8}{t:Tk}{n k:Nat}(h:tkR l=some (t,n))(hk:n<=k):tkR (l.take k)=some (t,n):=by
 have h0:=(q0o h).1
 cases l with
 |nil=>cases h
 |cons b r=>
  obtain ⟨k,rfl⟩: ∃m,k=m+1:=⟨k-1,by omega⟩
  have hs:=fun p=>q2P p (b::r) (k+1)
  rw[List.take_succ_cons]at hs ⊢
  have htk: ∀m,m<=k+1->(b::r.take k).take m=(b::r).take m:=fun m hm=>by rw[<-List.take_succ_cons,q7T _ hm]
  rw[tkR]at h ⊢
  split at h
  ·rename_i hb
   rw[if_pos hb]
   unfold tkW at h ⊢
   split at h
   ·cases h
   ·rename_i h32
    simp only[Option.some.injEq,Prod.mk.injEq]at h
    obtain ⟨rfl,rfl⟩:=h
    rw[hs,Nat.min_eq_left hk,if_neg h32,htk _ hk]
  ·rename_i hb
   rw[if_neg hb]
   split at h
   ·rename_i hd
    rw[if_pos hd]
    unfold tkN at h ⊢
    split at h
    ·cases h
    ·rename_i hz
     split at h
     ·cases h
     ·rename_i hv
      simp only[Option.some.injEq,Prod.mk.injEq]at h
      obtain ⟨rfl,rfl⟩:=h
      rw[hs,Nat.min_eq_left hk,htk _ hk,if_neg (by simpa using hz),if_neg hv]
   ·rename_i hd
    rw[if_neg hd]
    split at h
    ·rename_i hq
     rw[if_pos hq]
     unfold tkT at h ⊢
     split at h
     ·cases h
     ·rename_i h256
      split at h
      ·rename_i hh
       simp only[Option.some.injEq,Prod.mk.injEq]at h
       obtain ⟨rfl,rfl⟩:=h
       rw[q2P,Nat.min_eq_left (by omega:spn isIn r<=k),if_neg h256,q7T _ (by omega:spn isIn r<=k),List.head?_drop,List.getElem?_take_of_lt (by omega:spn isIn r<k), <-List.head?_drop,if_pos hh]
      ·cases h
    ·rename_i hq
     rw[if_neg hq]
     unfold tkS at h ⊢
     split at h
     ·rename_i h2
      simp only[Option.some.injEq,Prod.mk.injEq]at h
      obtain ⟨rfl,rfl⟩:=h
      rw[if_pos ⟨h2.1,by
       obtain ⟨k,rfl⟩: ∃m,k=m+1:=⟨k-1,by omega⟩
       cases r with
       |nil=>exact h2.2
       |cons c r=>exact h2.2⟩]
     ·rename_i h2
      split at h
      ·rename_i h1
       simp only[Option.some.injEq,Prod.mk.injEq]at h
       obtain ⟨rfl,rfl⟩:=h
       rw[if_neg (fun h3=>h2 ⟨h3.1,by
        cases k with
        |zero=>simp at h3
        |succ k=>
         cases r with
         |nil=>exact h3.2
         |cons c r=>exact h3.2⟩),if_pos h1]
      ·cases h
def Gap (l:List UInt8):Prop:= ∀b,l.head?=some b->q09 b=true
theorem q4p (b:UInt8):q09 b=true↔b.toNat=32\/b.toNat=10:=by unfold q09;simp
theorem Gap.spn {l:List UInt8}(h:Gap l){p:UInt8->Bool}(hp: ∀b,q09 b=true->p b=false):spn p l=0:=by
 cases l with
 |nil=>rfl
 |cons b r=>rw[Go.Proofs.YtcmjnlpofebbmaaGreatDoor.spn,if_neg (by simp[hp b (h b rfl)])]
def Tk.out (t:Tk)(p:Int):Tk:={ t with pl:=p }
theorem q55 (t:Tk)(p:Int):q04 (t.out p)=q04 t:=rfl
def wrOk (t:Tk):Bool:=decide (t.s.size<=256) && (match tkR (q04 t)with|some (u,_)=>tkEq u (t.out 0)|none=>false)
theorem q3Q (t:Tk):wrOk t=true↔t.s.size<=256/\tkR (q04 t)=some (t.out 0,(q04 t).length):=by
 unfold wrOk
 rw[Bool.and_eq_true,decide_eq_true_eq]
 constructor
 ·rintro ⟨h1,h2⟩
  refine ⟨h1,?_⟩
  split at h2
  ·rename_i u n hu
   obtain rfl:=(q3P _ _).1 h2
   obtain ⟨_,h3,h4,_⟩:=q0o hu
   rw[q55]at h4
   have:=congrArg List.length h4
   rw[List.length_take]at this
   rw[hu,show n=(q04 t).length by omega]
  ·cases h2
 ·rintro ⟨h1,h2⟩
  rw[h2]
  exact ⟨h1,(q3P _ _).2 rfl⟩
theorem qbQ (t:Tk)(p:Int):wrOk (t.out p)=wrOk t:=rfl
theorem qei {l:List UInt8}{t:Tk}{n:Nat}(h:tkR l=some (t,n)):wrOk t=true:=by
 obtain ⟨_,h3,h4,h5,_,_,h6,_⟩:=q0o h
 rw[q3Q]
 refine ⟨h6,?_⟩
 rw[h4,qby h (Nat.le_refl n),List.length_take,Nat.min_eq_left h3,show t.out 0=t from by unfold Tk.out;rw[<-h5]]
inductive TR where
 |bad (k:Nat) (c:Int)
 |good (l:List Tk)
def TR.pre (a:List Tk):TR->TR
 | .bad k c=> .bad k c
 | .good l=> .good (a++l)
theorem TR.pre_pre (a b:List Tk)(x:TR):(x.pre b).pre a=x.pre (a++b):=by cases x <;> simp[TR.pre]
theorem TR.pre_nil (x:TR):x.pre []=x:=by cases x <;> simp[TR.pre]
def tkG:Nat->List UInt8->Nat->Nat->TR
 |0,_,_,_=> .good []
 |_+1,[],_,_=> .good []
 |f+1,b::r,k,c=>
  if q09 b then tkG f r (k+1) c else
  match tkR (b::r)with
  |none=> .bad k 100
  |some (t,n)=>if c=4096 then .bad k 2 else (tkG f ((b::r).drop n) (k+n) (c+1)).pre [t.out (k:Int)]
theorem qbx (f g:Nat)(l:List UInt8)(k c:Nat)(hf:l.length<=f)(hg:l.length<=g):tkG f l k c=tkG g l k c:=by
 induction f generalizing g l k c with
 |zero=>
  obtain rfl:=List.eq_nil_of_length_eq_zero (Nat.le_zero.1 hf)
  cases g <;> rfl
 |succ f ih=>
  cases l with
  |nil=>cases g <;> rfl
  |cons b r=>
   cases g with
   |zero=>simp at hg
   |succ g=>
    simp only[List.length_cons]at hf hg
    rw[tkG,tkG]
    split
    ·exact ih g r (k+1) c (by omega) (by omega)
    ·split
     ·rfl
     ·rename_i t n h
      have h0:=(q0o h).1
      split
      ·rfl
      ·rw[ih g _ _ _ (by simp;omega) (by simp;omega)]
def toks (l:List UInt8)(k c:Nat):TR:=tkG l.length l k c
theorem q1A (k c:Nat):toks [] k c= .good []:=rfl
theorem q12 {b:UInt8}{r:List UInt8}{k c:Nat}(h:q09 b=true):toks (b::r) k c=toks r (k+1) c:=by
 unfold toks
 rw[List.length_cons,tkG,if_pos h]
theorem q1l {l:List UInt8}{k c:Nat}(h:tkR l=none)(h0:l≠[])(hb:spn q09 l=0):toks l k c= .bad k 100:=by
 cases l with
 |nil=>exact absurd rfl h0
 |cons b r=>
  have hb': ¬ q09 b=true:=fun e=>by rw[spn,if_pos e]at hb;omega
  unfold toks
  rw[List.length_cons,tkG,if_neg hb',h]
theorem q1k {l:List UInt8}{k:Nat}{t:Tk}{n:Nat}(h:tkR l=some (t,n)):toks l k 4096= .bad k 2:=by
 obtain ⟨_,_,_,_,_,_,_,_,_,⟨b,hb,hbk⟩,_⟩:=q0o h
 cases l with
 |nil=>cases hb
 |cons b r=>
  simp at hb
  subst hb
  unfold toks
  rw[List.length_cons,tkG,if_neg (by simp[hbk]),h]
  rfl
theorem q13 {l:List UInt8}{k c:Nat}{t:Tk}{n:Nat}(h:tkR l=some (t,n))(hc:c≠4096):toks l k c=(toks (l.drop n) (k+n) (c+1)).pre [t.out (k:Int)]:=by
 obtain ⟨h0,hl,_,_,_,_,_,_,_,⟨b,hb,hbk⟩,_⟩:=q0o h
 cases l with
 |nil=>cases hb
 |cons b r=>
  simp at hb
  subst hb
  unfold toks
  rw[List.length_cons,tkG,if_neg (by simp[hbk]),h]
  dsimp only
  rw[if_neg hc,qbx r.length ((List.drop n (b::r)).length) _ _ _ (by simp;omega) (Nat.le_refl _)]
theorem q6B (l:List UInt8)(k c:Nat):toks l k c=toks (l.drop (spn q09 l)) (k+spn q09 l) c:=by
 induction l generalizing k with
 |nil=>rfl
 |cons b r ih=>
  by_cases h:q09 b=true
  ·rw[q12 h,ih,spn,if_pos h,List.drop_succ_cons,Nat.add_assoc,Nat.add_comm 1]
  ·rw[spn,if_neg h];rfl
theorem q77 (g l:List UInt8)(k c:Nat)(hg: ∀x∈g,q09 x=true):toks (g++l) k c=toks l (k+g.length) c:=by
 induction g generalizing k with
 |nil=>rfl
 |cons b r ih=>rw[List.cons_append,q12 (hg b (by simp)),ih _ (fun x hx=>hg x (by simp[hx])),List.length_cons,Nat.add_assoc,Nat.add_comm 1]
theorem q24 {P:List UInt8->Nat->Nat->Prop}(h0: ∀k c,P [] k c)(h1: ∀b r k c,q09 b=true->P r (k+1) c->P (b::r) k c)
  (h2: ∀l k c,l≠[]->spn q09 l=0->tkR l=none->P l k c) (h3: ∀l k t n,tkR l=some (t,n)->P l k 4096)
  (h4: ∀l k c t n,tkR l=some (t,n)->c≠4096->P (l.drop n) (k+n) (c+1)->P l k c): ∀l k c,P l k c:=by
 intro l
 induction hl:l.length using Nat.strongRecOn generalizing l with
 |_ m ih=>
  intro k c
  cases l with
  |nil=>exact h0 k c
  |cons b r=>
   by_cases hb:q09 b=true
   ·exact h1 b r k c hb (ih r.length (by rw[<-hl];simp) r rfl _ _)
   ·cases h:tkR (b::r)with
    |none=>exact h2 _ k c (by simp) (by rw[spn,if_neg hb]) h
    |some x=>
     obtain ⟨t,n⟩:=x
     have hn:=(q0o h).1
     by_cases hc:c=4096
     ·subst hc;exact h3 _ k t n h
     ·exact h4 _ k c t n h hc (ih _ (by rw[<-hl,List.length_drop];simp;omega) _ rfl _ _)
theorem q2L {a:List Tk}{x:TR}{ts:List Tk}(h:x.pre a= .good ts): ∃r,x= .good r/\ts=a++r:=by
 cases x with
 |bad k c=>cases h
 |good l=>exact ⟨l,rfl,by simpa [TR.pre] using h.symm⟩
theorem q4K (l:List UInt8)(k c:Nat)(ts:List Tk)(h:toks l k c= .good ts)(hc:c<=4096):c+ts.length<=4096/\ ∀t∈ts,wrOk t=true:=by
 revert ts
 refine q24 (P:=fun l k c=> ∀ts,toks l k c= .good ts->c<=4096->c+ts.length<=4096/\ ∀t∈ts,wrOk t=true) ?_ ?_ ?_ ?_ ?_ l k c |> fun g ts h=>g ts h hc
 ·intro k c ts h hc
  rw[q1A]at h
  cases h
  exact ⟨by simpa using hc,by simp⟩
 ·intro b r k c hb ih ts h hc
  rw[q12 hb]at h
  exact ih ts h hc
 ·intro l k c h0 hb hn ts h
  rw[q1l hn h0 hb]at h
  cases h
 ·intro l k t n hn ts h
  rw[q1k hn]at h
  cases h
 ·intro l k c t n hn hc4 ih ts h hc
  rw[q13 hn hc4]at h
  obtain ⟨r,hr,rfl⟩:=q2L h
  obtain ⟨i1,i2⟩:=ih r hr (by omega)
  refine ⟨by simp;omega,fun u hu=>?_⟩
  simp at hu
  rcases hu with rfl|hu
  ·rw[qbQ];exact qei hn
  ·exact i2 u hu
def q0O (l:List Tk):List UInt8:=l.flatMap fun t=>32::q04 t
def q0i:List Tk->List UInt8
 |[]=>[]
 |t::r=>q04 t++q0O r
theorem q8E (l:List Tk)(t:Tk):q0O (l++[t])=q0O l++32::q04 t:=by unfold q0O;simp
theorem q8l (l:List Tk)(t:Tk):q0i (l++[t])=if l=[] then q04 t else q0i l++32::q04 t:=by
 cases l with
 |nil=>rw[if_pos rfl];unfold q0i q0O;simp
 |cons x r=>rw[if_neg (by simp),List.cons_append];show q04 x++q0O (r++[t])=(q04 x++q0O r)++32::q04 t;rw[q8E,List.append_assoc]
theorem qd2 {a:List Tk}{x:TR}{p:Nat}{q:Int}(h:x.pre a= .bad p q):x= .bad p q:=by
 cases x with
 |bad k c=>exact h
 |good l=>cases h
structure Pt where
 kd:Int
 n:Int
 s:ByteArray
 st:ByteArray
 fl:Int
def sds (k:Int):Nat:=if 4<=k/\k<=12 then 2 else if k=13 then 1 else 0
theorem q20 (k:Int):sds k<=2:=by unfold sds;split;omega;split <;> omega
def stk {α:Type}(ev:Pt->List α->α):List Pt->Option (List α)
 |[]=>some []
 |p::r=>match stk ev r with
  |none=>none
  |some l=>if l.length<sds p.kd then none else some (ev p (l.take (sds p.kd))::l.drop (sds p.kd))
def fdX {α:Type}(ev:Pt->List α->α)(x:List Pt):Option α:=match stk ev x with
 |some [a]=>some a
 |_=>none
inductive Ex where
 |lf (p:Pt)
 |un (p:Pt) (a:Ex)
 |bi (p:Pt) (a b:Ex)
def Ex.flat:Ex->List Pt
 | .lf p=>[p]
 | .un p a=>p::a.flat
 | .bi p a b=>p::(a.flat++b.flat)
def Ex.wf:Ex->Prop
 | .lf p=>sds p.kd=0
 | .un p a=>sds p.kd=1/\a.wf
 | .bi p a b=>sds p.kd=2/\a.wf/\b.wf
def Ex.val {α:Type}(ev:Pt->List α->α):Ex->α
 | .lf p=>ev p []
 | .un p a=>ev p [a.val ev]
 | .bi p a b=>ev p [a.val ev,b.val ev]
theorem Ex.flat_pos (t:Ex):0<t.flat.length:=by cases t <;> simp[Ex.flat]
theorem qbv {α:Type}(ev:Pt->List α->α)(t:Ex)(h:t.wf)(r:List Pt):stk ev (t.flat++r)=(stk ev r).map (t.val ev:: ·):=by
 induction t generalizing r with
 |lf p=>
  rw[Ex.wf]at h
  rw[Ex.flat,List.singleton_append,stk,Ex.val,h]
  cases stk ev r <;> simp
 |un p a ih=>
  rw[Ex.wf]at h
  rw[Ex.flat,List.cons_append,stk,ih h.2,Ex.val,h.1]
  cases stk ev r <;> simp
 |bi p a b iha ihb=>
  rw[Ex.wf]at h
  rw[Ex.flat,List.cons_append,List.append_assoc,stk,iha h.2.1,ihb h.2.2,Ex.val,h.1]
  cases stk ev r <;> simp
theorem q2Q {α:Type}(ev:Pt->List α->α)(x:List Pt)(l:List α)(h:stk ev x=some l): ∃ts:List Ex,(∀t∈ts,t.wf)/\x=ts.flatMap Ex.flat/\l=ts.map (Ex.val ev):=by
 induction x generalizing l with
 |nil=>simp[stk]at h;exact ⟨[],by simp,by simp,by simp[h]⟩
 |cons p r ih=>
  rw[stk]at h
  cases hr:stk ev r with
  |none=>rw[hr]at h;cases h
  |some m=>
   rw[hr]at h
   dsimp only at h
   obtain ⟨ts,h1,h2,h3⟩:=ih m hr
   split at h
   ·cases h
   ·rename_i hn
    have hsd:=q20 p.kd
    simp only[Option.some.injEq]at h
    subst h
    subst h3
    rw[List.length_map]at hn
    match hk:sds p.kd,ts,hn with
    |0,ts,_=>
     exact ⟨.lf p::ts,by intro t ht;rcases List.mem_cons.1 ht with rfl|ht;exact hk;exact h1 t ht,by rw[List.flatMap_cons,h2];rfl,by simp[Ex.val]⟩
    |1,a::ts,_=>
     exact ⟨.un p a::ts,by intro t ht;rcases List.mem_cons.1 ht with rfl|ht;exact ⟨hk,h1 a (by simp)⟩;exact h1 t (by simp[ht]),by rw[List.flatMap_cons,h2,List.flatMap_cons];rfl,by simp[Ex.val]⟩
    |2,a::b::ts,_=>
     exact ⟨.bi p a b::ts,by intro t ht;rcases List.mem_cons.1 ht with rfl|ht;exact ⟨hk,h1 a (by simp),h1 b (by simp)⟩;exact h1 t (by simp[ht]),by rw[List.flatMap_cons,h2,List.flatMap_cons,List.flatMap_cons];simp[Ex.flat],by simp[Ex.val]⟩
    |1,[],hn=>simp at hn
    |2,[],hn=>simp at hn
    |2,[_],hn=>simp at hn
    |n+3,_,_=>omega
theorem q5G {α:Type}(ev:Pt->List α->α)(t:Ex)(h:t.wf):fdX ev t.flat=some (t.val ev):=by
 have:=qbv ev t h []
 rw[List.append_nil]at this
 unfold fdX
 rw[this]
 rfl
theorem q5H {α:Type}{ev:Pt->List α->α}{x:List Pt}{a:α}(h:fdX ev x=some a): ∃t:Ex,t.wf/\x=t.flat/\a=t.val ev:=by
 unfold fdX at h
 split at h
 ·rename_i b hb
  obtain ⟨ts,h1,h2,h3⟩:=q2Q ev x [b] hb
  match ts,h3 with
  |[t],h3=>
   simp at h3 h
   subst h
   exact ⟨t,h1 t (by simp),by rw[h2];simp,h3⟩
 ·cases h
def q05 (s:ByteArray):Bool:=s.size==0
def q1n (p:Pt):Bool:=decide (p.n=0) && (q05 p.s && (q05 p.st && decide (p.fl=0)))
def isTx (s:ByteArray):Bool:=decide (s.size<=256) && decide (spn isIn s.data.toList=s.size)
def fldW:List (List UInt8):=[[110,48],[110,49],[110,50],[110,51],[116,121,112,101],[116,101,120,116]]
def q0n (s:List UInt8):Int:=if s=[110,48] then 0 else if s=[110,49] then 1 else if s=[110,50] then 2 else if s=[110,51] then 3 else if s=[116,121,112,101] then 4 else if s=[116,101,120,116] then 5 else-1
def q1I (s:List UInt8):Bool:= !(decide (s=[111,114])||decide (s=[97,110,100])||decide (s=[110,111,116])) && decide (q0n s<0)
def isSg (s:ByteArray):Bool:=decide (0<s.size) && decide (s.size<=32) && (match s.data.toList.head? with|some b=>q0A b|none=>false) && decide (spn q0h s.data.toList=s.size) && q1I s.data.toList
def fldK (f:Int):Int:=if f=4\/f=5 then 2 else if 0<=f/\f<4 then 1 else 0
def lfK (p:Pt):Int:=
 if p.kd=1/\q05 p.s=true/\q05 p.st=true/\p.fl=0/\0<=p.n then 1
 else if p.kd=2/\p.n=0/\q05 p.st=true/\p.fl=0/\isTx p.s=true then 2
 else if p.kd=3/\p.n=0/\q05 p.s=true/\(q05 p.st=true\/isSg p.st=true) then fldK p.fl
 else 0
def opK (k a b:Int):Int:=
 if 4<=k/\k<=6 then (if a=1/\b=1 then 1 else 0)
 else if 7<=k/\k<=8 then (if a=1/\b=1 then 3 else 0)
 else if 9<=k/\k<=10 then (if a=b/\(a=1\/a=2) then 3 else 0)
 else if 11<=k/\k<=12 then (if a=3/\b=3 then 3 else 0)
 else if k=13 then (if a=3 then 3 else 0)
 else 0
structure Sh where
 kd:Int
 dp:Int
def shp (p:Pt):List Sh->Sh
 |[]=>⟨lfK p,1⟩
 |[a]=>⟨if q1n p then opK p.kd a.kd 0 else 0,1+max a.dp 0⟩
 |a::b::_=>⟨if q1n p then opK p.kd a.kd b.kd else 0,1+max a.dp b.dp⟩
def ckK (x:List Pt):Int:=if 200<x.length then 0 else match fdX shp x with
 |some s=>if s.dp > 32 then 0 else s.kd
 |none=>0
def Ex.kd (t:Ex):Int:=(t.val shp).kd
def Ex.dp (t:Ex):Int:=(t.val shp).dp
theorem qak {x:List Pt}(h:ckK x≠0): ∃t:Ex,t.wf/\x=t.flat/\t.kd=ckK x/\t.dp<=32/\x.length<=200:=by
 unfold ckK at h ⊢
 split at h
 ·exact absurd rfl h
 ·rename_i hl
  rw[if_neg hl]
  cases hf:fdX shp x with
  |none=>rw[hf]at h;exact absurd rfl h
  |some s=>
   rw[hf]at h
   dsimp only at h ⊢
   split at h
   ·exact absurd rfl h
   ·rename_i hd
    obtain ⟨t,h1,h2,h3⟩:=q5H hf
    subst h3
    rw[if_neg hd]
    exact ⟨t,h1,h2,rfl,by unfold Ex.dp;omega,by omega⟩
theorem q51 (k a b:Int):opK k a b=0\/opK k a b=1\/opK k a b=3:=by
 unfold opK
 repeat' split
 all_goals simp
theorem q9q (p:Pt):lfK p=0\/lfK p=1\/lfK p=2:=by
 unfold lfK fldK
 repeat' split
 all_goals simp
theorem qec (p:Pt)(l:List Sh):0<=(shp p l).kd/\(shp p l).kd<=3:=by
 unfold shp
 split
 ·have:=q9q p;dsimp only;omega
 ·dsimp only;split
  ·have:=q51 p.kd (by assumption:Sh).kd 0;omega
  ·omega
 ·dsimp only;split
  ·rename_i a b _ _;have:=q51 p.kd a.kd b.kd;omega
  ·omega
theorem Ex.kd_range (t:Ex):0<=t.kd/\t.kd<=3:=by cases t <;> exact qec _ _
theorem Ex.dp_pos (t:Ex):1<=t.dp:=by
 induction t with
 |lf p=>exact Int.le_refl _
 |un p a ih=>show 1<=1+max a.dp 0;omega
 |bi p a b ih _=>show 1<=1+max a.dp b.dp;omega
def Ex.dn:Ex->Nat
 | .lf _=>1
 | .un _ a=>a.dn+1
 | .bi _ a b=>max a.dn b.dn+1
theorem Ex.dp_dn (t:Ex):t.dp=(t.dn:Int):=by
 induction t with
 |lf p=>rfl
 |un p a ih=>show 1+max a.dp 0=((a.dn+1:Nat):Int);rw[ih];omega
 |bi p a b iha ihb=>show 1+max a.dp b.dp=((max a.dn b.dn+1:Nat):Int);rw[iha,ihb];omega
end Go.Proofs.YtcmjnlpofebbmaaGreatDoor
