/-
  Walks.
-/
import Derived.WalkKit
import Derived.WalkSpells
import Derived.Lib.AppendStr
import Derived.Lib.ItoaNum
import Derived.Lib.ItoaLen
import Derived.Lib.ParseIntBCases
import Derived.Shelf.Strings.Builder1
import Derived.Shelf.Strings.Builder2
import Derived.Shelf.Small.Utf8
import Derived.Shelf.Small.Bits
import Derived.Shelf.Small.Strs
import Derived.Shelf.Small.Wraps
import Derived.Shelf.Strings.BuilderF
import Derived.Shelf.Strings.BuilderK
import Derived.Shelf.Strconv.Itoa0
import Derived.Shelf.Strconv.Itoa1
import Derived.Shelf.LaysM
import Derived.Shelf.Strconv.Itoa2
import Derived.Shelf.Strconv.Itoa3
import Derived.Shelf.Strconv.Itoa4
import Derived.Shelf.Strconv.ParseIntEmpty
import Derived.Shelf.Strconv.Clone
import Derived.Shelf.Strconv.SyntaxError
import Derived.Shelf.LaysC
import Derived.Shelf.Strconv.ToError
import Derived.Shelf.Strconv.Lower
import Derived.Shelf.Strconv.ParseUint10
import Derived.Shelf.Strconv.ParseUint10Empty
import Derived.Shelf.Strconv.ParseUint10Any
import Derived.Shelf.Strconv.ParseInt10
import Derived.Shelf.Strconv.RangeError
import Derived.Shelf.Strconv.ToErrorRange
import Derived.Shelf.Strconv.ParseUintEmpty
import Derived.Shelf.Strconv.ParseUint10b64
import Derived.Shelf.Strconv.ParseUint10b32
import Derived.Shelf.Strconv.ParseUint10b16
import Derived.Shelf.Strconv.ParseUint10b8
import Derived.Shelf.Strconv.ParseUint10At
import Derived.Shelf.Strconv.ParseInt10At64
import Derived.Shelf.Strconv.ParseInt10At32
import Derived.Shelf.Strconv.ParseInt10At16
import Derived.Shelf.Strconv.ParseInt10At8
import Derived.Shelf.Strconv.ParseInt10All
import Derived.Shelf.Strconv.ParseIntPublic10
import Derived.Shelf.Strconv.ErrVarParseInt
import Derived.Shelf.Strings.Search1
import Derived.Shelf.Strings.Prefix
import Derived.Shelf.Strings.Runes
import Derived.Shelf.Strings.IndexAny
import Derived.Shelf.Strings.AsciiSet
import Derived.Shelf.Strings.IndexAnyAll
import Derived.Shelf.Bits.Mul64
import Derived.Shelf.Strings.Repeat
import Derived.Shelf.Slices.Turned
import Derived.Ground.Names2Prog
import Derived.Shelf.Slices.Clone
import Derived.Shelf.Slices.SearchI
import Derived.Test.YtfgkikeeadlcfaaGreatDoorProg
import Derived.Test.YtfgkikeeadlcfaaGreatDoorChecked
import Derived.WalkLawsBesides
import Derived.Laws.DeepNot64
import Derived.SliceStrings
import Derived.Deep.AppendLies
import Derived.Lib.LaidTab
import Derived.Test.YtfgkikeeadlcfaaGreatDoorRows
import Derived.Stop.LaidErr
set_option maxRecDepth 100000
set_option maxHeartbeats 8000000
set_option linter.unusedSimpArgs false
namespace Go.Proofs.YtfgkikeeadlcfaaGreatDoor
open Go.RowKit
theorem zB {α}{a:Array α}{b:α}{i:Nat}:a[i]?=some b↔∃h:i<a.size,a[i]=b:=Array.getElem?_eq_some_iff
theorem zC {α}{a:List α}{b:α}{i:Nat}:a[i]?=some b↔∃h:i<a.length,a[i]=b:=List.getElem?_eq_some_iff
theorem zD {α}{b a:α}:a∈[b]↔a=b:=List.mem_singleton
theorem zE {α}{l:List α}{i:Nat}(h:i<l.length):l[i]?=some l[i]:=List.getElem?_eq_getElem h
theorem zF {α}{a b:List α}:(a++b).length=a.length+b.length:=List.length_append
theorem zG {α}{x:α}{s t:List α}:x∈s++t↔x∈s∨x∈t:=List.mem_append
theorem zH {α}{a b:α}{l:List α}:a∈b::l↔a=b∨a∈l:=List.mem_cons
theorem zI {α β}{l:List α}(f:α→β):(l.map f).length=l.length:=List.length_map f
theorem zJ {α}{l:List α}{n:Nat}(h:n<l.length):l[n]∈l:=List.getElem_mem h
theorem zK {p:Prop}[Decidable p](h:¬p):decide p=false:=decide_eq_false h
theorem zL {α}{i:Nat}{l:List α}:(l.take i).length=min i l.length:=List.length_take
theorem zM (n:Nat):n≤n:=Nat.le_refl n
theorem hZq {p:Prop}(h:p):Hid p:=h
theorem zz1 {α:Type} (l:List α) (i:Nat) (a:α):l.toArray.setIfInBounds i a=(l.set i a).toArray:=by simp
theorem zz2 {α:Type} (x:α) (l:List α) (a:α):(x::l).set 0 a=a::l:=rfl
theorem zz3 {α:Type} (x:α) (l:List α) (n:Nat) (a:α):(x::l).set (n+1) a=x::l.set n a:=rfl
theorem uQ {p:Prop}(h:Hid p):p:=h
theorem q0K {k:IntKind}{a b:Int}(h:a=b):Ending.returned (.int k a)= .returned (.int k b):=by rw[h]
theorem q0Z {a b:Bool}(h:a=b):Ending.returned (.bool a)= .returned (.bool b):=by rw[h]
structure Fr (B e:Nat)(w w':World):Prop where
 below:Below B w w'
 other: ∀k,k<w.heap.size->(∀cur f,w.heap[k]?≠some (.cells cur e f))->w'.heap[k]?=w.heap[k]?
theorem Fr.refl (B e:Nat)(w:World):Fr B e w w:=⟨Below.refl _ _,fun _ _ _=>rfl⟩
theorem Fr.alloc {B e:Nat}{a w:World}(h:Fr B e a w)(hB:B<=w.heap.size)(o:Obj):Fr B e a (w.alloc o):=
 ⟨h.below.alloc hB o,fun k hk hn=>by rw[Below.heap_alloc _ _ _ (by have:=h.below.size;omega)];exact h.other k hk hn⟩
theorem Fr.grown {B e size n:Nat}{a w w':World}{v:Value}{xs:List Value}(h:Fr B e a w)(ho:w.ownsRow B e size v n xs)(hg:w.grownBy w' v.ownBlock)(hB:B<=w.heap.size):Fr B e a w':=
 ⟨h.below.grown hg hB (fun k hk=>(ho.lt k hk).1),fun k hk hn=>by
  have e1:=h.other k hk hn
  rw[<-e1]
  refine hg.block k (by have:=h.below.size;omega) fun hv=>?_
  obtain ⟨_,⟨rfl,_⟩|⟨g,cap,cur,rfl,_,hh,_⟩⟩:=ho
  ·simp[Value.ownBlock]at hv
  ·simp[Value.ownBlock]at hv
   subst hv
   exact hn cur (0,0) (by rw[<-e1];exact hh)⟩
theorem Fr.keep {B e k:Nat}{a w:World}(h:Fr B e a w){cur:Array Value}{t:TypeId}{f:Nat × Nat}(hb:a.heap[k]?=some (.cells cur t f))(ht:t≠e):w.heap[k]?=some (.cells cur t f):=by
 have hk:k<a.heap.size:=by
  rcases Nat.lt_or_ge k a.heap.size with h1|h1
  ·exact h1
  ·rw[Array.getElem?_eq_none h1]at hb;cases hb
 rw[h.other k hk (fun c g hc=>by rw[hb]at hc;simp at hc;exact ht hc.2.1)];exact hb
theorem q4k {P:Program}{ops:Array Oper}{o:Oper}{a:Act}{w:World}{K:Act->World->Prop}{Q:Exit->Act->World->Prop}{E:Prop}
  (hg:o.guard=none) (s x:Operand) (t:TypeId) (hop:o.op=Op.call { callee:=Callee.builtin Builtin.append,args:=#[s,x],argTypes:=#[t,t] })
  (base:Nat) (e:TypeId) (i:TypeInfo) (z:Value) (size bytes:Nat) (h1:P.underlying t=some (.slice e)) (h2:P.info? e=some i) (h3:i.zero=some z) (h4:i.size=size) (h5:i.bytes=bytes) (h6:z.cells.size=size) (h7:0<size)
  (v:Value) (n:Nat) (xs:List Value) (hs:a.eval s=v) (hown:w.ownsRow base e size v n xs)
  (ad:Addr) (m c:Nat) (news:List Value) (hx:a.eval x= .slice (some ad) m c) (hn:news.length=m * size) (hc: ∀j u,news[j]?=some u->w.cell? (ad.add j)=some u) (h1c: ∀u∈news,u.oneCell'=true)
  (b1:n+m<=maxLen) (b2:(n+m) * bytes<=140737488355328) (hb:base<=w.heap.size)
  (hK: ∀v' w',w'.ownsRow base e size v' (n+m) (xs++news)->w.grownBy w' v.ownBlock->K (a.put o.dst v') w'):
  if Region.wanted o (yielded ops a.tmps)=true then Oper.wp P o a w K Q else E:=by
 have hw:Region.wanted o (yielded ops a.tmps)=true:=by simp[Region.wanted,hg]
 rw[if_pos hw]
 obtain ⟨v',w',hrun,r1,r2,_⟩:=run_append_own (P:=P) w base t o.type e i z size bytes h1 h2 h3 h4 h5 h6 h7 v n xs hown ad m c news hn hc h1c b1 b2 hb
 unfold Oper.wp
 simp[execOp,hop,resolve,invoke,builtin,hs,hx,hrun,Result.andThen]
 exact hK v' w' r1 r2
def q0D (l:List UInt8):List Value:=l.map fun b=> .int .u8 (b.toNat:Int)
theorem q33 (a b:List UInt8):q0D (a++b)=q0D a++q0D b:=by unfold q0D;exact List.map_append
theorem q0W (a:List UInt8):(q0D a).length=a.length:=by unfold q0D;exact List.length_map ..
theorem q97 (s:ByteArray):Lib.strCells s=q0D s.data.toList:=by
 unfold Lib.strCells q0D;rfl
theorem q96 (n:Nat)(h:n<256):[Value.int .u8 (n:Int)]=q0D [UInt8.ofNat n]:=by
 unfold q0D;simp[Nat.mod_eq_of_lt h]
def q0A (b:UInt8):Bool:=decide (97<=b.toNat) && decide (b.toNat<=122)
def q07 (b:UInt8):Bool:=decide (48<=b.toNat) && decide (b.toNat<=57)
def q09 (b:UInt8):Bool:=decide (b.toNat=32)||decide (b.toNat=10)
def q0h (b:UInt8):Bool:=q0A b||q07 b
def isIn (b:UInt8):Bool:= !(decide (b.toNat=39)||decide (b.toNat=10))
def spn (p:UInt8->Bool):List UInt8->Nat
 |[]=>0
 |b::r=>if p b then spn p r+1 else 0
theorem q19 (p:UInt8->Bool)(l:List UInt8):spn p l<=l.length:=by
 induction l with
 |nil=>exact zM _
 |cons b r ih=>rw[spn];split <;> simp <;> omega
theorem q25 {p:UInt8->Bool}{l:List UInt8}{k:Nat}(h:k<=spn p l)(hk:k<l.length)(hp:p l[k]=true):k+1<=spn p l:=by
 induction l generalizing k with
 |nil=>simp at hk
 |cons b r ih=>
  rw[spn]at h ⊢
  cases k with
  |zero=>simp at hp;rw[if_pos hp];omega
  |succ k=>
   split at h
   ·rename_i hb
    rw[if_pos hb]
    have:=ih (k:=k) (by omega) (by simpa using hk) (by simpa using hp)
    omega
   ·omega
theorem q1C {p:UInt8->Bool}{l:List UInt8}{k:Nat}(h:k<=spn p l)(hp: ∀hk:k<l.length,p l[k]=false):k=spn p l:=by
 induction l generalizing k with
 |nil=>simp[spn]at h ⊢;exact h
 |cons b r ih=>
  rw[spn]at h ⊢
  cases k with
  |zero=>have:=hp (by simp);simp at this;rw[if_neg (by simp[this])]
  |succ k=>
   split at h
   ·rename_i hb
    rw[if_pos hb]
    have:=ih (k:=k) (by omega) (fun hk=>hp (by simpa using hk))
    omega
   ·omega
theorem q2R (p:UInt8->Bool)(l:List UInt8)(k:Nat):spn p (l.take k)=min (spn p l) k:=by
 induction l generalizing k with
 |nil=>simp[spn]
 |cons b r ih=>
  cases k with
  |zero=>simp[spn]
  |succ k=>
   rw[List.take_succ_cons,spn,spn]
   split
   ·rw[ih];omega
   ·omega
theorem q3U {p:UInt8->Bool}{a b:List UInt8}(h:spn p a=a.length):spn p (a++b)=a.length+spn p b:=by
 induction a with
 |nil=>simp
 |cons c r ih=>
  rw[spn]at h
  split at h
  ·rename_i hc
   rw[List.cons_append,spn,if_pos hc,ih (by simpa using h)]
   simp;omega
  ·simp at h
theorem qeT {p:UInt8->Bool}{a b:List UInt8}(h:spn p a<a.length):spn p (a++b)=spn p a:=by
 induction a with
 |nil=>simp at h
 |cons c r ih=>
  rw[spn]at h
  rw[List.cons_append,spn,spn]
  split
  ·rename_i hc
   rw[if_pos hc]at h
   rw[ih (by simpa using h)]
  ·rfl
theorem q86 {p:UInt8->Bool}{l:List UInt8}: ∀x∈l.take (spn p l),p x=true:=by
 induction l with
 |nil=>simp
 |cons b r ih=>
  rw[spn]
  split
  ·rename_i hb
   rw[List.take_succ_cons]
   intro x hx
   rcases zH.1 hx with rfl|hx
   ·exact hb
   ·exact ih x hx
  ·simp
theorem q3T {p:UInt8->Bool}{l:List UInt8}:spn p (l.drop (spn p l))=0:=by
 induction l with
 |nil=>rfl
 |cons b r ih=>
  by_cases hb:p b=true
  ·rw[spn,if_pos hb,List.drop_succ_cons];exact ih
  ·rw[spn,if_neg hb,List.drop_zero,spn,if_neg hb]
def dst (a:Nat)(c:UInt8):Nat:=a * 10+(c.toNat-48)
def dvl (a:Nat)(l:List UInt8):Nat:=l.foldl dst a
theorem q2r (a:Nat):dvl a []=a:=by unfold dvl;rw[List.foldl_nil]
theorem q1w (a:Nat)(c:UInt8)(r:List UInt8):dvl a (c::r)=dvl (a * 10+(c.toNat-48)) r:=by unfold dvl;rw[List.foldl_cons,dst]
theorem qaW (a:Nat)(l:List UInt8)(c:UInt8):dvl a (l++[c])=dvl a l * 10+(c.toNat-48):=by
 induction l generalizing a with
 |nil=>rw[List.nil_append,q1w,q2r,q2r]
 |cons b r ih=>rw[List.cons_append,q1w,ih,q1w]
theorem q9e (a:Nat)(l:List UInt8):a<=dvl a l:=by
 induction l generalizing a with
 |nil=>rw[q2r];exact zM _
 |cons b r ih=>rw[q1w];have:=ih (a * 10+(b.toNat-48));omega
theorem q2q (c:UInt8):q07 c=true↔48<=c.toNat/\c.toNat<=57:=by unfold q07;simp
theorem q9f (l:List UInt8)(a:Nat)(hl: ∀x∈l,q07 x=true)(ha:a<=18446744073709551615):
  Lib.parseUintM 18446744073709551615 a l=if dvl a l<=18446744073709551615 then .ok (dvl a l) else .range:=by
 induction l generalizing a with
 |nil=>rw[Lib.parseUintM,q2r,if_pos ha]
 |cons c r ih=>
  have hc:=(q2q c).1 (hl c (by simp))
  have hg:=q9e (a * 10+(c.toNat-48)) r
  rw[Lib.parseUintM,if_pos hc,q1w]
  split
  ·rw[if_neg (by omega)]
  ·split
   ·rw[if_neg (by omega)]
   ·exact ih _ (fun x hx=>hl x (by simp[hx])) (by omega)
theorem q7z (l:List UInt8)(hl: ∀x∈l,q07 x=true)(h0:l≠[]):Lib.parseIntB 64 l=if 9223372036854775807<dvl 0 l then .range else .ok (dvl 0 l:Int):=by
 cases l with
 |nil=>exact absurd rfl h0
 |cons c r=>
  have hc:=(q2q c).1 (hl c (by simp))
  rw[Lib.parseIntB_plain 64 c r (by omega) (by omega),Lib.parseUintB,if_neg (by simp),show (2:Nat) ^ 64-1=18446744073709551615 by decide,q9f _ 0 hl (by omega)]
  split
  ·unfold Lib.signlessC
   dsimp only
   by_cases h:9223372036854775807<dvl 0 (c::r)
   ·rw[if_pos h,if_pos (by omega)]
   ·rw[if_neg h,if_neg (by omega)]
  ·rw[if_pos (by omega)]
   rfl
theorem qaV (l:List UInt8)(hl: ∀x∈l,q07 x=true)(h0:l≠[])(hz:l.head?=some 48->l.length=1):Lib.decDigits (dvl 0 l)=l:=by
 induction h:l.length using Nat.strongRecOn generalizing l with
 |_ n ih=>
  obtain ⟨r,c,rfl⟩: ∃r c,l=r++[c]:=⟨l.dropLast,l.getLast h0,(List.dropLast_concat_getLast h0).symm⟩
  have hc:=(q2q c).1 (hl c (by simp))
  have hcc:UInt8.ofNat (48+(c.toNat-48))=c:=by rw[show 48+(c.toNat-48)=c.toNat by omega];simp
  rw[qaW]
  cases r with
  |nil=>
   rw[q2r,Nat.zero_mul,Nat.zero_add,Lib.decDigits_one (by omega),hcc];rfl
  |cons d r=>
   have hd:=(q2q d).1 (hl d (by simp))
   have hd0:d.toNat≠48:=fun e=>by
    have:=hz (by simp;exact UInt8.toNat_inj.1 e)
    simp at this
   have h1:=ih (d::r).length (by rw[<-h];simp) (d::r) (fun x hx=>hl x (by simp at hx ⊢;rcases hx with h|h <;> simp[h])) (by simp) (fun e=>by simp at e;subst e;exact absurd rfl hd0) rfl
   have hg:1<=dvl 0 (d::r):=by
    rw[q1w]
    have:=q9e (0 * 10+(d.toNat-48)) r
    omega
   rw[Lib.decDigits,dif_neg (by omega),show (dvl 0 (d::r) * 10+(c.toNat-48)) / 10=dvl 0 (d::r) by omega,show (dvl 0 (d::r) * 10+(c.toNat-48)) % 10=c.toNat-48 by omega,h1,hcc]
structure Tk where
 kd:Int
 s:ByteArray
 n:Int
 pl:Int
def txt (l:List UInt8):ByteArray:=⟨l.toArray⟩
theorem q0y (l:List UInt8):(txt l).data.toList=l:=rfl
theorem q0k (l:List UInt8):(txt l).size=l.length:=rfl
theorem q0z (b:ByteArray):txt b.data.toList=b:=by unfold txt;simp
def tkEq (a b:Tk):Bool:=a.kd==b.kd && (a.s.data.toList==b.s.data.toList && (a.n==b.n && a.pl==b.pl))
theorem q3W (a b:Tk):tkEq a b=true↔a=b:=by
 obtain ⟨k,s,n,p⟩:=a
 obtain ⟨k',s',n',p'⟩:=b
 unfold tkEq
 simp only[Bool.and_eq_true,beq_iff_eq,Tk.mk.injEq]
 constructor
 ·rintro ⟨h1,h2,h3,h4⟩
  exact ⟨h1,by rw[<-q0z s, <-q0z s',h2],h3,h4⟩
 ·rintro ⟨h1,h2,h3,h4⟩
  exact ⟨h1,by rw[h2],h3,h4⟩
def tkW (l:List UInt8):Option (Tk × Nat):=if 32<spn q0h l then none else some (⟨1,txt (l.take (spn q0h l)),0,0⟩,spn q0h l)
def tkN (l:List UInt8):Option (Tk × Nat):=if l.head?=some 48/\1<spn q07 l then none else if 9223372036854775807<dvl 0 (l.take (spn q07 l)) then none else some (⟨2,txt [],(dvl 0 (l.take (spn q07 l)):Nat),0⟩,spn q07 l)
def tkT (r:List UInt8):Option (Tk × Nat):=if 256<spn isIn r then none else if (r.drop (spn isIn r)).head?=some 39 then some (⟨3,txt (r.take (spn isIn r)),0,0⟩,spn isIn r+2) else none
def q1N (b:UInt8):Bool:=decide (b.toNat=60)||decide (b.toNat=61)||decide (b.toNat=33)
def q47 (b:UInt8):Bool:=decide (b.toNat=60)||decide (b.toNat=61)||decide (b.toNat=58)||decide (b.toNat=59)||decide (b.toNat=46)||(decide (40<=b.toNat) && decide (b.toNat<=43))||decide (b.toNat=45)
def tkS (b:UInt8)(r:List UInt8):Option (Tk × Nat):=if q1N b=true/\r.head?=some 61 then some (⟨4,txt [b,61],0,0⟩,2) else if q47 b=true then some (⟨4,txt [b],0,0⟩,1) else none
def tkR:List UInt8->Option (Tk × Nat)
 |[]=>none
 |b::r=>if q0A b then tkW (b::r) else if q07 b then tkN (b::r) else if b.toNat=39 then tkT r else tkS b r
def q04 (t:Tk):List UInt8:=if t.kd=2 then Lib.itoa t.n else if t.kd=3 then 39::(t.s.data.toList++[39]) else t.s.data.toList
theorem q2C {k:Int}{s:ByteArray}{n p:Int}(h2:k≠2)(h3:k≠3):q04 ⟨k,s,n,p⟩=s.data.toList:=by unfold q04;rw[if_neg h2,if_neg h3]
theorem q85 {s:ByteArray}{n p:Int}:q04 ⟨3,s,n,p⟩=39::(s.data.toList++[39]):=by unfold q04;rw[if_neg (by dsimp only;omega),if_pos rfl]
theorem q84 {s:ByteArray}{n p:Int}:q04 ⟨2,s,n,p⟩=Lib.itoa n:=by unfold q04;rw[if_pos rfl]
theorem qbu (n:Nat):Lib.itoa (n:Int)=Lib.decDigits n:=by
 unfold Lib.itoa
 rw[if_neg (by omega),Int.toNat_natCast]
theorem q0o {l:List UInt8}{t:Tk}{n:Nat}(h:tkR l=some (t,n)):0<n/\n<=l.length/\q04 t=l.take n/\t.pl=0/\1<=t.kd/\t.kd<=4/\t.s.size<=256/\0<=t.n/\t.n<=9223372036854775807/\(∃b,l.head?=some b/\q09 b=false)/\(t.kd≠2->t.n=0):=by
 cases l with
 |nil=>cases h
 |cons b r=>
  rw[tkR]at h
  split at h
  ·rename_i hb
   have hal:q0h b=true:=by unfold q0h;simp[hb]
   have h1:1<=spn q0h (b::r):=by rw[spn,if_pos hal];omega
   have h2:=q19 q0h (b::r)
   unfold tkW at h
   split at h
   ·cases h
   ·simp only[Option.some.injEq,Prod.mk.injEq]at h
    obtain ⟨rfl,rfl⟩:=h
    refine ⟨h1,h2,?_,rfl,by dsimp only;omega,by dsimp only;omega,?_,by dsimp only;omega,by dsimp only;omega,⟨b,rfl,?_⟩,fun _=>rfl⟩
    ·rw[q2C (by omega) (by omega),q0y]
    ·rw[q0k,zL];omega
    ·unfold q0A at hb
     unfold q09
     simp at hb ⊢
     omega
  ·split at h
   ·rename_i hb
    have h1:1<=spn q07 (b::r):=by rw[spn,if_pos hb];omega
    have h2:=q19 q07 (b::r)
    unfold tkN at h
    split at h
    ·cases h
    ·rename_i hz
     split at h
     ·cases h
     ·rename_i hv
      simp only[Option.some.injEq,Prod.mk.injEq]at h
      obtain ⟨rfl,rfl⟩:=h
      refine ⟨h1,h2,?_,rfl,by dsimp only;omega,by dsimp only;omega,by rw[q0k];simp,by show (0:Int)<=((dvl 0 _:Nat):Int);omega,by show ((dvl 0 _:Nat):Int)<=_;omega,⟨b,rfl,?_⟩,fun e=>absurd rfl e⟩
      ·rw[q84]
       show Lib.itoa ((dvl 0 _:Nat):Int)=_
       rw[qbu]
       refine qaV _ q86 ?_ ?_
       ·intro e
        have:=congrArg List.length e
        rw[zL]at this
        simp only[List.length_nil]at this
        omega
       ·intro e
        rw[zL]
        have e2:(b::r).head?=some 48:=by
         obtain ⟨m,hm⟩: ∃m,spn q07 (b::r)=m+1:=⟨spn q07 (b::r)-1,by omega⟩
         rw[hm,List.take_succ_cons]at e
         exact e
        have: ¬ 1<spn q07 (b::r):=fun h3=>hz ⟨e2,h3⟩
        omega
      ·have:=(q2q b).1 hb
       unfold q09
       simp
       omega
   ·split at h
    ·rename_i hb
     unfold tkT at h
     split at h
     ·cases h
     ·split at h
      ·rename_i hlen hq
       simp only[Option.some.injEq,Prod.mk.injEq]at h
       obtain ⟨rfl,rfl⟩:=h
       have hlt:spn isIn r<r.length:=by
        rcases Nat.lt_or_ge (spn isIn r) r.length with h|h
        ·exact h
        ·rw[List.drop_eq_nil_of_le h]at hq;cases hq
       refine ⟨by omega,by simp;omega,?_,rfl,by dsimp only;omega,by dsimp only;omega,?_,by dsimp only;omega,by dsimp only;omega,⟨b,rfl,?_⟩,fun _=>rfl⟩
       ·rw[q85,q0y,List.take_succ_cons,show b=39 from UInt8.toNat_inj.1 hb,List.take_add_one]
        rw[List.head?_drop]at hq
        rw[hq]
        rfl
       ·rw[q0k,zL];omega
       ·unfold q09;simp;omega
      ·cases h
    ·rename_i hb
     unfold tkS at h
     split at h
     ·rename_i h2
      simp only[Option.some.injEq,Prod.mk.injEq]at h
      obtain ⟨rfl,rfl⟩:=h
      obtain ⟨ht,hh⟩:=h2
      cases r with
      |nil=>cases hh
      |cons c r=>
       simp at hh
       subst hh
       refine ⟨by omega,by simp,?_,rfl,by dsimp only;omega,by dsimp only;omega,by rw[q0k];simp,by dsimp only;omega,by dsimp only;omega,⟨b,rfl,?_⟩,fun _=>rfl⟩
       ·rw[q2C (by omega) (by omega),q0y]
        rfl
       ·unfold q1N at ht
        unfold q09
        simp at ht ⊢
        omega
     ·split at h
      ·rename_i h1
       simp only[Option.some.injEq,Prod.mk.injEq]at h
       obtain ⟨rfl,rfl⟩:=h
       refine ⟨by omega,by simp,?_,rfl,by dsimp only;omega,by dsimp only;omega,by rw[q0k];simp,by dsimp only;omega,by dsimp only;omega,⟨b,rfl,?_⟩,fun _=>rfl⟩
       ·rw[q2C (by omega) (by omega),q0y]
        rfl
       ·unfold q47 at h1
        unfold q09
        simp at h1 ⊢
        omega
      ·cases h
theorem q8a (l:List UInt8){n k:Nat}(h:n<=k):(l.take k).take n=l.take n:=by rw[List.take_take,Nat.min_eq_left h]
theorem qc6 {l:List UInt8}{t:Tk}{n k:Nat}(h:tkR l=some (t,n))(hk:n<=k):tkR (l.take k)=some (t,n):=by
 have h0:=(q0o h).1
 cases l with
 |nil=>cases h
 |cons b r=>
  obtain ⟨k,rfl⟩: ∃m,k=m+1:=⟨k-1,by omega⟩
  have hs:=fun p=>q2R p (b::r) (k+1)
  rw[List.take_succ_cons]at hs ⊢
  have htk: ∀m,m<=k+1->(b::r.take k).take m=(b::r).take m:=fun m hm=>by rw[<-List.take_succ_cons,q8a _ hm]
  rw[tkR]at h ⊢
  split at h
  ·rename_i hb
   rw[if_pos hb]
   unfold tkW at h ⊢
   split at h
   ·cases h
   ·rename_i h32
    simp only[Option.some.injEq,Prod.mk.injEq]at h
    obtain ⟨rfl,rfl⟩:=h
    rw[hs,Nat.min_eq_left hk,if_neg h32,htk _ hk]
  ·rename_i hb
   rw[if_neg hb]
   split at h
   ·rename_i hd
    rw[if_pos hd]
    unfold tkN at h ⊢
    split at h
    ·cases h
    ·rename_i hz
     split at h
     ·cases h
     ·rename_i hv
      simp only[Option.some.injEq,Prod.mk.injEq]at h
      obtain ⟨rfl,rfl⟩:=h
      rw[hs,Nat.min_eq_left hk,htk _ hk,if_neg (by simpa using hz),if_neg hv]
   ·rename_i hd
    rw[if_neg hd]
    split at h
    ·rename_i hq
     rw[if_pos hq]
     unfold tkT at h ⊢
     split at h
     ·cases h
     ·rename_i h256
      split at h
      ·rename_i hh
       simp only[Option.some.injEq,Prod.mk.injEq]at h
       obtain ⟨rfl,rfl⟩:=h
       rw[q2R,Nat.min_eq_left (by omega:spn isIn r<=k),if_neg h256,q8a _ (by omega:spn isIn r<=k),List.head?_drop,List.getElem?_take_of_lt (by omega:spn isIn r<k), <-List.head?_drop,if_pos hh]
      ·cases h
    ·rename_i hq
     rw[if_neg hq]
     unfold tkS at h ⊢
     split at h
     ·rename_i h2
      simp only[Option.some.injEq,Prod.mk.injEq]at h
      obtain ⟨rfl,rfl⟩:=h
      rw[if_pos ⟨h2.1,by
       obtain ⟨k,rfl⟩: ∃m,k=m+1:=⟨k-1,by omega⟩
       cases r with
       |nil=>exact h2.2
       |cons c r=>exact h2.2⟩]
     ·rename_i h2
      split at h
      ·rename_i h1
       simp only[Option.some.injEq,Prod.mk.injEq]at h
       obtain ⟨rfl,rfl⟩:=h
       rw[if_neg (fun h3=>h2 ⟨h3.1,by
        cases k with
        |zero=>simp at h3
        |succ k=>
         cases r with
         |nil=>exact h3.2
         |cons c r=>exact h3.2⟩),if_pos h1]
      ·cases h
def Gap (l:List UInt8):Prop:= ∀b,l.head?=some b->q09 b=true
theorem q4w (b:UInt8):q09 b=true↔b.toNat=32\/b.toNat=10:=by unfold q09;simp
theorem Gap.spn {l:List UInt8}(h:Gap l){p:UInt8->Bool}(hp: ∀b,q09 b=true->p b=false):spn p l=0:=by
 cases l with
 |nil=>rfl
 |cons b r=>rw[Go.Proofs.YtfgkikeeadlcfaaGreatDoor.spn,if_neg (by simp[hp b (h b rfl)])]
def Tk.out (t:Tk)(p:Int):Tk:={ t with pl:=p }
theorem q58 (t:Tk)(p:Int):q04 (t.out p)=q04 t:=rfl
def wrOk (t:Tk):Bool:=decide (t.s.size<=256) && (match tkR (q04 t)with|some (u,_)=>tkEq u (t.out 0)|none=>false)
theorem q3X (t:Tk):wrOk t=true↔t.s.size<=256/\tkR (q04 t)=some (t.out 0,(q04 t).length):=by
 unfold wrOk
 rw[Bool.and_eq_true,decide_eq_true_eq]
 constructor
 ·rintro ⟨h1,h2⟩
  refine ⟨h1,?_⟩
  split at h2
  ·rename_i u n hu
   obtain rfl:=(q3W _ _).1 h2
   obtain ⟨_,h3,h4,_⟩:=q0o hu
   rw[q58]at h4
   have:=congrArg List.length h4
   rw[zL]at this
   rw[hu,show n=(q04 t).length by omega]
  ·cases h2
 ·rintro ⟨h1,h2⟩
  rw[h2]
  exact ⟨h1,(q3W _ _).2 rfl⟩
theorem qcn (t:Tk)(p:Int):wrOk (t.out p)=wrOk t:=rfl
theorem qeU {l:List UInt8}{t:Tk}{n:Nat}(h:tkR l=some (t,n)):wrOk t=true:=by
 obtain ⟨_,h3,h4,h5,_,_,h6,_⟩:=q0o h
 rw[q3X]
 refine ⟨h6,?_⟩
 rw[h4,qc6 h (zM n),zL,Nat.min_eq_left h3,show t.out 0=t from by unfold Tk.out;rw[<-h5]]
inductive TR where
 |bad (k:Nat) (c:Int)
 |good (l:List Tk)
def TR.pre (a:List Tk):TR->TR
 | .bad k c=> .bad k c
 | .good l=> .good (a++l)
theorem TR.pre_pre (a b:List Tk)(x:TR):(x.pre b).pre a=x.pre (a++b):=by cases x <;> simp[TR.pre]
theorem TR.pre_nil (x:TR):x.pre []=x:=by cases x <;> simp[TR.pre]
def tkG:Nat->List UInt8->Nat->Nat->TR
 |0,_,_,_=> .good []
 |_+1,[],_,_=> .good []
 |f+1,b::r,k,c=>
  if q09 b then tkG f r (k+1) c else
  match tkR (b::r)with
  |none=> .bad k 100
  |some (t,n)=>if c=4096 then .bad k 2 else (tkG f ((b::r).drop n) (k+n) (c+1)).pre [t.out (k:Int)]
theorem qc5 (f g:Nat)(l:List UInt8)(k c:Nat)(hf:l.length<=f)(hg:l.length<=g):tkG f l k c=tkG g l k c:=by
 induction f generalizing g l k c with
 |zero=>
  obtain rfl:=List.eq_nil_of_length_eq_zero (Nat.le_zero.1 hf)
  cases g <;> rfl
 |succ f ih=>
  cases l with
  |nil=>cases g <;> rfl
  |cons b r=>
   cases g with
   |zero=>simp at hg
   |succ g=>
    simp only[List.length_cons]at hf hg
    rw[tkG,tkG]
    split
    ·exact ih g r (k+1) c (by omega) (by omega)
    ·split
     ·rfl
     ·rename_i t n h
      have h0:=(q0o h).1
      split
      ·rfl
      ·rw[ih g _ _ _ (by simp;omega) (by simp;omega)]
def toks (l:List UInt8)(k c:Nat):TR:=tkG l.length l k c
theorem q1D (k c:Nat):toks [] k c= .good []:=rfl
theorem q12 {b:UInt8}{r:List UInt8}{k c:Nat}(h:q09 b=true):toks (b::r) k c=toks r (k+1) c:=by
 unfold toks
 rw[List.length_cons,tkG,if_pos h]
theorem q1n {l:List UInt8}{k c:Nat}(h:tkR l=none)(h0:l≠[])(hb:spn q09 l=0):toks l k c= .bad k 100:=by
 cases l with
 |nil=>exact absurd rfl h0
 |cons b r=>
  have hb': ¬ q09 b=true:=fun e=>by rw[spn,if_pos e]at hb;omega
  unfold toks
  rw[List.length_cons,tkG,if_neg hb',h]
theorem q1m {l:List UInt8}{k:Nat}{t:Tk}{n:Nat}(h:tkR l=some (t,n)):toks l k 4096= .bad k 2:=by
 obtain ⟨_,_,_,_,_,_,_,_,_,⟨b,hb,hbk⟩,_⟩:=q0o h
 cases l with
 |nil=>cases hb
 |cons b r=>
  simp at hb
  subst hb
  unfold toks
  rw[List.length_cons,tkG,if_neg (by simp[hbk]),h]
  rfl
theorem q13 {l:List UInt8}{k c:Nat}{t:Tk}{n:Nat}(h:tkR l=some (t,n))(hc:c≠4096):toks l k c=(toks (l.drop n) (k+n) (c+1)).pre [t.out (k:Int)]:=by
 obtain ⟨h0,hl,_,_,_,_,_,_,_,⟨b,hb,hbk⟩,_⟩:=q0o h
 cases l with
 |nil=>cases hb
 |cons b r=>
  simp at hb
  subst hb
  unfold toks
  rw[List.length_cons,tkG,if_neg (by simp[hbk]),h]
  dsimp only
  rw[if_neg hc,qc5 r.length ((List.drop n (b::r)).length) _ _ _ (by simp;omega) (zM _)]
theorem q6J (l:List UInt8)(k c:Nat):toks l k c=toks (l.drop (spn q09 l)) (k+spn q09 l) c:=by
 induction l generalizing k with
 |nil=>rfl
 |cons b r ih=>
  by_cases h:q09 b=true
  ·rw[q12 h,ih,spn,if_pos h,List.drop_succ_cons,Nat.add_assoc,Nat.add_comm 1]
  ·rw[spn,if_neg h];rfl
theorem q7k (g l:List UInt8)(k c:Nat)(hg: ∀x∈g,q09 x=true):toks (g++l) k c=toks l (k+g.length) c:=by
 induction g generalizing k with
 |nil=>rfl
 |cons b r ih=>rw[List.cons_append,q12 (hg b (by simp)),ih _ (fun x hx=>hg x (by simp[hx])),List.length_cons,Nat.add_assoc,Nat.add_comm 1]
theorem q26 {P:List UInt8->Nat->Nat->Prop}(h0: ∀k c,P [] k c)(h1: ∀b r k c,q09 b=true->P r (k+1) c->P (b::r) k c)
  (h2: ∀l k c,l≠[]->spn q09 l=0->tkR l=none->P l k c) (h3: ∀l k t n,tkR l=some (t,n)->P l k 4096)
  (h4: ∀l k c t n,tkR l=some (t,n)->c≠4096->P (l.drop n) (k+n) (c+1)->P l k c): ∀l k c,P l k c:=by
 intro l
 induction hl:l.length using Nat.strongRecOn generalizing l with
 |_ m ih=>
  intro k c
  cases l with
  |nil=>exact h0 k c
  |cons b r=>
   by_cases hb:q09 b=true
   ·exact h1 b r k c hb (ih r.length (by rw[<-hl];simp) r rfl _ _)
   ·cases h:tkR (b::r)with
    |none=>exact h2 _ k c (by simp) (by rw[spn,if_neg hb]) h
    |some x=>
     obtain ⟨t,n⟩:=x
     have hn:=(q0o h).1
     by_cases hc:c=4096
     ·subst hc;exact h3 _ k t n h
     ·exact h4 _ k c t n h hc (ih _ (by rw[<-hl,List.length_drop];simp;omega) _ rfl _ _)
theorem q2N {a:List Tk}{x:TR}{ts:List Tk}(h:x.pre a= .good ts): ∃r,x= .good r/\ts=a++r:=by
 cases x with
 |bad k c=>cases h
 |good l=>exact ⟨l,rfl,by simpa [TR.pre] using h.symm⟩
theorem q4Q (l:List UInt8)(k c:Nat)(ts:List Tk)(h:toks l k c= .good ts)(hc:c<=4096):c+ts.length<=4096/\ ∀t∈ts,wrOk t=true:=by
 revert ts
 refine q26 (P:=fun l k c=> ∀ts,toks l k c= .good ts->c<=4096->c+ts.length<=4096/\ ∀t∈ts,wrOk t=true) ?_ ?_ ?_ ?_ ?_ l k c |> fun g ts h=>g ts h hc
 ·intro k c ts h hc
  rw[q1D]at h
  cases h
  exact ⟨by simpa using hc,by simp⟩
 ·intro b r k c hb ih ts h hc
  rw[q12 hb]at h
  exact ih ts h hc
 ·intro l k c h0 hb hn ts h
  rw[q1n hn h0 hb]at h
  cases h
 ·intro l k t n hn ts h
  rw[q1m hn]at h
  cases h
 ·intro l k c t n hn hc4 ih ts h hc
  rw[q13 hn hc4]at h
  obtain ⟨r,hr,rfl⟩:=q2N h
  obtain ⟨i1,i2⟩:=ih r hr (by omega)
  refine ⟨by simp;omega,fun u hu=>?_⟩
  simp at hu
  rcases hu with rfl|hu
  ·rw[qcn];exact qeU hn
  ·exact i2 u hu
def q0P (l:List Tk):List UInt8:=l.flatMap fun t=>32::q04 t
def q0i:List Tk->List UInt8
 |[]=>[]
 |t::r=>q04 t++q0P r
theorem q8V (l:List Tk)(t:Tk):q0P (l++[t])=q0P l++32::q04 t:=by unfold q0P;simp
theorem q8D (l:List Tk)(t:Tk):q0i (l++[t])=if l=[] then q04 t else q0i l++32::q04 t:=by
 cases l with
 |nil=>rw[if_pos rfl];unfold q0i q0P;simp
 |cons x r=>rw[if_neg (by simp),List.cons_append];show q04 x++q0P (r++[t])=(q04 x++q0P r)++32::q04 t;rw[q8V,List.append_assoc]
theorem qdC {a:List Tk}{x:TR}{p:Nat}{q:Int}(h:x.pre a= .bad p q):x= .bad p q:=by
 cases x with
 |bad k c=>exact h
 |good l=>cases h
structure Pt where
 kd:Int
 n:Int
 s:ByteArray
 st:ByteArray
 fl:Int
def sds (k:Int):Nat:=if 4<=k/\k<=12 then 2 else if k=13 then 1 else 0
theorem q22 (k:Int):sds k<=2:=by unfold sds;split;omega;split <;> omega
def stk {α:Type}(ev:Pt->List α->α):List Pt->Option (List α)
 |[]=>some []
 |p::r=>match stk ev r with
  |none=>none
  |some l=>if l.length<sds p.kd then none else some (ev p (l.take (sds p.kd))::l.drop (sds p.kd))
def fdX {α:Type}(ev:Pt->List α->α)(x:List Pt):Option α:=match stk ev x with
 |some [a]=>some a
 |_=>none
inductive Ex where
 |lf (p:Pt)
 |un (p:Pt) (a:Ex)
 |bi (p:Pt) (a b:Ex)
def Ex.flat:Ex->List Pt
 | .lf p=>[p]
 | .un p a=>p::a.flat
 | .bi p a b=>p::(a.flat++b.flat)
def Ex.wf:Ex->Prop
 | .lf p=>sds p.kd=0
 | .un p a=>sds p.kd=1/\a.wf
 | .bi p a b=>sds p.kd=2/\a.wf/\b.wf
def Ex.val {α:Type}(ev:Pt->List α->α):Ex->α
 | .lf p=>ev p []
 | .un p a=>ev p [a.val ev]
 | .bi p a b=>ev p [a.val ev,b.val ev]
theorem Ex.flat_pos (t:Ex):0<t.flat.length:=by cases t <;> simp[Ex.flat]
theorem qc3 {α:Type}(ev:Pt->List α->α)(t:Ex)(h:t.wf)(r:List Pt):stk ev (t.flat++r)=(stk ev r).map (t.val ev:: ·):=by
 induction t generalizing r with
 |lf p=>
  rw[Ex.wf]at h
  rw[Ex.flat,List.singleton_append,stk,Ex.val,h]
  cases stk ev r <;> simp
 |un p a ih=>
  rw[Ex.wf]at h
  rw[Ex.flat,List.cons_append,stk,ih h.2,Ex.val,h.1]
  cases stk ev r <;> simp
 |bi p a b iha ihb=>
  rw[Ex.wf]at h
  rw[Ex.flat,List.cons_append,List.append_assoc,stk,iha h.2.1,ihb h.2.2,Ex.val,h.1]
  cases stk ev r <;> simp
theorem q2S {α:Type}(ev:Pt->List α->α)(x:List Pt)(l:List α)(h:stk ev x=some l): ∃ts:List Ex,(∀t∈ts,t.wf)/\x=ts.flatMap Ex.flat/\l=ts.map (Ex.val ev):=by
 induction x generalizing l with
 |nil=>simp[stk]at h;exact ⟨[],by simp,by simp,by simp[h]⟩
 |cons p r ih=>
  rw[stk]at h
  cases hr:stk ev r with
  |none=>rw[hr]at h;cases h
  |some m=>
   rw[hr]at h
   dsimp only at h
   obtain ⟨ts,h1,h2,h3⟩:=ih m hr
   split at h
   ·cases h
   ·rename_i hn
    have hsd:=q22 p.kd
    simp only[Option.some.injEq]at h
    subst h
    subst h3
    rw[zI]at hn
    match hk:sds p.kd,ts,hn with
    |0,ts,_=>
     exact ⟨.lf p::ts,by intro t ht;rcases zH.1 ht with rfl|ht;exact hk;exact h1 t ht,by rw[List.flatMap_cons,h2];rfl,by simp[Ex.val]⟩
    |1,a::ts,_=>
     exact ⟨.un p a::ts,by intro t ht;rcases zH.1 ht with rfl|ht;exact ⟨hk,h1 a (by simp)⟩;exact h1 t (by simp[ht]),by rw[List.flatMap_cons,h2,List.flatMap_cons];rfl,by simp[Ex.val]⟩
    |2,a::b::ts,_=>
     exact ⟨.bi p a b::ts,by intro t ht;rcases zH.1 ht with rfl|ht;exact ⟨hk,h1 a (by simp),h1 b (by simp)⟩;exact h1 t (by simp[ht]),by rw[List.flatMap_cons,h2,List.flatMap_cons,List.flatMap_cons];simp[Ex.flat],by simp[Ex.val]⟩
    |1,[],hn=>simp at hn
    |2,[],hn=>simp at hn
    |2,[_],hn=>simp at hn
    |n+3,_,_=>omega
theorem q5J {α:Type}(ev:Pt->List α->α)(t:Ex)(h:t.wf):fdX ev t.flat=some (t.val ev):=by
 have:=qc3 ev t h []
 rw[List.append_nil]at this
 unfold fdX
 rw[this]
 rfl
theorem q5K {α:Type}{ev:Pt->List α->α}{x:List Pt}{a:α}(h:fdX ev x=some a): ∃t:Ex,t.wf/\x=t.flat/\a=t.val ev:=by
 unfold fdX at h
 split at h
 ·rename_i b hb
  obtain ⟨ts,h1,h2,h3⟩:=q2S ev x [b] hb
  match ts,h3 with
  |[t],h3=>
   simp at h3 h
   subst h
   exact ⟨t,h1 t (by simp),by rw[h2];simp,h3⟩
 ·cases h
def q05 (s:ByteArray):Bool:=s.size==0
def q1p (p:Pt):Bool:=decide (p.n=0) && (q05 p.s && (q05 p.st && decide (p.fl=0)))
def isTx (s:ByteArray):Bool:=decide (s.size<=256) && decide (spn isIn s.data.toList=s.size)
def fldW:List (List UInt8):=[[110,48],[110,49],[110,50],[110,51],[116,121,112,101],[116,101,120,116]]
def q0n (s:List UInt8):Int:=if s=[110,48] then 0 else if s=[110,49] then 1 else if s=[110,50] then 2 else if s=[110,51] then 3 else if s=[116,121,112,101] then 4 else if s=[116,101,120,116] then 5 else-1
def q1L (s:List UInt8):Bool:= !(decide (s=[111,114])||decide (s=[97,110,100])||decide (s=[110,111,116])) && decide (q0n s<0)
def isSg (s:ByteArray):Bool:=decide (0<s.size) && decide (s.size<=32) && (match s.data.toList.head? with|some b=>q0A b|none=>false) && decide (spn q0h s.data.toList=s.size) && q1L s.data.toList
def fldK (f:Int):Int:=if f=4\/f=5 then 2 else if 0<=f/\f<4 then 1 else 0
def lfK (p:Pt):Int:=
 if p.kd=1/\q05 p.s=true/\q05 p.st=true/\p.fl=0/\0<=p.n then 1
 else if p.kd=2/\p.n=0/\q05 p.st=true/\p.fl=0/\isTx p.s=true then 2
 else if p.kd=3/\p.n=0/\q05 p.s=true/\(q05 p.st=true\/isSg p.st=true) then fldK p.fl
 else 0
def opK (k a b:Int):Int:=
 if 4<=k/\k<=6 then (if a=1/\b=1 then 1 else 0)
 else if 7<=k/\k<=8 then (if a=1/\b=1 then 3 else 0)
 else if 9<=k/\k<=10 then (if a=b/\(a=1\/a=2) then 3 else 0)
 else if 11<=k/\k<=12 then (if a=3/\b=3 then 3 else 0)
 else if k=13 then (if a=3 then 3 else 0)
 else 0
structure Sh where
 kd:Int
 dp:Int
def shp (p:Pt):List Sh->Sh
 |[]=>⟨lfK p,1⟩
 |[a]=>⟨if q1p p then opK p.kd a.kd 0 else 0,1+max a.dp 0⟩
 |a::b::_=>⟨if q1p p then opK p.kd a.kd b.kd else 0,1+max a.dp b.dp⟩
def ckK (x:List Pt):Int:=if 200<x.length then 0 else match fdX shp x with
 |some s=>if s.dp > 32 then 0 else s.kd
 |none=>0
def Ex.kd (t:Ex):Int:=(t.val shp).kd
def Ex.dp (t:Ex):Int:=(t.val shp).dp
theorem qaQ {x:List Pt}(h:ckK x≠0): ∃t:Ex,t.wf/\x=t.flat/\t.kd=ckK x/\t.dp<=32/\x.length<=200:=by
 unfold ckK at h ⊢
 split at h
 ·exact absurd rfl h
 ·rename_i hl
  rw[if_neg hl]
  cases hf:fdX shp x with
  |none=>rw[hf]at h;exact absurd rfl h
  |some s=>
   rw[hf]at h
   dsimp only at h ⊢
   split at h
   ·exact absurd rfl h
   ·rename_i hd
    obtain ⟨t,h1,h2,h3⟩:=q5K hf
    subst h3
    rw[if_neg hd]
    exact ⟨t,h1,h2,rfl,by unfold Ex.dp;omega,by omega⟩
theorem q54 (k a b:Int):opK k a b=0\/opK k a b=1\/opK k a b=3:=by
 unfold opK
 repeat' split
 all_goals simp
theorem q9L (p:Pt):lfK p=0\/lfK p=1\/lfK p=2:=by
 unfold lfK fldK
 repeat' split
 all_goals simp
theorem qeO (p:Pt)(l:List Sh):0<=(shp p l).kd/\(shp p l).kd<=3:=by
 unfold shp
 split
 ·have:=q9L p;dsimp only;omega
 ·dsimp only;split
  ·have:=q54 p.kd (by assumption:Sh).kd 0;omega
  ·omega
 ·dsimp only;split
  ·rename_i a b _ _;have:=q54 p.kd a.kd b.kd;omega
  ·omega
theorem Ex.kd_range (t:Ex):0<=t.kd/\t.kd<=3:=by cases t <;> exact qeO _ _
theorem Ex.dp_pos (t:Ex):1<=t.dp:=by
 induction t with
 |lf p=>exact Int.le_refl _
 |un p a ih=>show 1<=1+max a.dp 0;omega
 |bi p a b ih _=>show 1<=1+max a.dp b.dp;omega
def Ex.dn:Ex->Nat
 | .lf _=>1
 | .un _ a=>a.dn+1
 | .bi _ a b=>max a.dn b.dn+1
theorem Ex.dp_dn (t:Ex):t.dp=(t.dn:Int):=by
 induction t with
 |lf p=>rfl
 |un p a ih=>show 1+max a.dp 0=((a.dn+1:Nat):Int);rw[ih];omega
 |bi p a b iha ihb=>show 1+max a.dp b.dp=((max a.dn b.dn+1:Nat):Int);rw[iha,ihb];omega
def wdT (t:Tk):List UInt8:=if t.kd=1\/t.kd=4 then t.s.data.toList else []
def sgO (k:Int):List UInt8:=if k=4 then [43] else if k=5 then [45] else if k=6 then [42] else if k=7 then [60] else if k=8 then [60,61] else if k=9 then [61,61] else if k=10 then [33,61] else if k=11 then [97,110,100] else if k=12 then [111,114] else if k=13 then [110,111,116] else []
def lvO (n:Nat):List Int:=if n=0 then [12] else if n=1 then [11] else if n=2 then [13] else if n=3 then [7,8,9,10] else if n=4 then [4,5] else if n=5 then [6] else []
def opA (n:Nat)(s:List UInt8):Option Int:=(lvO n).find? fun k=>decide (s=sgO k)
def opP (k:Int):Pt:=⟨k,0,txt [],txt [],0⟩
inductive PR where
 |bad (r:List Tk)
 |good (x:List Pt) (r:List Tk)
def fdE (st:ByteArray):List Tk->PR
 |[]=> .bad []
 |c::r=>if 0<=q0n (wdT c) then .good [⟨3,0,txt [],st,q0n (wdT c)⟩] r else .bad (c::r)
def fdR (t:Tk)(r:List Tk):PR:=if q1L (wdT t) then (match r with
  |[]=> .bad []
  |c::q=>if wdT c=[46] then fdE t.s q else .bad (c::q))
 else fdE (txt []) (t::r)
def shut (x:List Pt):List Tk->PR
 |[]=> .bad []
 |c::q=>if wdT c=[41] then .good x q else .bad (c::q)
def pRd:Nat->Nat->Nat->List Pt->List Tk->PR
 |0,_,_,_,ts=> .bad ts
 |_+1,_,_,_,[]=> .bad []
 |f+1,m,d,acc,t::r=>
  if m=6 then
   (if t.kd=2 then .good [⟨1,t.n,txt [],txt [],0⟩] r
    else if t.kd=3 then .good [⟨2,0,t.s,txt [],0⟩] r
    else if t.kd=1 then fdR t r
    else if wdT t=[40] then (if d+1<=200 then (match pRd f 0 (d+1) [] r with
      | .bad q=> .bad q
      | .good x q=>shut x q) else .bad r)
    else .bad (t::r))
  else if m=2 then
   (match opA 2 (wdT t)with
    |some k=>if d+1<=200 then (match pRd f 2 (d+1) [] r with
      | .bad q=> .bad q
      | .good x q=> .good (opP k::x) q) else .bad r
    |none=>pRd f 3 d [] (t::r))
  else if m=3 then
   (match pRd f 4 d [] (t::r)with
    | .bad q=> .bad q
    | .good x q=>match q with
     |[]=> .bad []
     |c::q'=>match opA 3 (wdT c)with
      |none=> .good x (c::q')
      |some k=>match pRd f 4 d [] q' with
       | .bad s=> .bad s
       | .good y s=> .good (opP k::(x++y)) s)
  else if m<6 then
   (match pRd f (m+1) d [] (t::r)with
    | .bad q=> .bad q
    | .good x q=>pRd f (m+10) d x q)
  else
   (match opA (m-10) (wdT t)with
    |none=> .good acc (t::r)
    |some k=>match pRd f (m-10+1) d [] r with
     | .bad q=> .bad q
     | .good y q=>pRd f m d (opP k::(acc++y)) q)
def mRd (m:Nat)(ts:List Tk):Nat:=if m<=6 then 8 * ts.length+7-m else 8 * ts.length+8
def Endd (ts:List Tk):Prop:= ∃a e,ts=a++[e]/\e.kd=0
theorem Endd.ne {ts:List Tk}(h:Endd ts):ts≠[]:=by obtain ⟨a,e,rfl,_⟩:=h;simp
theorem Endd.tail {t:Tk}{r:List Tk}(h:Endd (t::r))(ht:t.kd≠0):Endd r:=by
 obtain ⟨a,e,h1,h2⟩:=h
 cases a with
 |nil=>simp at h1;exact absurd (by rw[h1.1];exact h2) ht
 |cons b a=>simp at h1;exact ⟨a,e,h1.2,h2⟩
theorem q0R {t:Tk}(h:wdT t≠[]):t.kd≠0:=fun e=>h (by unfold wdT;rw[if_neg (by omega)])
theorem qeM {k:Int}{n:Nat}(h:k∈lvO n):sgO k≠[]:=by
 unfold lvO at h
 repeat' split at h
 all_goals simp at h
 all_goals (first|(rcases h with rfl|rfl|rfl|rfl <;> decide)|(rcases h with rfl|rfl <;> decide)|(subst h;decide))
theorem q6b {n:Nat}{s:List UInt8}{k:Int}(h:opA n s=some k):k∈lvO n/\s=sgO k:=by
 unfold opA at h
 have h1:=List.find?_some h
 exact ⟨List.mem_of_find?_eq_some h,by simpa using h1⟩
theorem q2w {n:Nat}{t:Tk}{k:Int}(h:opA n (wdT t)=some k):t.kd≠0:=by
 obtain ⟨h1,h2⟩:=q6b h
 exact q0R (by rw[h2];exact qeM h1)
theorem q9p:q0n []= -1:=by decide
def PRok (b:Nat)(ts:List Tk):PR->Prop
 | .bad r=>Endd r/\r.length<=ts.length
 | .good x r=>Endd r/\x.length+r.length<=ts.length+b/\r.length<=ts.length
theorem q9i (st:ByteArray)(ts:List Tk)(h:Endd ts):PRok 0 ts (fdE st ts)/\ ∀x r,fdE st ts= .good x r->r.length<ts.length:=by
 cases ts with
 |nil=>exact absurd rfl h.ne
 |cons c r=>
  rw[fdE]
  split
  ·rename_i hf
   have hc:c.kd≠0:=q0R (fun e=>by rw[e,q9p]at hf;omega)
   exact ⟨⟨h.tail hc,by simp;omega,by simp⟩,fun x q e=>by cases e;simp⟩
  ·exact ⟨⟨h,zM _⟩,fun x q e=>by cases e⟩
theorem qe8 (t:Tk)(r:List Tk)(h:Endd (t::r))(ht:t.kd≠0):PRok 0 (t::r) (fdR t r)/\ ∀x q,fdR t r= .good x q->q.length<(t::r).length:=by
 unfold fdR
 split
 ·have hr:=h.tail ht
  cases r with
  |nil=>exact absurd rfl hr.ne
  |cons c q=>
   dsimp only
   split
   ·rename_i hc
    have hq:=hr.tail (q0R (by rw[hc];simp))
    obtain ⟨h1,h2⟩:=q9i t.s q hq
    refine ⟨?_,fun x s e=>by have:=h2 x s e;simp;omega⟩
    cases hE:fdE t.s q with
    |bad s=>rw[hE]at h1;exact ⟨h1.1,by have:=h1.2;simp;omega⟩
    |good x s=>rw[hE]at h1;exact ⟨h1.1,by have:=h1.2.1;simp;omega,by have:=h1.2.2;simp;omega⟩
   ·exact ⟨⟨hr,by simp⟩,fun x s e=>by cases e⟩
 ·exact q9i (txt []) (t::r) h
theorem qdL (x:List Pt)(q:List Tk)(h:Endd q):PRok x.length q (shut x q)/\ ∀y s,shut x q= .good y s->s.length<q.length/\y=x:=by
 cases q with
 |nil=>exact absurd rfl h.ne
 |cons c q=>
  rw[shut]
  split
  ·rename_i hc
   exact ⟨⟨h.tail (q0R (by rw[hc];simp)),by simp;omega,by simp⟩,fun y s e=>by cases e;simp⟩
  ·exact ⟨⟨h,zM _⟩,fun y s e=>by cases e⟩
theorem q2z (f:Nat): ∀(m d:Nat) (acc:List Pt) (ts:List Tk),Endd ts->PRok (if m<=6 then 0 else acc.length) ts (pRd f m d acc ts)/\(m<=6-> ∀x r,pRd f m d acc ts= .good x r->r.length<ts.length):=by
 induction f with
 |zero=>intro m d acc ts h;rw[pRd];exact ⟨⟨h,zM _⟩,fun _ x r e=>by cases e⟩
 |succ f ih=>
  intro m d acc ts h
  cases ts with
  |nil=>exact absurd rfl h.ne
  |cons t r=>
   rw[pRd]
   by_cases h6:m=6
   ·subst h6
    rw[if_pos rfl,if_pos (by omega)]
    by_cases hk2:t.kd=2
    ·rw[if_pos hk2]
     exact ⟨⟨h.tail (by omega),by simp;omega,by simp⟩,fun _ x q e=>by cases e;simp⟩
    rw[if_neg hk2]
    by_cases hk3:t.kd=3
    ·rw[if_pos hk3]
     exact ⟨⟨h.tail (by omega),by simp;omega,by simp⟩,fun _ x q e=>by cases e;simp⟩
    rw[if_neg hk3]
    by_cases hk1:t.kd=1
    ·rw[if_pos hk1]
     obtain ⟨h1,h2⟩:=qe8 t r h (by omega)
     exact ⟨h1,fun _=>h2⟩
    rw[if_neg hk1]
    by_cases hp:wdT t=[40]
    ·rw[if_pos hp]
     have hr:=h.tail (q0R (by rw[hp];simp))
     split
     ·obtain ⟨h1,h2⟩:=ih 0 (d+1) [] r hr
      cases hE:pRd f 0 (d+1) [] r with
      |bad q=>rw[hE]at h1;exact ⟨⟨h1.1,by have:=h1.2;simp;omega⟩,fun _ x s e=>by cases e⟩
      |good x q=>
       rw[hE]at h1
       rw[if_pos (by omega)]at h1
       obtain ⟨e1,e2,e3⟩:=h1
       obtain ⟨g1,g2⟩:=qdL x q e1
       dsimp only
       cases hS:shut x q with
       |bad s=>rw[hS]at g1;exact ⟨⟨g1.1,by have:=g1.2;simp;omega⟩,fun _ x s e=>by cases e⟩
       |good y s=>
        rw[hS]at g1
        obtain ⟨k1,k2⟩:=g2 y s hS
        subst k2
        exact ⟨⟨g1.1,by simp;omega,by simp;omega⟩,fun _ x s' e=>by cases e;simp;omega⟩
     ·exact ⟨⟨hr,by simp⟩,fun _ x s e=>by cases e⟩
    ·rw[if_neg hp]
     exact ⟨⟨h,zM _⟩,fun _ x s e=>by cases e⟩
   rw[if_neg h6]
   by_cases h2:m=2
   ·subst h2
    rw[if_pos rfl,if_pos (by omega)]
    cases ho:opA 2 (wdT t)with
    |some k=>
     dsimp only
     have hr:=h.tail (q2w ho)
     split
     ·obtain ⟨h1,h3⟩:=ih 2 (d+1) [] r hr
      rw[if_pos (by omega)]at h1
      cases hE:pRd f 2 (d+1) [] r with
      |bad q=>rw[hE]at h1;exact ⟨⟨h1.1,by have:=h1.2;simp;omega⟩,fun _ x s e=>by cases e⟩
      |good x q=>
       rw[hE]at h1
       obtain ⟨e1,e2,e3⟩:=h1
       exact ⟨⟨e1,by simp;omega,by simp;omega⟩,fun _ y s e=>by cases e;simp;omega⟩
     ·exact ⟨⟨hr,by simp⟩,fun _ x s e=>by cases e⟩
    |none=>
     dsimp only
     have:=ih 3 d [] (t::r) h
     rw[if_pos (by omega)]at this
     exact ⟨this.1,fun _=>this.2 (by omega)⟩
   rw[if_neg h2]
   by_cases h3:m=3
   ·subst h3
    rw[if_pos rfl,if_pos (by omega)]
    obtain ⟨h1,hl⟩:=ih 4 d [] (t::r) h
    rw[if_pos (by omega)]at h1
    cases hE:pRd f 4 d [] (t::r)with
    |bad q=>rw[hE]at h1;exact ⟨h1,fun _ x s e=>by cases e⟩
    |good x q=>
     have hl:=hl (by omega) x q hE
     rw[hE]at h1
     obtain ⟨e1,e2,e3⟩:=h1
     cases q with
     |nil=>exact absurd rfl e1.ne
     |cons c q=>
      dsimp only
      cases ho:opA 3 (wdT c)with
      |none=>exact ⟨⟨e1,by omega,by omega⟩,fun _ y s e=>by cases e;exact hl⟩
      |some k=>
       dsimp only
       have hq:=e1.tail (q2w ho)
       obtain ⟨g1,gl⟩:=ih 4 d [] q hq
       rw[if_pos (by omega)]at g1
       cases hG:pRd f 4 d [] q with
       |bad s=>rw[hG]at g1;exact ⟨⟨g1.1,by have:=g1.2;simp at *;omega⟩,fun _ x s e=>by cases e⟩
       |good y s=>
        rw[hG]at g1
        obtain ⟨k1,k2,k3⟩:=g1
        exact ⟨⟨k1,by simp at *;omega,by simp at *;omega⟩,fun _ z s' e=>by cases e;simp at *;omega⟩
   rw[if_neg h3]
   by_cases hlt:m<6
   ·rw[if_pos hlt,if_pos (by omega)]
    obtain ⟨h1,hl⟩:=ih (m+1) d [] (t::r) h
    rw[if_pos (by omega)]at h1
    cases hE:pRd f (m+1) d [] (t::r)with
    |bad q=>rw[hE]at h1;exact ⟨h1,fun _ x s e=>by cases e⟩
    |good x q=>
     have hl:=hl (by omega) x q hE
     rw[hE]at h1
     obtain ⟨e1,e2,e3⟩:=h1
     dsimp only
     obtain ⟨g1,_⟩:=ih (m+10) d x q e1
     rw[if_neg (by omega)]at g1
     cases hG:pRd f (m+10) d x q with
     |bad s=>rw[hG]at g1;exact ⟨⟨g1.1,by have:=g1.2;omega⟩,fun _ x s e=>by cases e⟩
     |good y s=>
      rw[hG]at g1
      obtain ⟨k1,k2,k3⟩:=g1
      exact ⟨⟨k1,by omega,by omega⟩,fun _ z s' e=>by cases e;omega⟩
   ·rw[if_neg hlt,if_neg (by omega)]
    refine ⟨?_,fun hm=>by omega⟩
    cases ho:opA (m-10) (wdT t)with
    |none=>exact ⟨h,by omega,by omega⟩
    |some k=>
     dsimp only
     have hr:=h.tail (q2w ho)
     obtain ⟨h1,_⟩:=ih (m-10+1) d [] r hr
     cases hE:pRd f (m-10+1) d [] r with
     |bad q=>rw[hE]at h1;exact ⟨h1.1,by have:=h1.2;simp;omega⟩
     |good y q=>
      rw[hE]at h1
      obtain ⟨e1,e2,e3⟩:=h1
      have e2':y.length+q.length<=r.length:=by split at e2 <;> simpa using e2
      dsimp only
      obtain ⟨g1,_⟩:=ih m d (opP k::(acc++y)) q e1
      rw[if_neg (by omega)]at g1
      cases hG:pRd f m d (opP k::(acc++y)) q with
      |bad s=>rw[hG]at g1;exact ⟨g1.1,by have:=g1.2;simp at *;omega⟩
      |good z s=>
       rw[hG]at g1
       obtain ⟨k1,k2,k3⟩:=g1
       exact ⟨k1,by simp at *;omega,by simp at *;omega⟩
theorem q0M {s:ByteArray}(h:q05 s=true):s=txt []:=by
 unfold q05 at h
 have:s.size=0:=by simpa using h
 rw[<-q0z s]
 congr 1
 exact List.eq_nil_of_length_eq_zero this
theorem qcU {f:Int}(h:fldK f≠0):0<=f/\f<=5:=by unfold fldK at h;split at h;omega;split at h;omega;exact absurd rfl h
theorem q9K {p:Pt}(h:lfK p≠0):(p.kd=1/\0<=p.n/\p=⟨1,p.n,txt [],txt [],0⟩)\/(p.kd=2/\isTx p.s=true/\p=⟨2,0,p.s,txt [],0⟩)\/(p.kd=3/\0<=p.fl/\p.fl<=5/\(p.st=txt []\/isSg p.st=true)/\p=⟨3,0,txt [],p.st,p.fl⟩):=by
 obtain ⟨kd,n,s,st,fl⟩:=p
 unfold lfK at h
 dsimp only at h ⊢
 split at h
 ·rename_i h1
  obtain ⟨rfl,e1,e2,rfl,h5⟩:=h1
  rw[q0M e1,q0M e2]
  exact Or.inl ⟨rfl,h5,rfl⟩
 ·split at h
  ·rename_i h1
   obtain ⟨rfl,rfl,e2,rfl,h5⟩:=h1
   rw[q0M e2]
   exact Or.inr (Or.inl ⟨rfl,h5,rfl⟩)
  ·split at h
   ·rename_i h1
    obtain ⟨rfl,rfl,e2,h5⟩:=h1
    rw[q0M e2]
    obtain ⟨f1,f2⟩:=qcU h
    exact Or.inr (Or.inr ⟨rfl,f1,f2,h5.imp q0M id,rfl⟩)
   ·exact absurd rfl h
theorem q7s {p:Pt}(h:q1p p=true):p=opP p.kd:=by
 obtain ⟨kd,n,s,st,fl⟩:=p
 unfold q1p at h
 simp only[Bool.and_eq_true,decide_eq_true_eq]at h
 obtain ⟨rfl,e1,e2,rfl⟩:=h
 rw[q0M e1,q0M e2]
 rfl
def Ex.fine:Ex->Prop
 | .lf p=>lfK p≠0
 | .un p a=>p.kd=13/\p=opP 13/\a.fine
 | .bi p a b=>4<=p.kd/\p.kd<=12/\p=opP p.kd/\a.fine/\b.fine
theorem q6c (k b:Int):opK k 0 b=0:=by unfold opK;repeat' split <;> omega
theorem q9W (k a:Int)(h:k≠13):opK k a 0=0:=by unfold opK;repeat' split <;> omega
theorem q4L {k:Int}(h:sds k=2):4<=k/\k<=12:=by unfold sds at h;split at h;assumption;split at h <;> omega
theorem q4K {k:Int}(h:sds k=1):k=13:=by unfold sds at h;split at h;omega;split at h;assumption;omega
theorem Ex.fine_of (t:Ex)(hw:t.wf)(h:t.kd≠0):t.fine:=by
 induction t with
 |lf p=>exact h
 |un p a ih=>
  have hk:=q4K hw.1
  have h1:(if q1p p then opK p.kd a.kd 0 else 0)≠0:=h
  split at h1
  ·rename_i hb
   refine ⟨hk,by rw[<-hk];exact q7s hb,ih hw.2 fun e=>?_⟩
   rw[e,q6c]at h1
   exact h1 rfl
  ·exact absurd rfl h1
 |bi p a b iha ihb=>
  obtain ⟨k1,k2⟩:=q4L hw.1
  have h1:(if q1p p then opK p.kd a.kd b.kd else 0)≠0:=h
  split at h1
  ·rename_i hb
   refine ⟨k1,k2,q7s hb,iha hw.2.1 fun e=>?_,ihb hw.2.2 fun e=>?_⟩
   ·rw[e,q6c]at h1
    exact h1 rfl
   ·rw[e,q9W _ _ (by omega)]at h1
    exact h1 rfl
  ·exact absurd rfl h1
theorem q0Q {m:Nat}{ts:List Tk}(h:m<=6):mRd m ts=8 * ts.length+7-m:=by unfold mRd;rw[if_pos h]
def endZ (n:Nat):Tk:=⟨0,⟨#[]⟩,0,(n:Int)⟩
end Go.Proofs.YtfgkikeeadlcfaaGreatDoor
namespace Go.Proofs
open Go.Shelf
def Tryz.lays170_ren:Go.Shelf.Ren:=⟨fun|170=>151|n=>n,fun|70=>241|3=>3|0=>0|72=>243|37=>116|5=>5|n=>n,fun|n=>n⟩
theorem Tryz.lays170:Go.Proofs.Lays.n170 Tryz.prog Tryz.lays170_ren:={
 mixed:=by kernel_rfl
 f170:=Tryz.func151.trans (congrArg some (by kernel_rfl))
 t0:=Tryz.underlying0
 a0:=Tryz.isAgg0
 z0:=Tryz.sizeOf0
 v0:=Tryz.zeroValue0
 t3:=Tryz.underlying3
 a3:=Tryz.isAgg3
 z3:=Tryz.sizeOf3
 v3:=Tryz.zeroValue3
 t37:=Tryz.underlying116
 a37:=Tryz.isAgg116
 z37:=Tryz.sizeOf116
 v37:=Tryz.zeroValue116
 t70:=Tryz.underlying241
 a70:=Tryz.isAgg241
 z70:=Tryz.sizeOf241
 v70:=Tryz.zeroValue241
 t72:=Tryz.underlying243
 a72:=Tryz.isAgg243
 z72:=Tryz.sizeOf243
 v72:=Tryz.zeroValue243 }
open Go.RowKit in
theorem Tryz.Builder_Len (B b:Nat)(bs:List Value)(w:World)(h:Lib.IsBuilder 243 5 B b bs w):
  Calls Tryz.prog 151 #[.pointer (some ⟨b,0,none⟩)] w fun e w'=>e= .returned (.int .i64 bs.length)/\w'=w:=Any.Builder_Len Tryz.lays170 B b bs w h
def Tryz.lays169_ren:Go.Shelf.Ren:=⟨fun|169=>154|n=>n,fun|70=>241|9=>9|0=>0|72=>243|37=>116|127=>117|3=>3|5=>5|n=>n,fun|n=>n⟩
theorem Tryz.lays169:Go.Proofs.Lays.n169 Tryz.prog Tryz.lays169_ren:={
 mixed:=by kernel_rfl
 f169:=Tryz.func154.trans (congrArg some (by kernel_rfl))
 t0:=Tryz.underlying0
 a0:=Tryz.isAgg0
 z0:=Tryz.sizeOf0
 v0:=Tryz.zeroValue0
 t3:=Tryz.underlying3
 a3:=Tryz.isAgg3
 z3:=Tryz.sizeOf3
 v3:=Tryz.zeroValue3
 t9:=Tryz.underlying9
 a9:=Tryz.isAgg9
 z9:=Tryz.sizeOf9
 v9:=Tryz.zeroValue9
 t37:=Tryz.underlying116
 a37:=Tryz.isAgg116
 z37:=Tryz.sizeOf116
 v37:=Tryz.zeroValue116
 t70:=Tryz.underlying241
 a70:=Tryz.isAgg241
 z70:=Tryz.sizeOf241
 v70:=Tryz.zeroValue241
 t72:=Tryz.underlying243
 a72:=Tryz.isAgg243
 z72:=Tryz.sizeOf243
 v72:=Tryz.zeroValue243
 t127:=Tryz.underlying117
 a127:=Tryz.isAgg117
 z127:=Tryz.sizeOf117
 v127:=Tryz.zeroValue117 }
theorem Tryz.Builder_Extra_169:Builder.Extra Tryz.prog Tryz.lays169_ren:={
 sizeBuilder:=by kernel_rfl
 liesBuilder:=by kernel_rfl
 t5:=Tryz.underlying5
 a5:=Tryz.isAgg5
 z5:=Tryz.sizeOf5
 v5:=Tryz.zeroValue5
 infoByte:=by kernel_rfl
 cellsByte:=by kernel_rfl
 sizeByte:=by kernel_rfl
 neB5:=by decide }
open Go.RowKit in
theorem Tryz.Builder_String_any (B b:Nat)(l:List UInt8)(w:World)(h:Lib.IsBuilder 243 5 B b (Lib.byteCells l) w)(hBw:B<=w.heap.size):
  Calls Tryz.prog 154 #[.pointer (some ⟨b,0,none⟩)] w fun e w'=>e= .returned (.string ⟨l.toArray⟩)/\Below B w w':=Any.Builder_String_any Tryz.lays169 Tryz.Builder_Extra_169 B b l w h hBw
def Tryz.lays106_ren:Go.Shelf.Ren:=⟨fun|106=>27|213=>48|265=>71|n=>n,fun|9=>9|3=>3|n=>n,fun|n=>n⟩
theorem Tryz.lays106:Go.Proofs.Lays.n106 Tryz.prog Tryz.lays106_ren:={
 mixed:=by kernel_rfl
 f106:=Tryz.func27.trans (congrArg some (by kernel_rfl))
 f213:=Tryz.func48.trans (congrArg some (by kernel_rfl))
 f265:=Tryz.func71.trans (congrArg some (by kernel_rfl))
 t3:=Tryz.underlying3
 a3:=Tryz.isAgg3
 z3:=Tryz.sizeOf3
 v3:=Tryz.zeroValue3
 t9:=Tryz.underlying9
 a9:=Tryz.isAgg9
 z9:=Tryz.sizeOf9
 v9:=Tryz.zeroValue9 }
open Go.RowKit in
theorem Tryz.strings_Compare (a b:ByteArray)(w:World):
  Calls Tryz.prog 27 #[.string a, .string b] w fun e w'=>e= .returned (.int .i64 (Lib.compareBytes a.data.toList b.data.toList))/\w'=w:=Any.strings_Compare Tryz.lays106 a b w
def Tryz.lays137_ren:Go.Shelf.Ren:=⟨fun|137=>214|217=>223|266=>227|n=>n,fun|9=>9|5=>5|3=>3|n=>n,fun|n=>n⟩
theorem Tryz.lays137:Go.Proofs.Lays.n137 Tryz.prog Tryz.lays137_ren:={
 mixed:=by kernel_rfl
 f137:=Tryz.func214.trans (congrArg some (by kernel_rfl))
 f217:=Tryz.func223.trans (congrArg some (by kernel_rfl))
 f266:=Tryz.func227.trans (congrArg some (by kernel_rfl))
 t3:=Tryz.underlying3
 a3:=Tryz.isAgg3
 z3:=Tryz.sizeOf3
 v3:=Tryz.zeroValue3
 t5:=Tryz.underlying5
 a5:=Tryz.isAgg5
 z5:=Tryz.sizeOf5
 v5:=Tryz.zeroValue5
 t9:=Tryz.underlying9
 a9:=Tryz.isAgg9
 z9:=Tryz.sizeOf9
 v9:=Tryz.zeroValue9 }
open Go.RowKit in
theorem Tryz.strings_IndexByte (s:ByteArray)(c:Int)(w:World):
  Calls Tryz.prog 214 #[.string s, .int .u8 c] w fun e w'=>e= .returned (.int .i64 (Lib.indexByte s.data.toList c.toNat.toUInt8))/\w'=w:=Any.strings_IndexByte Tryz.lays137 s c w
def Tryz.laysM173_ren:Go.Shelf.Ren:=⟨fun|173=>200|246=>199|283=>208|284=>209|285=>210|286=>211|129=>69|317=>218|318=>219|319=>220|320=>221|337=>224|338=>225|n=>n,fun|2=>2|3=>3|9=>9|4=>4|171=>298|0=>0|53=>129|37=>116|5=>5|173=>300|212=>307|51=>127|20=>20|213=>308|46=>85|232=>310|233=>311|n=>n,fun|17=>5|18=>6|19=>7|n=>n⟩
theorem Tryz.laysM173:Go.Proofs.LaysM.n173 Tryz.prog Tryz.laysM173_ren:={
 mixed:=by kernel_rfl
 f129:=Tryz.func69.trans (congrArg some (by kernel_rfl))
 f173:=Tryz.func200.trans (congrArg some (by kernel_rfl))
 f246:=Tryz.func199.trans (congrArg some (by kernel_rfl))
 f283:=Tryz.func208.trans (congrArg some (by kernel_rfl))
 f284:=Tryz.func209.trans (congrArg some (by kernel_rfl))
 f285:=Tryz.func210.trans (congrArg some (by kernel_rfl))
 f286:=Tryz.func211.trans (congrArg some (by kernel_rfl))
 f317:=Tryz.func218.trans (congrArg some (by kernel_rfl))
 f318:=Tryz.func219.trans (congrArg some (by kernel_rfl))
 f319:=Tryz.func220.trans (congrArg some (by kernel_rfl))
 f320:=Tryz.func221.trans (congrArg some (by kernel_rfl))
 f337:=Tryz.func224.trans (congrArg some (by kernel_rfl))
 f338:=Tryz.func225.trans (congrArg some (by kernel_rfl))
 t0:=Tryz.underlying0
 a0:=Tryz.isAgg0
 z0:=Tryz.sizeOf0
 v0:=Tryz.zeroValue0
 t2:=Tryz.underlying2
 a2:=Tryz.isAgg2
 z2:=Tryz.sizeOf2
 v2:=Tryz.zeroValue2
 t3:=Tryz.underlying3
 a3:=Tryz.isAgg3
 z3:=Tryz.sizeOf3
 v3:=Tryz.zeroValue3
 t4:=Tryz.underlying4
 a4:=Tryz.isAgg4
 z4:=Tryz.sizeOf4
 v4:=Tryz.zeroValue4
 t5:=Tryz.underlying5
 a5:=Tryz.isAgg5
 z5:=Tryz.sizeOf5
 v5:=Tryz.zeroValue5
 t9:=Tryz.underlying9
 a9:=Tryz.isAgg9
 z9:=Tryz.sizeOf9
 v9:=Tryz.zeroValue9
 t20:=Tryz.underlying20
 a20:=Tryz.isAgg20
 z20:=Tryz.sizeOf20
 v20:=Tryz.zeroValue20
 t37:=Tryz.underlying116
 a37:=Tryz.isAgg116
 z37:=Tryz.sizeOf116
 v37:=Tryz.zeroValue116
 t46:=Tryz.underlying85
 a46:=Tryz.isAgg85
 z46:=Tryz.sizeOf85
 v46:=Tryz.zeroValue85
 t51:=Tryz.underlying127
 a51:=Tryz.isAgg127
 z51:=Tryz.sizeOf127
 v51:=Tryz.zeroValue127
 t53:=Tryz.underlying129
 a53:=Tryz.isAgg129
 z53:=Tryz.sizeOf129
 v53:=Tryz.zeroValue129
 t171:=Tryz.underlying298
 a171:=Tryz.isAgg298
 z171:=Tryz.sizeOf298
 v171:=Tryz.zeroValue298
 t173:=Tryz.underlying300
 a173:=Tryz.isAgg300
 z173:=Tryz.sizeOf300
 v173:=Tryz.zeroValue300
 t212:=Tryz.underlying307
 a212:=Tryz.isAgg307
 z212:=Tryz.sizeOf307
 v212:=Tryz.zeroValue307
 t213:=Tryz.underlying308
 a213:=Tryz.isAgg308
 z213:=Tryz.sizeOf308
 t232:=Tryz.underlying310
 a232:=Tryz.isAgg310
 z232:=Tryz.sizeOf310
 v232:=Tryz.zeroValue310
 t233:=Tryz.underlying311
 a233:=Tryz.isAgg311
 z233:=Tryz.sizeOf311
 v233:=Tryz.zeroValue311
 g17:=by kernel_rfl
 g18:=by kernel_rfl
 g19:=by kernel_rfl
 i0:=by kernel_rfl
 i2:=by kernel_rfl
 i3:=by kernel_rfl
 i4:=by kernel_rfl
 i5:=by kernel_rfl
 i9:=by kernel_rfl
 i20:=by kernel_rfl
 i37:=by kernel_rfl
 i46:=by kernel_rfl
 i51:=by kernel_rfl
 i53:=by kernel_rfl
 i171:=by kernel_rfl
 i173:=by kernel_rfl
 i212:=by kernel_rfl
 i232:=by kernel_rfl
 i233:=by kernel_rfl
 m17:=by kernel_rfl
 m18:=by kernel_rfl
 m19:=by kernel_rfl }
open Go.RowKit Go.Sort Go.Lib in
theorem Tryz.strconv_FormatInt_10 (n:Int)(h0: -9223372036854775808<=n)(h1:n<=9223372036854775807)(w:World)(htab:Lib.TabIs Tryz.prog w "internal/strconv.uint64pow10" .u64 Lib.pow10Tab):
  Calls Tryz.prog 200 #[.int .i64 n, .int .i64 10] w fun e w'=>e= .returned (.string ⟨(Lib.itoa n).toArray⟩)/\ ∃k os,w'=grow (w.drewN k) os:=Any.strconv_FormatInt_10 Tryz.laysM173 n h0 h1 w htab
def Tryz.laysM316_ren:Go.Shelf.Ren:=⟨fun|316=>39|n=>n,fun|9=>9|3=>3|4=>4|37=>116|0=>0|127=>117|5=>5|n=>n,fun|n=>n⟩
theorem Tryz.laysM316:Go.Proofs.LaysM.n316 Tryz.prog Tryz.laysM316_ren:={
 mixed:=by kernel_rfl
 f316:=Tryz.func39.trans (congrArg some (by kernel_rfl))
 t0:=Tryz.underlying0
 a0:=Tryz.isAgg0
 z0:=Tryz.sizeOf0
 v0:=Tryz.zeroValue0
 t3:=Tryz.underlying3
 a3:=Tryz.isAgg3
 z3:=Tryz.sizeOf3
 v3:=Tryz.zeroValue3
 t4:=Tryz.underlying4
 a4:=Tryz.isAgg4
 z4:=Tryz.sizeOf4
 v4:=Tryz.zeroValue4
 t9:=Tryz.underlying9
 a9:=Tryz.isAgg9
 z9:=Tryz.sizeOf9
 v9:=Tryz.zeroValue9
 t37:=Tryz.underlying116
 a37:=Tryz.isAgg116
 z37:=Tryz.sizeOf116
 v37:=Tryz.zeroValue116
 t127:=Tryz.underlying117
 a127:=Tryz.isAgg117
 z127:=Tryz.sizeOf117
 v127:=Tryz.zeroValue117
 t5:=Tryz.underlying5
 a5:=Tryz.isAgg5
 z5:=Tryz.sizeOf5
 v5:=Tryz.zeroValue5
 i0:=by kernel_rfl
 i3:=by kernel_rfl
 i4:=by kernel_rfl
 i5:=by kernel_rfl
 i9:=by kernel_rfl
 i37:=by kernel_rfl
 i127:=by kernel_rfl }
open Go.RowKit in
theorem Tryz.stringslite_Clone (s:ByteArray)(w:World)(hlim:s.size<=281474976710656):
  Calls Tryz.prog 39 #[.string s] w fun e w'=>e= .returned (.string s)/\Below w.heap.size w w':=Any.stringslite_Clone Tryz.laysM316 s w hlim
def Tryz.laysC174_ren:Go.Shelf.Ren:=⟨fun|174=>100|247=>124|245=>125|287=>145|279=>146|280=>147|281=>148|282=>149|321=>165|322=>166|316=>39|171=>168|205=>167|243=>185|246=>199|283=>208|284=>209|285=>210|286=>211|129=>69|317=>218|318=>219|319=>220|320=>221|337=>224|338=>225|n=>n,fun|9=>9|3=>3|2=>2|75=>171|85=>172|4=>4|167=>235|5=>5|53=>129|175=>236|46=>85|168=>238|37=>116|0=>0|210=>260|21=>21|127=>117|145=>279|143=>277|171=>298|173=>300|212=>307|51=>127|20=>20|213=>308|232=>310|233=>311|80=>132|n=>n,fun|15=>2|16=>3|17=>5|18=>6|19=>7|n=>n⟩
theorem Tryz.laysC174:Go.Proofs.LaysC.n174 Tryz.prog Tryz.laysC174_ren:={
 mixed:=by kernel_rfl
 f129:=Tryz.func69.trans (congrArg some (by kernel_rfl))
 f171:=Tryz.func168.trans (congrArg some (by kernel_rfl))
 f174:=Tryz.func100.trans (congrArg some (by kernel_rfl))
 f205:=Tryz.func167.trans (congrArg some (by kernel_rfl))
 f243:=Tryz.func185.trans (congrArg some (by kernel_rfl))
 f245:=Tryz.func125.trans (congrArg some (by kernel_rfl))
 f246:=Tryz.func199.trans (congrArg some (by kernel_rfl))
 f247:=Tryz.func124.trans (congrArg some (by kernel_rfl))
 f279:=Tryz.func146.trans (congrArg some (by kernel_rfl))
 f280:=Tryz.func147.trans (congrArg some (by kernel_rfl))
 f281:=Tryz.func148.trans (congrArg some (by kernel_rfl))
 f282:=Tryz.func149.trans (congrArg some (by kernel_rfl))
 f283:=Tryz.func208.trans (congrArg some (by kernel_rfl))
 f284:=Tryz.func209.trans (congrArg some (by kernel_rfl))
 f285:=Tryz.func210.trans (congrArg some (by kernel_rfl))
 f286:=Tryz.func211.trans (congrArg some (by kernel_rfl))
 f287:=Tryz.func145.trans (congrArg some (by kernel_rfl))
 f316:=Tryz.func39.trans (congrArg some (by kernel_rfl))
 f317:=Tryz.func218.trans (congrArg some (by kernel_rfl))
 f318:=Tryz.func219.trans (congrArg some (by kernel_rfl))
 f319:=Tryz.func220.trans (congrArg some (by kernel_rfl))
 f320:=Tryz.func221.trans (congrArg some (by kernel_rfl))
 f321:=Tryz.func165.trans (congrArg some (by kernel_rfl))
 f322:=Tryz.func166.trans (congrArg some (by kernel_rfl))
 f337:=Tryz.func224.trans (congrArg some (by kernel_rfl))
 f338:=Tryz.func225.trans (congrArg some (by kernel_rfl))
 t0:=Tryz.underlying0
 a0:=Tryz.isAgg0
 z0:=Tryz.sizeOf0
 v0:=Tryz.zeroValue0
 t2:=Tryz.underlying2
 a2:=Tryz.isAgg2
 z2:=Tryz.sizeOf2
 v2:=Tryz.zeroValue2
 t3:=Tryz.underlying3
 a3:=Tryz.isAgg3
 z3:=Tryz.sizeOf3
 v3:=Tryz.zeroValue3
 t4:=Tryz.underlying4
 a4:=Tryz.isAgg4
 z4:=Tryz.sizeOf4
 v4:=Tryz.zeroValue4
 t5:=Tryz.underlying5
 a5:=Tryz.isAgg5
 z5:=Tryz.sizeOf5
 v5:=Tryz.zeroValue5
 t9:=Tryz.underlying9
 a9:=Tryz.isAgg9
 z9:=Tryz.sizeOf9
 v9:=Tryz.zeroValue9
 t20:=Tryz.underlying20
 a20:=Tryz.isAgg20
 z20:=Tryz.sizeOf20
 v20:=Tryz.zeroValue20
 t21:=Tryz.underlying21
 a21:=Tryz.isAgg21
 z21:=Tryz.sizeOf21
 v21:=Tryz.zeroValue21
 t37:=Tryz.underlying116
 a37:=Tryz.isAgg116
 z37:=Tryz.sizeOf116
 v37:=Tryz.zeroValue116
 t46:=Tryz.underlying85
 a46:=Tryz.isAgg85
 z46:=Tryz.sizeOf85
 v46:=Tryz.zeroValue85
 t51:=Tryz.underlying127
 a51:=Tryz.isAgg127
 z51:=Tryz.sizeOf127
 v51:=Tryz.zeroValue127
 t53:=Tryz.underlying129
 a53:=Tryz.isAgg129
 z53:=Tryz.sizeOf129
 v53:=Tryz.zeroValue129
 t75:=Tryz.underlying171
 a75:=Tryz.isAgg171
 z75:=Tryz.sizeOf171
 v75:=Tryz.zeroValue171
 t85:=Tryz.underlying172
 a85:=Tryz.isAgg172
 z85:=Tryz.sizeOf172
 v85:=Tryz.zeroValue172
 t127:=Tryz.underlying117
 a127:=Tryz.isAgg117
 z127:=Tryz.sizeOf117
 v127:=Tryz.zeroValue117
 t143:=Tryz.underlying277
 a143:=Tryz.isAgg277
 z143:=Tryz.sizeOf277
 v143:=Tryz.zeroValue277
 t145:=Tryz.underlying279
 a145:=Tryz.isAgg279
 z145:=Tryz.sizeOf279
 v145:=Tryz.zeroValue279
 t167:=Tryz.underlying235
 a167:=Tryz.isAgg235
 z167:=Tryz.sizeOf235
 v167:=Tryz.zeroValue235
 t168:=Tryz.underlying238
 a168:=Tryz.isAgg238
 z168:=Tryz.sizeOf238
 v168:=Tryz.zeroValue238
 t171:=Tryz.underlying298
 a171:=Tryz.isAgg298
 z171:=Tryz.sizeOf298
 v171:=Tryz.zeroValue298
 t173:=Tryz.underlying300
 a173:=Tryz.isAgg300
 z173:=Tryz.sizeOf300
 v173:=Tryz.zeroValue300
 t175:=Tryz.underlying236
 a175:=Tryz.isAgg236
 z175:=Tryz.sizeOf236
 v175:=Tryz.zeroValue236
 t210:=Tryz.underlying260
 a210:=Tryz.isAgg260
 z210:=Tryz.sizeOf260
 v210:=Tryz.zeroValue260
 t212:=Tryz.underlying307
 a212:=Tryz.isAgg307
 z212:=Tryz.sizeOf307
 v212:=Tryz.zeroValue307
 t213:=Tryz.underlying308
 a213:=Tryz.isAgg308
 z213:=Tryz.sizeOf308
 t232:=Tryz.underlying310
 a232:=Tryz.isAgg310
 z232:=Tryz.sizeOf310
 v232:=Tryz.zeroValue310
 t233:=Tryz.underlying311
 a233:=Tryz.isAgg311
 z233:=Tryz.sizeOf311
 v233:=Tryz.zeroValue311
 g15:=by kernel_rfl
 g16:=by kernel_rfl
 g17:=by kernel_rfl
 g18:=by kernel_rfl
 g19:=by kernel_rfl
 t80:=Tryz.underlying132
 a80:=Tryz.isAgg132
 z80:=Tryz.sizeOf132
 v80:=Tryz.zeroValue132
 i0:=by kernel_rfl
 i2:=by kernel_rfl
 i3:=by kernel_rfl
 i4:=by kernel_rfl
 i5:=by kernel_rfl
 i9:=by kernel_rfl
 i20:=by kernel_rfl
 i21:=by kernel_rfl
 i37:=by kernel_rfl
 i46:=by kernel_rfl
 i51:=by kernel_rfl
 i53:=by kernel_rfl
 i75:=by kernel_rfl
 i80:=by kernel_rfl
 i85:=by kernel_rfl
 i127:=by kernel_rfl
 i143:=by kernel_rfl
 i145:=by kernel_rfl
 i167:=by kernel_rfl
 i168:=by kernel_rfl
 i171:=by kernel_rfl
 i173:=by kernel_rfl
 i175:=by kernel_rfl
 i210:=by kernel_rfl
 i212:=by kernel_rfl
 i232:=by kernel_rfl
 i233:=by kernel_rfl
 m15:=by kernel_rfl
 m16:=by kernel_rfl
 m17:=by kernel_rfl
 m18:=by kernel_rfl
 m19:=by kernel_rfl
 c0:=by kernel_rfl
 c2:=by kernel_rfl
 c3:=by kernel_rfl
 c4:=by kernel_rfl
 c5:=by kernel_rfl
 c9:=by kernel_rfl
 c20:=by kernel_rfl
 c21:=by kernel_rfl
 c37:=by kernel_rfl
 c46:=by kernel_rfl
 c51:=by kernel_rfl
 c53:=by kernel_rfl
 c75:=by kernel_rfl
 c80:=by kernel_rfl
 c85:=by kernel_rfl
 c127:=by kernel_rfl
 c143:=by kernel_rfl
 c145:=by kernel_rfl
 c167:=by kernel_rfl
 c168:=by kernel_rfl
 c171:=by kernel_rfl
 c173:=by kernel_rfl
 c175:=by kernel_rfl
 c210:=by kernel_rfl
 c212:=by kernel_rfl
 c213:=by kernel_rfl
 c232:=by kernel_rfl
 c233:=by kernel_rfl }
open Go.RowKit in
theorem Tryz.strconv_ParseInt_10_at64_ok (s:ByteArray)(hmax:s.size<=9223372036854775806)(v:Int)(h:Lib.parseIntB 64 s.data.toList= .ok v)(w:World):
  Calls Tryz.prog 100 #[.string s, .int .i64 10, .int .i64 64] w fun e w'=>e= .returned (.tuple #[.int .i64 v, .nilIface])/\(w'=w\/ ∃t,w'=Lib.bytesWorld w 5 t):=Any.strconv_ParseInt_10_at64_ok Tryz.laysC174 s hmax v h w
open Go.RowKit in
theorem Tryz.strconv_ParseInt_10_at64_range (s:ByteArray)(hlim:s.size<=281474976710656)(h:Lib.parseIntB 64 s.data.toList= .range)(ev:Value)(w:World)(hv:w.cell? ⟨3,0,none⟩=some ev)(hev:ev= .nilIface\/ ∃te pe,ev= .iface te pe):
  Calls Tryz.prog 100 #[.string s, .int .i64 10, .int .i64 64] w fun e w'=> ∃N,e= .returned (.tuple #[.int .i64 (Lib.intSat 64 s.data.toList), .iface 238 (.pointer (some ⟨N,0,none⟩))])/\w.heap.size<=N/\w'.heap[N]?=some (.cells #[.string ⟨#[80,97,114,115,101,73,110,116]⟩, .string s,ev] 260 (0,0))/\Below w.heap.size w w':=Any.strconv_ParseInt_10_at64_range Tryz.laysC174 s hlim h ev w hv hev
def Tryz.lays152_ren:Go.Shelf.Ren:=⟨fun|152=>204|137=>214|119=>215|224=>216|225=>217|217=>223|266=>227|n=>n,fun|9=>9|21=>21|3=>3|4=>4|5=>5|0=>0|46=>85|n=>n,fun|n=>n⟩
theorem Tryz.lays152:Go.Proofs.Lays.n152 Tryz.prog Tryz.lays152_ren:={
 mixed:=by kernel_rfl
 f119:=Tryz.func215.trans (congrArg some (by kernel_rfl))
 f137:=Tryz.func214.trans (congrArg some (by kernel_rfl))
 f152:=Tryz.func204.trans (congrArg some (by kernel_rfl))
 f217:=Tryz.func223.trans (congrArg some (by kernel_rfl))
 f224:=Tryz.func216.trans (congrArg some (by kernel_rfl))
 f225:=Tryz.func217.trans (congrArg some (by kernel_rfl))
 f266:=Tryz.func227.trans (congrArg some (by kernel_rfl))
 t0:=Tryz.underlying0
 a0:=Tryz.isAgg0
 z0:=Tryz.sizeOf0
 v0:=Tryz.zeroValue0
 t3:=Tryz.underlying3
 a3:=Tryz.isAgg3
 z3:=Tryz.sizeOf3
 v3:=Tryz.zeroValue3
 t4:=Tryz.underlying4
 a4:=Tryz.isAgg4
 z4:=Tryz.sizeOf4
 v4:=Tryz.zeroValue4
 t5:=Tryz.underlying5
 a5:=Tryz.isAgg5
 z5:=Tryz.sizeOf5
 v5:=Tryz.zeroValue5
 t9:=Tryz.underlying9
 a9:=Tryz.isAgg9
 z9:=Tryz.sizeOf9
 v9:=Tryz.zeroValue9
 t21:=Tryz.underlying21
 a21:=Tryz.isAgg21
 z21:=Tryz.sizeOf21
 v21:=Tryz.zeroValue21
 t46:=Tryz.underlying85
 a46:=Tryz.isAgg85
 z46:=Tryz.sizeOf85
 v46:=Tryz.zeroValue85 }
open Go.RowKit Go.Lib in
theorem Tryz.strings_IndexRune_ascii (s:ByteArray)(r:Int)(w:World)(h0:0<=r)(h1:r<128):
  Calls Tryz.prog 204 #[.string s, .int .i32 r] w fun e w'=>e= .returned (.int .i64 (Lib.indexByte s.data.toList r.toNat.toUInt8))/\w'=w:=Any.strings_IndexRune_ascii Tryz.lays152 s r w h0 h1
def Tryz.lays226_ren:Go.Shelf.Ren:=⟨fun|226=>205|n=>n,fun|3=>3|4=>4|n=>n,fun|n=>n⟩
theorem Tryz.lays226:Go.Proofs.Lays.n226 Tryz.prog Tryz.lays226_ren:={
 mixed:=by kernel_rfl
 f226:=Tryz.func205.trans (congrArg some (by kernel_rfl))
 t3:=Tryz.underlying3
 a3:=Tryz.isAgg3
 z3:=Tryz.sizeOf3
 v3:=Tryz.zeroValue3
 t4:=Tryz.underlying4
 a4:=Tryz.isAgg4
 z4:=Tryz.sizeOf4
 v4:=Tryz.zeroValue4 }
open Go.RowKit Go.Lib in
theorem Tryz.strings_shouldUseASCIISet (n:Int)(w:World):
  Calls Tryz.prog 205 #[.int .i64 n] w fun e w'=>e= .returned (.bool (decide (8<n)))/\w'=w:=Any.strings_shouldUseASCIISet Tryz.lays226 n w
def Tryz.lays153_ren:Go.Shelf.Ren:=⟨fun|153=>197|152=>204|226=>205|227=>206|228=>207|137=>214|119=>215|224=>216|225=>217|217=>223|266=>227|n=>n,fun|9=>9|3=>3|4=>4|5=>5|21=>21|117=>295|116=>294|0=>0|46=>85|124=>305|n=>n,fun|n=>n⟩
theorem Tryz.lays153:Go.Proofs.Lays.n153 Tryz.prog Tryz.lays153_ren:={
 mixed:=by kernel_rfl
 f119:=Tryz.func215.trans (congrArg some (by kernel_rfl))
 f137:=Tryz.func214.trans (congrArg some (by kernel_rfl))
 f152:=Tryz.func204.trans (congrArg some (by kernel_rfl))
 f153:=Tryz.func197.trans (congrArg some (by kernel_rfl))
 f217:=Tryz.func223.trans (congrArg some (by kernel_rfl))
 f224:=Tryz.func216.trans (congrArg some (by kernel_rfl))
 f225:=Tryz.func217.trans (congrArg some (by kernel_rfl))
 f226:=Tryz.func205.trans (congrArg some (by kernel_rfl))
 f227:=Tryz.func206.trans (congrArg some (by kernel_rfl))
 f228:=Tryz.func207.trans (congrArg some (by kernel_rfl))
 f266:=Tryz.func227.trans (congrArg some (by kernel_rfl))
 t0:=Tryz.underlying0
 a0:=Tryz.isAgg0
 z0:=Tryz.sizeOf0
 v0:=Tryz.zeroValue0
 t3:=Tryz.underlying3
 a3:=Tryz.isAgg3
 z3:=Tryz.sizeOf3
 v3:=Tryz.zeroValue3
 t4:=Tryz.underlying4
 a4:=Tryz.isAgg4
 z4:=Tryz.sizeOf4
 v4:=Tryz.zeroValue4
 t5:=Tryz.underlying5
 a5:=Tryz.isAgg5
 z5:=Tryz.sizeOf5
 v5:=Tryz.zeroValue5
 t9:=Tryz.underlying9
 a9:=Tryz.isAgg9
 z9:=Tryz.sizeOf9
 v9:=Tryz.zeroValue9
 t21:=Tryz.underlying21
 a21:=Tryz.isAgg21
 z21:=Tryz.sizeOf21
 v21:=Tryz.zeroValue21
 t46:=Tryz.underlying85
 a46:=Tryz.isAgg85
 z46:=Tryz.sizeOf85
 v46:=Tryz.zeroValue85
 t116:=Tryz.underlying294
 a116:=Tryz.isAgg294
 z116:=Tryz.sizeOf294
 t117:=Tryz.underlying295
 a117:=Tryz.isAgg295
 z117:=Tryz.sizeOf295
 v117:=Tryz.zeroValue295
 t124:=Tryz.underlying305
 a124:=Tryz.isAgg305
 z124:=Tryz.sizeOf305
 v124:=Tryz.zeroValue305 }
open Go.RowKit Go.Lib in
theorem Tryz.strings_IndexAny_long (hv116: ∀w,(zeroValue 294).run Tryz.prog w= .ok (.agg (Array.replicate 256 (.bool false))) w)(s chars:ByteArray)(w:World)(h2:2<=chars.size)(h8:8<s.size)(hs:s.size<4294967281)(hcs:chars.size<4294967281)(hascii: ∀(j:Nat) b,chars.data.toList[j]?=some b->b.toNat<128):
  Calls Tryz.prog 197 #[.string s, .string chars] w fun e w'=>e= .returned (.int .i64 (Lib.indexAny s.data.toList chars.data.toList))/\w'=((w.alloc (.cells (Lib.setCells chars.data.toList) 294)).alloc (.cells (Lib.setCells chars.data.toList) 294)):=Any.strings_IndexAny_long Tryz.lays153 hv116 (by kernel_rfl) s chars w h2 h8 hs hcs hascii
def Tryz.lays105_ren:Go.Shelf.Ren:=⟨fun|105=>153|212=>173|99=>174|165=>175|166=>152|170=>151|169=>154|263=>188|264=>189|206=>190|240=>172|241=>191|276=>187|277=>201|n=>n,fun|9=>9|3=>3|4=>4|20=>20|0=>0|46=>85|109=>268|5=>5|72=>243|76=>247|51=>127|146=>283|53=>129|148=>285|70=>241|37=>116|75=>171|127=>117|164=>281|80=>132|n=>n,fun|n=>n⟩
theorem Tryz.lays105:Go.Proofs.Lays.n105 Tryz.prog Tryz.lays105_ren:={
 mixed:=by kernel_rfl
 f99:=Tryz.func174.trans (congrArg some (by kernel_rfl))
 f105:=Tryz.func153.trans (congrArg some (by kernel_rfl))
 f165:=Tryz.func175.trans (congrArg some (by kernel_rfl))
 f166:=Tryz.func152.trans (congrArg some (by kernel_rfl))
 f169:=Tryz.func154.trans (congrArg some (by kernel_rfl))
 f170:=Tryz.func151.trans (congrArg some (by kernel_rfl))
 f206:=Tryz.func190.trans (congrArg some (by kernel_rfl))
 f212:=Tryz.func173.trans (congrArg some (by kernel_rfl))
 f240:=Tryz.func172.trans (congrArg some (by kernel_rfl))
 f241:=Tryz.func191.trans (congrArg some (by kernel_rfl))
 f263:=Tryz.func188.trans (congrArg some (by kernel_rfl))
 f264:=Tryz.func189.trans (congrArg some (by kernel_rfl))
 f276:=Tryz.func187.trans (congrArg some (by kernel_rfl))
 f277:=Tryz.func201.trans (congrArg some (by kernel_rfl))
 t0:=Tryz.underlying0
 a0:=Tryz.isAgg0
 z0:=Tryz.sizeOf0
 v0:=Tryz.zeroValue0
 t3:=Tryz.underlying3
 a3:=Tryz.isAgg3
 z3:=Tryz.sizeOf3
 v3:=Tryz.zeroValue3
 t4:=Tryz.underlying4
 a4:=Tryz.isAgg4
 z4:=Tryz.sizeOf4
 v4:=Tryz.zeroValue4
 t5:=Tryz.underlying5
 a5:=Tryz.isAgg5
 z5:=Tryz.sizeOf5
 v5:=Tryz.zeroValue5
 t9:=Tryz.underlying9
 a9:=Tryz.isAgg9
 z9:=Tryz.sizeOf9
 v9:=Tryz.zeroValue9
 t20:=Tryz.underlying20
 a20:=Tryz.isAgg20
 z20:=Tryz.sizeOf20
 v20:=Tryz.zeroValue20
 t37:=Tryz.underlying116
 a37:=Tryz.isAgg116
 z37:=Tryz.sizeOf116
 v37:=Tryz.zeroValue116
 t46:=Tryz.underlying85
 a46:=Tryz.isAgg85
 z46:=Tryz.sizeOf85
 v46:=Tryz.zeroValue85
 t51:=Tryz.underlying127
 a51:=Tryz.isAgg127
 z51:=Tryz.sizeOf127
 v51:=Tryz.zeroValue127
 t53:=Tryz.underlying129
 a53:=Tryz.isAgg129
 z53:=Tryz.sizeOf129
 v53:=Tryz.zeroValue129
 t70:=Tryz.underlying241
 a70:=Tryz.isAgg241
 z70:=Tryz.sizeOf241
 v70:=Tryz.zeroValue241
 t72:=Tryz.underlying243
 a72:=Tryz.isAgg243
 z72:=Tryz.sizeOf243
 v72:=Tryz.zeroValue243
 t75:=Tryz.underlying171
 a75:=Tryz.isAgg171
 z75:=Tryz.sizeOf171
 v75:=Tryz.zeroValue171
 t76:=Tryz.underlying247
 a76:=Tryz.isAgg247
 z76:=Tryz.sizeOf247
 v76:=Tryz.zeroValue247
 t109:=Tryz.underlying268
 a109:=Tryz.isAgg268
 z109:=Tryz.sizeOf268
 v109:=Tryz.zeroValue268
 t127:=Tryz.underlying117
 a127:=Tryz.isAgg117
 z127:=Tryz.sizeOf117
 v127:=Tryz.zeroValue117
 t146:=Tryz.underlying283
 a146:=Tryz.isAgg283
 z146:=Tryz.sizeOf283
 v146:=Tryz.zeroValue283
 t148:=Tryz.underlying285
 a148:=Tryz.isAgg285
 z148:=Tryz.sizeOf285
 v148:=Tryz.zeroValue285
 t164:=Tryz.underlying281
 a164:=Tryz.isAgg281
 z164:=Tryz.sizeOf281
 v164:=Tryz.zeroValue281 }
theorem Tryz.Builder_Extra_105:Builder.Extra Tryz.prog Tryz.lays105_ren:={
 sizeBuilder:=by kernel_rfl
 liesBuilder:=by kernel_rfl
 t5:=Tryz.underlying5
 a5:=Tryz.isAgg5
 z5:=Tryz.sizeOf5
 v5:=Tryz.zeroValue5
 infoByte:=by kernel_rfl
 cellsByte:=by kernel_rfl
 sizeByte:=by kernel_rfl
 neB5:=by decide }
open Go.RowKit Go.Lib in
theorem Tryz.strings_Repeat (s:ByteArray)(c:Nat)(w:World)(hc:c<=9223372036854775807)(hlen:s.size * c<=140737488355328):
  Calls Tryz.prog 153 #[.string s, .int .i64 c] w fun e w'=>e= .returned (.string ⟨(Lib.repeatL s.data.toList c).toArray⟩)/\Below w.heap.size w w':=Any.strings_Repeat Tryz.lays105 Tryz.Builder_Extra_105 s c w hc hlen
def Tryz.lays107_ren:Go.Shelf.Ren:=⟨fun|107=>130|108=>161|n=>n,fun|28=>51|3=>3|4=>4|0=>0|n=>n,fun|n=>n⟩
theorem Tryz.lays107:Go.Proofs.Lays.n107 Tryz.prog Tryz.lays107_ren:={
 mixed:=by kernel_rfl
 f107:=Tryz.func130.trans (congrArg some (by kernel_rfl))
 f108:=Tryz.func161.trans (congrArg some (by kernel_rfl))
 t0:=Tryz.underlying0
 a0:=Tryz.isAgg0
 z0:=Tryz.sizeOf0
 v0:=Tryz.zeroValue0
 t3:=Tryz.underlying3
 a3:=Tryz.isAgg3
 z3:=Tryz.sizeOf3
 v3:=Tryz.zeroValue3
 t4:=Tryz.underlying4
 a4:=Tryz.isAgg4
 z4:=Tryz.sizeOf4
 v4:=Tryz.zeroValue4
 t28:=Tryz.underlying51
 a28:=Tryz.isAgg51
 z28:=Tryz.sizeOf51
 v28:=Tryz.zeroValue51 }
open Go.Lib in
theorem Tryz.slices_Contains_int (b off n c:Nat)(zs:List Int)(x:Int)(w:World)(hz:n<=zs.length)(hbig:n<=9223372036854775807)(hc: ∀j,j<zs.length->w.cell? ⟨b,off+j,none⟩=some (.int .i64 (zs.getD j 0))):
  Calls Tryz.prog 130 #[.slice (some ⟨b,off,none⟩) n c, .int .i64 x] w fun e w'=>e= .returned (.bool ((zs.take n).contains x))/\w'=w:=Any.slices_Contains_int Tryz.lays107 b off n c zs x w hz hbig hc
open Go.Lib in
theorem Tryz.slices_Contains_int_empty (a:Option Addr)(c:Nat)(x:Int)(w:World):
  Calls Tryz.prog 130 #[.slice a 0 c, .int .i64 x] w fun e w'=>e= .returned (.bool false)/\w'=w:=Any.slices_Contains_int_empty Tryz.lays107 a c x w
def Tryz.lays109_ren:Go.Shelf.Ren:=⟨fun|109=>104|n=>n,fun|31=>102|9=>9|3=>3|0=>0|4=>4|n=>n,fun|n=>n⟩
theorem Tryz.lays109:Go.Proofs.Lays.n109 Tryz.prog Tryz.lays109_ren:={
 mixed:=by kernel_rfl
 f109:=Tryz.func104.trans (congrArg some (by kernel_rfl))
 t0:=Tryz.underlying0
 a0:=Tryz.isAgg0
 z0:=Tryz.sizeOf0
 v0:=Tryz.zeroValue0
 t3:=Tryz.underlying3
 a3:=Tryz.isAgg3
 z3:=Tryz.sizeOf3
 v3:=Tryz.zeroValue3
 t4:=Tryz.underlying4
 a4:=Tryz.isAgg4
 z4:=Tryz.sizeOf4
 v4:=Tryz.zeroValue4
 t9:=Tryz.underlying9
 a9:=Tryz.isAgg9
 z9:=Tryz.sizeOf9
 v9:=Tryz.zeroValue9
 t31:=Tryz.underlying102
 a31:=Tryz.isAgg102
 z31:=Tryz.sizeOf102
 v31:=Tryz.zeroValue102 }
open Go.Lib in
theorem Tryz.slices_Index_string (b off n c:Nat)(zs:List ByteArray)(x:ByteArray)(w:World)(hz:n<=zs.length)(hbig:n<=9223372036854775807)(hc: ∀j,j<zs.length->w.cell? ⟨b,off+j,none⟩=some (.string (zs.getD j ByteArray.empty))):
  Calls Tryz.prog 104 #[.slice (some ⟨b,off,none⟩) n c, .string x] w fun e w'=>e= .returned (.int .i64 (Lib.idxOfS (zs.take n) x))/\w'=w:=Any.slices_Index_string Tryz.lays109 b off n c zs x w hz hbig hc
def Tryz.lays110_ren:Go.Shelf.Ren:=⟨fun|110=>82|109=>104|n=>n,fun|31=>102|9=>9|4=>4|3=>3|0=>0|n=>n,fun|n=>n⟩
theorem Tryz.lays110:Go.Proofs.Lays.n110 Tryz.prog Tryz.lays110_ren:={
 mixed:=by kernel_rfl
 f109:=Tryz.func104.trans (congrArg some (by kernel_rfl))
 f110:=Tryz.func82.trans (congrArg some (by kernel_rfl))
 t0:=Tryz.underlying0
 a0:=Tryz.isAgg0
 z0:=Tryz.sizeOf0
 v0:=Tryz.zeroValue0
 t3:=Tryz.underlying3
 a3:=Tryz.isAgg3
 z3:=Tryz.sizeOf3
 v3:=Tryz.zeroValue3
 t4:=Tryz.underlying4
 a4:=Tryz.isAgg4
 z4:=Tryz.sizeOf4
 v4:=Tryz.zeroValue4
 t9:=Tryz.underlying9
 a9:=Tryz.isAgg9
 z9:=Tryz.sizeOf9
 v9:=Tryz.zeroValue9
 t31:=Tryz.underlying102
 a31:=Tryz.isAgg102
 z31:=Tryz.sizeOf102
 v31:=Tryz.zeroValue102 }
open Go.Lib in
theorem Tryz.slices_Contains_string (b off n c:Nat)(zs:List ByteArray)(x:ByteArray)(w:World)(hz:n<=zs.length)(hbig:n<=9223372036854775807)(hc: ∀j,j<zs.length->w.cell? ⟨b,off+j,none⟩=some (.string (zs.getD j ByteArray.empty))):
  Calls Tryz.prog 82 #[.slice (some ⟨b,off,none⟩) n c, .string x] w fun e w'=>e= .returned (.bool (Lib.containsS (zs.take n) x))/\w'=w:=Any.slices_Contains_string Tryz.lays110 b off n c zs x w hz hbig hc
open Go.Lib in
theorem Tryz.slices_Contains_string_empty (a:Option Addr)(c:Nat)(x:ByteArray)(w:World):
  Calls Tryz.prog 82 #[.slice a 0 c, .string x] w fun e w'=>e= .returned (.bool false)/\w'=w:=Any.slices_Contains_string_empty Tryz.lays110 a c x w
def Tryz.laysNm215_ren:Go.Shelf.Ren:=⟨fun|15=>131|n=>n,fun|22=>51|3=>3|4=>4|n=>n,fun|n=>n⟩
theorem Tryz.laysNm215:Go.Proofs.Lays2.n15 Tryz.prog Tryz.laysNm215_ren:={
 mixed:=by kernel_rfl
 f15:=Tryz.func131.trans (congrArg some (by kernel_rfl))
 t3:=Tryz.underlying3
 a3:=Tryz.isAgg3
 z3:=Tryz.sizeOf3
 v3:=Tryz.zeroValue3
 t4:=Tryz.underlying4
 a4:=Tryz.isAgg4
 z4:=Tryz.sizeOf4
 v4:=Tryz.zeroValue4
 t22:=Tryz.underlying51
 a22:=Tryz.isAgg51
 z22:=Tryz.sizeOf51
 v22:=Tryz.zeroValue51
 i3:=by kernel_rfl }
open Go.RowKit Go.Lib in
theorem Tryz.slices_Clone_int (b off n c:Nat)(zs:List Int)(w:World)(hz:n<=zs.length)(hbig:n * 8<=140737488355328)(hc: ∀j,j<zs.length->w.cell? ⟨b,off+j,none⟩=some (.int .i64 (zs.getD j 0))):
  Calls Tryz.prog 131 #[.slice (some ⟨b,off,none⟩) n c] w fun e w'=> ∃v',e= .returned v'/\w'.ownsRow w.heap.size 3 1 v' n ((zs.take n).map (Value.int .i64))/\v'≠ .slice none 0 0/\Below w.heap.size w w':=Any.slices_Clone_int Tryz.laysNm215 b off n c zs w hz hbig hc
end Go.Proofs
namespace Go.Proofs.YtfgkikeeadlcfaaGreatDoor
open Go.RowKit
theorem q7O:(Tryz.prog.info? 5).map (fun i=>(i.zero,i.size,i.bytes))=some (some (.int .u8 0),1,1):=by kernel_rfl
def Owns (B:Nat)(w:World)(v:Value)(l:List UInt8):Prop:=w.ownsRow B 5 1 v l.length (q0D l)
theorem q1W (b:ByteArray)(i:Nat)(h:i<b.size):b.data.toList.drop i=b[i]::b.data.toList.drop (i+1):=by
 rw[List.drop_eq_getElem_cons (by simpa using h)];rfl
theorem q1H (b:ByteArray)(w:World)(hb:b.size<=281474976710656):
  Calls Tryz.prog 15 #[.string b] w fun e w'=>e= .returned (.string b)/\Below w.heap.size w w':=by
 go_enter Tryz.func15,Tryz.ntmps15
 go_wp2_with fail
 refine (Tryz.stringslite_Clone b _ hb).mono ?_
 rintro e w' ⟨rfl,h⟩
 go_wp2
 go_ret
 exact ⟨rfl,h⟩
structure Kp (F:List Nat)(w w':World):Prop where
 os:w'.os=w.os
 tape:w'.tape=w.tape
 output:w'.output=w.output
 size:w.heap.size<=w'.heap.size
 block: ∀k,k<w.heap.size->k∉F->w'.heap[k]?=w.heap[k]?
theorem Kp.refl (F:List Nat)(w:World):Kp F w w:=⟨rfl,rfl,rfl,zM _,fun _ _ _=>rfl⟩
theorem Kp.trans {F G:List Nat}{a b c:World}(h:Kp F a b)(k:Kp G b c)(hG: ∀x∈G,x∈F\/a.heap.size<=x):Kp F a c:=
 ⟨k.os.trans h.os,k.tape.trans h.tape,k.output.trans h.output,Nat.le_trans h.size k.size,fun i hi hn=>
  (k.block i (Nat.lt_of_lt_of_le hi h.size) (fun hm=>(hG i hm).elim hn (fun h1=>by omega))).trans (h.block i hi hn)⟩
theorem Kp.mono {F G:List Nat}{a b:World}(h:Kp F a b)(hG: ∀x∈F,x∈G):Kp G a b:=⟨h.os,h.tape,h.output,h.size,fun i hi hn=>h.block i hi (fun hm=>hn (hG i hm))⟩
theorem Kp.of {w w':World}{row:Option Nat}(h:w.grownBy w' row):Kp row.toList w w':=⟨h.os,h.tape,h.output,h.size,fun i hi hn=>h.block i hi (fun e=>hn (by rw[<-e];simp))⟩
theorem Kp.alloc (w:World)(o:Obj):Kp [] w (w.alloc o):=Kp.of (World.grownBy_alloc w o none)
theorem Kp.drew (w:World):Kp [] w w.drew:=⟨rfl,rfl,rfl,zM _,fun _ _ _=>rfl⟩
theorem Kp.below {F:List Nat}{B:Nat}{w w':World}(h:Kp F w w')(hB:B<=w.heap.size)(hF: ∀k∈F,B<=k):Below B w w':=
 ⟨h.os,h.tape,h.output,h.size,fun k hk=>h.block k (by omega) (fun hm=>by have:=hF k hm;omega)⟩
theorem Kp.ofBelow {w w':World}(h:Below w.heap.size w w'):Kp [] w w':=⟨h.os,h.tape,h.output,h.size,fun k hk _=>h.block k hk⟩
theorem Kp.cell {F:List Nat}{w w':World}(h:Kp F w w'){p:Addr}{v:Value}(hc:w.cell? p=some v)(hp:p.block∉F):w'.cell? p=some v:=
 (World.cell?_of_block (h.block p.block (World.block_lt_of_cell? w p hc) hp)).trans hc
def CBox (g:Nat)(cs:Array Value)(t:TypeId)(w:World):Prop:=w.heap[g]?=some (.cells cs t (0,0))
theorem CBox.cell {g:Nat}{cs:Array Value}{t:TypeId}{w:World}(h:CBox g cs t w){i:Nat}{v:Value}(hv:cs[i]?=some v):w.cell? ⟨g,i,none⟩=some v:=by
 unfold CBox at h
 simp[World.cell?,h,hv]
theorem CBox.kp {g:Nat}{cs:Array Value}{t:TypeId}{w w':World}{F:List Nat}(h:CBox g cs t w)(hk:Kp F w w')(hF:g∉F):CBox g cs t w':=(hk.block g (zB.1 h).1 hF).trans h
theorem CBox.new (w:World)(cs:Array Value)(t:TypeId):CBox w.heap.size cs t (w.alloc (.cells cs t)):=heap_alloc_new w _
theorem CBox.set {g:Nat}{cs:Array Value}{t:TypeId}{w:World}(h:CBox g cs t w)(i:Nat)(v:Value):CBox g (cs.setIfInBounds i v) t (w.setCell ⟨g,i,none⟩ v):=by
 unfold CBox at *
 unfold World.setCell
 simp[h,Array.getElem?_modify]
theorem CBox.froz {g:Nat}{cs:Array Value}{t:TypeId}{w:World}(h:CBox g cs t w)(i:Nat):w.frozen? ⟨g,i,none⟩=false:=by
 unfold CBox at h
 simp[World.frozen?,h]
theorem Kp.set (w:World)(p i:Nat)(v:Value):Kp [p] w (w.setCell ⟨p,i,none⟩ v):=
 ⟨rfl,rfl,rfl,by simp[World.setCell],fun k _ hn=>Below.heap_setCell _ _ _ _ (by simpa using hn)⟩
theorem Kp.drewQ (w:World)(n:Nat):Kp [] w (w.drewN n):=⟨rfl,rfl,rfl,zM _,fun _ _ _=>rfl⟩
theorem q0O {P:Program}{ops:Array Oper}{o:Oper}{a:Act}{w:World}{K:Act->World->Prop}{Q:Exit->Act->World->Prop}{E:Prop}
  (hg:o.guard=none) (s x:Operand) (t:TypeId) (hop:o.op=Op.call { callee:=Callee.builtin Builtin.append,args:=#[s,x],argTypes:=#[t,t] })
  (base:Nat) (e:TypeId) (i:TypeInfo) (z:Value) (size bytes:Nat) (h1:P.underlying t=some (.slice e)) (h2:P.info? e=some i) (h3:i.zero=some z) (h4:i.size=size) (h5:i.bytes=bytes) (h6:z.cells.size=size) (h7:0<size)
  (v:Value) (n:Nat) (xs:List Value) (hs:a.eval s=v) (hown:w.ownsRow base e size v n xs)
  (ad:Addr) (m c:Nat) (news:List Value) (hx:a.eval x= .slice (some ad) m c) (hn:news.length=m * size) (hc: ∀j u,news[j]?=some u->w.cell? (ad.add j)=some u) (h1c: ∀u∈news,u.oneCell'=true) (hm:0<m)
  (b1:n+m<=maxLen) (b2:(n+m) * bytes<=140737488355328) (hb:base<=w.heap.size)
  (hK: ∀g cap w',w'.ownsRow base e size (.slice (some ⟨g,0,none⟩) (n+m) cap) (n+m) (xs++news)->w.grownBy w' v.ownBlock->(v.ownBlock=some g\/g=w.heap.size)->K (a.put o.dst (.slice (some ⟨g,0,none⟩) (n+m) cap)) w'):
  if Region.wanted o (yielded ops a.tmps)=true then Oper.wp P o a w K Q else E:=by
 have hw:Region.wanted o (yielded ops a.tmps)=true:=by simp[Region.wanted,hg]
 rw[if_pos hw]
 obtain ⟨g,cap,w',hrun,r1,r2,r3,_⟩:=run_append_lies (P:=P) (w:=w) t o.type base e i z size bytes h1 h2 h3 h4 h5 h6 h7 v n xs hown ad m c news hn hc h1c hm b1 b2 hb _ rfl
 unfold Oper.wp
 simp[execOp,hop,resolve,invoke,builtin,hs,hx,hrun,Result.andThen]
 exact hK g cap w' r1 r2 r3
def tabT:List Nat:=[0,0,0,0,0,0,0,0,0,0,3,0,0,0,0,0,0,0,0,0,0,0,0,0,0,0,0,0,0,0,0,0,1,128,0,0,0,0,0,16,32,32,32,32,0,32,32,0,8,8,8,8,8,8,8,8,8,8,32,32,64,64,0,0,0,0,0,0,0,0,0,0,0,0,0,0,0,0,0,0,0,0,0,0,0,0,0,0,0,0,0,0,0,0,0,0,0,4,4,4,4,4,4,4,4,4,4,4,4,4,4,4,4,4,4,4,4,4,4,4,4,4,4,0,0,0,0,0]
def cls (b:Nat):Nat:=tabT.getD b 0
structure TbW (w:World):Prop where
 low:8<=w.heap.size
 sets: ∀i,i<128->w.cell? ⟨1,i,none⟩=some (.int .u8 (cls i:Int))
 pow:Lib.TabIs Tryz.prog w "internal/strconv.uint64pow10" .u64 Lib.pow10Tab
 rng: ∃tp p,w.cell? ⟨3,0,none⟩=some (.iface tp p)
theorem gPow:Tryz.prog.globalNamed "internal/strconv.uint64pow10"=some 5:=by kernel_rfl
theorem TbW.same {w w':World}(h:TbW w)(hs:w.heap.size<=w'.heap.size)(hb: ∀k,k<8->w'.heap[k]?=w.heap[k]?):TbW w':=by
 refine ⟨Nat.le_trans h.low hs,fun i hi=>?_,?_,?_⟩
 ·rw[World.cell?_of_block (hb 1 (by omega))];exact h.sets i hi
 ·have:=h.pow
  unfold Lib.TabIs World.var? at this ⊢
  rw[gPow]at this ⊢
  simp only[Option.bind_some]at this ⊢
  rw[hb 5 (by omega)]
  exact this
 ·obtain ⟨tp,p,hc⟩:=h.rng
  exact ⟨tp,p,by rw[World.cell?_of_block (hb 3 (by omega))];exact hc⟩
theorem TbW.below {B:Nat}{w w':World}(h:TbW w)(hb:Below B w w')(hB:8<=B):TbW w':=h.same hb.size fun k hk=>hb.block k (by omega)
theorem TbW.kp {w w':World}{F:List Nat}(h:TbW w)(hk:Kp F w w')(hF: ∀k∈F,8<=k):TbW w':=h.same hk.size fun k hk6=>hk.block k (by have:=h.low;omega) (fun hm=>by have:=hF k hm;omega)
theorem TbW.alloc {w:World}(h:TbW w)(o:Obj):TbW (w.alloc o):=h.kp (Kp.alloc w o) (by simp)
theorem q3o: ∀b:Fin 256,(bits .and .u8 (cls b.val:Int) 12 != 0)=q0h (UInt8.ofNat b.val)/\(bits .and .u8 (cls b.val:Int) 8 != 0)=q07 (UInt8.ofNat b.val)/\(bits .and .u8 (cls b.val:Int) 1 != 0)=q09 (UInt8.ofNat b.val)/\(bits .and .u8 (cls b.val:Int) 18==0)=isIn (UInt8.ofNat b.val):=by decide+kernel
theorem qcD (b:UInt8):(bits .and .u8 (cls b.toNat:Int) 12 != 0)=q0h b:=by have:=(q3o ⟨b.toNat,b.toNat_lt⟩).1;simpa using this
theorem q7y (b:UInt8):(bits .and .u8 (cls b.toNat:Int) 8 != 0)=q07 b:=by have:=(q3o ⟨b.toNat,b.toNat_lt⟩).2.1;simpa using this
theorem q7x (b:UInt8):(bits .and .u8 (cls b.toNat:Int) 1 != 0)=q09 b:=by have:=(q3o ⟨b.toNat,b.toNat_lt⟩).2.2.1;simpa using this
theorem qe4 (b:UInt8):(bits .and .u8 (cls b.toNat:Int) 18==0)=isIn b:=by have:=(q3o ⟨b.toNat,b.toNat_lt⟩).2.2.2;simpa using this
theorem qe3 (n:Nat)(h:128<=n):cls n=0:=by
 unfold cls
 rw[List.getD_eq_getElem?_getD,List.getElem?_eq_none (by simpa [tabT] using h)]
 rfl
theorem q10 (n:Nat)(hn:n<256)(w:World)(hT:TbW w):Calls Tryz.prog 72 #[.int .u8 (n:Int)] w fun e w'=>e= .returned (.int .u8 (cls n:Int))/\w'=w:=by
 rcases Nat.lt_or_ge n 128 with h|h
 ·have c:=hT.sets n h
  generalize cls n=C at c ⊢
  clear hT
  go_enter Tryz.func72,Tryz.ntmps72
  go_wp2
  go_ret
  exact ⟨rfl,rfl⟩
 ·rw[qe3 n h]
  clear hT
  go_enter Tryz.func72,Tryz.ntmps72
  go_wp2
  go_ret
  exact ⟨rfl,rfl⟩
theorem q24 (s:ByteArray)(m:Int)(p:UInt8->Bool)(hp: ∀b:UInt8,(bits .and .u8 (cls b.toNat:Int) m != 0)=p b)(w:World)(hT:TbW w)(hs:s.size<=9223372036854775807):
  Calls Tryz.prog 49 #[.string s, .int .u8 m] w fun e w'=>e= .returned (.int .i64 (spn p s.data.toList:Nat))/\w'=w:=by
 have HP:=hZq hp
 clear hp
 go_enter Tryz.func49,Tryz.ntmps49
 go_wp2
 go_loop [5] (fun i=> ∃k:Nat,k<=s.size/\k<=spn p s.data.toList/\i= .int .i64 k) (fun i=>s.size-(intOf i).toNat)
 case atStart=>exact ⟨0,Nat.zero_le _,Nat.zero_le _,rfl⟩
 case round=>
  obtain ⟨k,hk,hsp,rfl⟩:=hrel
  have HS:=hZq hsp
  clear hsp
  by_cases hlt:k<s.size
  ·have e:=uQ HP s[k]
   by_cases hpk:p s[k]=true
   ·rw[hpk]at e
    have HN:Hid (k+1<=spn p s.data.toList):=hZq (q25 (uQ HS) (by simpa using hlt) hpk)
    go_wp2_with (go_at_call 72;refine (q10 (s[k]).toNat (s[k]).toNat_lt _ hT).mono ?_;rintro e w' ⟨rfl,rfl⟩)
    go_round
    case rel=>exact ⟨k+1,by omega,uQ HN,by go_num⟩
    case measure=>simp[intOf];omega
   ·rw[show p s[k]=false by simpa using hpk]at e
    have HN:Hid (k=spn p s.data.toList):=hZq (q1C (uQ HS) (fun _=>Bool.eq_false_iff.2 hpk))
    go_wp2_with (go_at_call 72;refine (q10 (s[k]).toNat (s[k]).toNat_lt _ hT).mono ?_;rintro e w' ⟨rfl,rfl⟩)
    go_ret
    exact ⟨q0K (by rw[<-uQ HN]),rfl⟩
  ·have HN:Hid (k=spn p s.data.toList):=hZq (q1C (uQ HS) (fun h=>absurd (by simpa using h) hlt))
   go_wp2
   go_ret
   exact ⟨q0K (by rw[<-uQ HN]),rfl⟩
theorem qcf (s:ByteArray)(m:Int)(p:UInt8->Bool)(hp: ∀b:UInt8,(bits .and .u8 (cls b.toNat:Int) m==0)=p b)(w:World)(hT:TbW w)(hs:s.size<=9223372036854775807):
  Calls Tryz.prog 101 #[.string s, .int .u8 m] w fun e w'=>e= .returned (.int .i64 (spn p s.data.toList:Nat))/\w'=w:=by
 have HP:=hZq hp
 clear hp
 go_enter Tryz.func101,Tryz.ntmps101
 go_wp2
 go_loop [5] (fun i=> ∃k:Nat,k<=s.size/\k<=spn p s.data.toList/\i= .int .i64 k) (fun i=>s.size-(intOf i).toNat)
 case atStart=>exact ⟨0,Nat.zero_le _,Nat.zero_le _,rfl⟩
 case round=>
  obtain ⟨k,hk,hsp,rfl⟩:=hrel
  have HS:=hZq hsp
  clear hsp
  by_cases hlt:k<s.size
  ·have e:=uQ HP s[k]
   by_cases hpk:p s[k]=true
   ·rw[hpk]at e
    have HN:Hid (k+1<=spn p s.data.toList):=hZq (q25 (uQ HS) (by simpa using hlt) hpk)
    go_wp2_with (go_at_call 72;refine (q10 (s[k]).toNat (s[k]).toNat_lt _ hT).mono ?_;rintro e w' ⟨rfl,rfl⟩)
    go_round
    case rel=>exact ⟨k+1,by omega,uQ HN,by go_num⟩
    case measure=>simp[intOf];omega
   ·rw[show p s[k]=false by simpa using hpk]at e
    have HN:Hid (k=spn p s.data.toList):=hZq (q1C (uQ HS) (fun _=>Bool.eq_false_iff.2 hpk))
    go_wp2_with (go_at_call 72;refine (q10 (s[k]).toNat (s[k]).toNat_lt _ hT).mono ?_;rintro e w' ⟨rfl,rfl⟩)
    go_ret
    exact ⟨q0K (by rw[<-uQ HN]),rfl⟩
  ·have HN:Hid (k=spn p s.data.toList):=hZq (q1C (uQ HS) (fun h=>absurd (by simpa using h) hlt))
   go_wp2
   go_ret
   exact ⟨q0K (by rw[<-uQ HN]),rfl⟩
structure TbE (w:World):Prop where
 tok:TbW w
 fds:w.cell? ⟨4,0,none⟩=some (.string ⟨#[110,48]⟩)/\w.cell? ⟨4,1,none⟩=some (.string ⟨#[110,49]⟩)/\w.cell? ⟨4,2,none⟩=some (.string ⟨#[110,50]⟩)/\w.cell? ⟨4,3,none⟩=some (.string ⟨#[110,51]⟩)/\w.cell? ⟨4,4,none⟩=some (.string ⟨#[116,121,112,101]⟩)/\w.cell? ⟨4,5,none⟩=some (.string ⟨#[116,101,120,116]⟩)
theorem TbE.same {w w':World}(h:TbE w)(hs:w.heap.size<=w'.heap.size)(hb: ∀k,k<8->w'.heap[k]?=w.heap[k]?):TbE w':=by
 refine ⟨h.tok.same hs hb,?_⟩
 have e:=fun i=>World.cell?_of_block (w:=w') (w':=w) (a:=⟨4,i,none⟩) (hb 4 (by omega)).symm
 obtain ⟨h0,h1,h2,h3,h4,h5⟩:=h.fds
 exact ⟨(e 0).symm.trans h0,(e 1).symm.trans h1,(e 2).symm.trans h2,(e 3).symm.trans h3,(e 4).symm.trans h4,(e 5).symm.trans h5⟩
theorem TbE.below {B:Nat}{w w':World}(h:TbE w)(hb:Below B w w')(hB:8<=B):TbE w':=h.same hb.size fun k hk=>hb.block k (by omega)
theorem TbE.low {w:World}(h:TbE w):8<=w.heap.size:=h.tok.low
theorem TbE.blw {w w':World}(h:TbE w)(hb:Below w.heap.size w w'):TbE w':=h.below hb h.low
theorem TbE.kp {w w':World}{F:List Nat}(h:TbE w)(hk:Kp F w w')(hF: ∀k∈F,8<=k):TbE w':=h.same hk.size fun k hk6=>hk.block k (by have:=h.low;omega) (fun hm=>by have:=hF k hm;omega)
theorem TbE.alloc {w:World}(h:TbE w)(o:Obj):TbE (w.alloc o):=h.kp (Kp.alloc w o) (by simp)
theorem q5Z (c:UInt8)(w:World):Calls Tryz.prog 182 #[.int .u8 (c.toNat:Int)] w fun e w'=>e= .returned (.bool (q0A c))/\w'=w:=by
 unfold q0A
 by_cases h1:97<=c.toNat
 ·rw[decide_eq_true h1]
  generalize c.toNat=n at *
  go_enter Tryz.func182,Tryz.ntmps182
  go_wp2
  go_ret
  exact ⟨q0Z (by rw[Bool.true_and];exact decide_eq_decide.2 (by omega)),rfl⟩
 ·rw[zK h1]
  generalize c.toNat=n at *
  go_enter Tryz.func182,Tryz.ntmps182
  go_wp2
  go_ret
  exact ⟨rfl,rfl⟩
theorem q75 (c:UInt8)(w:World):Calls Tryz.prog 183 #[.int .u8 (c.toNat:Int)] w fun e w'=>e= .returned (.bool (q07 c))/\w'=w:=by
 unfold q07
 by_cases h1:48<=c.toNat
 ·rw[decide_eq_true h1]
  generalize c.toNat=n at *
  go_enter Tryz.func183,Tryz.ntmps183
  go_wp2
  go_ret
  exact ⟨q0Z (by rw[Bool.true_and];exact decide_eq_decide.2 (by omega)),rfl⟩
 ·rw[zK h1]
  generalize c.toNat=n at *
  go_enter Tryz.func183,Tryz.ntmps183
  go_wp2
  go_ret
  exact ⟨rfl,rfl⟩
theorem q5f (f:Int)(w:World):Calls Tryz.prog 164 #[.int .i64 f] w fun e w'=>e= .returned (.int .i64 (fldK f))/\w'=w:=by
 unfold fldK
 by_cases h1:f=4
 ·rw[if_pos (Or.inl h1)]
  subst h1
  go_enter Tryz.func164,Tryz.ntmps164
  go_wp2
  go_ret
  exact ⟨rfl,rfl⟩
 by_cases h2:f=5
 ·rw[if_pos (Or.inr h2)]
  subst h2
  go_enter Tryz.func164,Tryz.ntmps164
  go_wp2
  go_ret
  exact ⟨rfl,rfl⟩
 rw[if_neg (by omega)]
 by_cases h3:0<=f
 ·by_cases h4:f<4
  ·rw[if_pos ⟨h3,h4⟩]
   go_enter Tryz.func164,Tryz.ntmps164
   go_wp2
   go_ret
   exact ⟨rfl,rfl⟩
  ·rw[if_neg (by omega)]
   go_enter Tryz.func164,Tryz.ntmps164
   go_wp2
   go_ret
   exact ⟨rfl,rfl⟩
 ·rw[if_neg (by omega)]
  go_enter Tryz.func164,Tryz.ntmps164
  go_wp2
  go_ret
  exact ⟨rfl,rfl⟩
theorem toList_data (s:ByteArray):s.toList=s.data.toList:=Lib.toList_data s
theorem qeo (w:World):(Instr.index 297 (.agg #[.string ⟨#[110,48]⟩, .string ⟨#[110,49]⟩, .string ⟨#[110,50]⟩, .string ⟨#[110,51]⟩, .string ⟨#[116,121,112,101]⟩, .string ⟨#[116,101,120,116]⟩]) (.int .i64 0)).run Tryz.prog w= .ok (.string ⟨#[110,48]⟩) w/\(Instr.index 297 (.agg #[.string ⟨#[110,48]⟩, .string ⟨#[110,49]⟩, .string ⟨#[110,50]⟩, .string ⟨#[110,51]⟩, .string ⟨#[116,121,112,101]⟩, .string ⟨#[116,101,120,116]⟩]) (.int .i64 1)).run Tryz.prog w= .ok (.string ⟨#[110,49]⟩) w/\(Instr.index 297 (.agg #[.string ⟨#[110,48]⟩, .string ⟨#[110,49]⟩, .string ⟨#[110,50]⟩, .string ⟨#[110,51]⟩, .string ⟨#[116,121,112,101]⟩, .string ⟨#[116,101,120,116]⟩]) (.int .i64 2)).run Tryz.prog w= .ok (.string ⟨#[110,50]⟩) w/\(Instr.index 297 (.agg #[.string ⟨#[110,48]⟩, .string ⟨#[110,49]⟩, .string ⟨#[110,50]⟩, .string ⟨#[110,51]⟩, .string ⟨#[116,121,112,101]⟩, .string ⟨#[116,101,120,116]⟩]) (.int .i64 3)).run Tryz.prog w= .ok (.string ⟨#[110,51]⟩) w/\(Instr.index 297 (.agg #[.string ⟨#[110,48]⟩, .string ⟨#[110,49]⟩, .string ⟨#[110,50]⟩, .string ⟨#[110,51]⟩, .string ⟨#[116,121,112,101]⟩, .string ⟨#[116,101,120,116]⟩]) (.int .i64 4)).run Tryz.prog w= .ok (.string ⟨#[116,121,112,101]⟩) w/\(Instr.index 297 (.agg #[.string ⟨#[110,48]⟩, .string ⟨#[110,49]⟩, .string ⟨#[110,50]⟩, .string ⟨#[110,51]⟩, .string ⟨#[116,121,112,101]⟩, .string ⟨#[116,101,120,116]⟩]) (.int .i64 5)).run Tryz.prog w= .ok (.string ⟨#[116,101,120,116]⟩) w:=by
 simp[Instr.index,run_underlying Tryz.underlying297,part,Tryz.sizeOf9,go_sem]
def noFd (l:List UInt8)(k:Nat):Prop:= ∀j,j<k->l≠fldW.getD j []
theorem q1j {l:List UInt8}{k:Nat}(h:noFd l k)(hk:l≠fldW.getD k []):noFd l (k+1):=fun j hj=>by
 rcases Nat.lt_or_ge j k with h1|h1
 ·exact h j h1
 ·obtain rfl:j=k:=by omega
  exact hk
theorem qb7 {l:List UInt8}(h:noFd l 6):q0n l= -1:=by
 unfold q0n
 rw[if_neg (show l≠[110,48] from h 0 (by omega))]
 rw[if_neg (show l≠[110,49] from h 1 (by omega))]
 rw[if_neg (show l≠[110,50] from h 2 (by omega))]
 rw[if_neg (show l≠[110,51] from h 3 (by omega))]
 rw[if_neg (show l≠[116,121,112,101] from h 4 (by omega))]
 rw[if_neg (show l≠[116,101,120,116] from h 5 (by omega))]
theorem qcV:q0n [110,48]=0:=by decide
theorem qcW:q0n [110,49]=1:=by decide
theorem qcX:q0n [110,50]=2:=by decide
theorem qcY:q0n [110,51]=3:=by decide
theorem qcZ:q0n [116,121,112,101]=4:=by decide
theorem qd:q0n [116,101,120,116]=5:=by decide
theorem q2m (s:ByteArray)(w:World)(hT:TbE w):Calls Tryz.prog 198 #[.string s] w fun e w'=>e= .returned (.int .i64 (q0n s.data.toList))/\w'=w:=by
 obtain ⟨f0,f1,f2,f3,f4,f5⟩:=hT.fds
 clear hT
 have tl:=toList_data s
 generalize hl:s.data.toList=l at tl ⊢
 clear hl
 generalize hF:q0n l=F
 have HF:=hZq hF
 clear hF
 go_enter Tryz.func198,Tryz.ntmps198
 go_wp2
 go_loop [6] (fun i=> ∃k:Nat,k<=6/\Hid (noFd l k)/\i= .int .i64 (k:Int)) (fun i=>6-(intOf i).toNat)
 case atStart=>exact ⟨0,by omega,hZq (fun j hj=>by omega),rfl⟩
 case round=>
  obtain ⟨k,hk,HN,rfl⟩:=hrel
  have ix:=fun w=>qeo w
  rcases (show k=0\/k=1\/k=2\/k=3\/k=4\/k=5\/k=6 by omega)with rfl|rfl|rfl|rfl|rfl|rfl|rfl
  ·by_cases e:l=[110,48]
   ·have g1:([110,48]=s.toList)=True:=by rw[tl,e];simp
    have g2:([110,48]==s.toList)=true:=by rw[tl,e];decide
    have E:Hid (F=0):=hZq (by rw[<-uQ HF,e];exact qcV)
    clear tl e HF
    go_wp2
    go_ret
    exact ⟨q0K (uQ E).symm,rfl⟩
   ·have g1:([110,48]=s.toList)=False:=by rw[tl];simp;exact fun h=>e h.symm
    have g2:([110,48]==s.toList)=false:=by rw[tl];simp;exact fun h=>e h.symm
    have HN2:Hid (noFd l 1):=hZq (q1j (uQ HN) e)
    clear tl e
    go_wp2
    go_round
    case rel=>exact ⟨1,by omega,HN2,by go_num⟩
    case measure=>simp[intOf]
  ·by_cases e:l=[110,49]
   ·have g1:([110,49]=s.toList)=True:=by rw[tl,e];simp
    have g2:([110,49]==s.toList)=true:=by rw[tl,e];decide
    have E:Hid (F=1):=hZq (by rw[<-uQ HF,e];exact qcW)
    clear tl e HF
    go_wp2
    go_ret
    exact ⟨q0K (uQ E).symm,rfl⟩
   ·have g1:([110,49]=s.toList)=False:=by rw[tl];simp;exact fun h=>e h.symm
    have g2:([110,49]==s.toList)=false:=by rw[tl];simp;exact fun h=>e h.symm
    have HN2:Hid (noFd l 2):=hZq (q1j (uQ HN) e)
    clear tl e
    go_wp2
    go_round
    case rel=>exact ⟨2,by omega,HN2,by go_num⟩
    case measure=>simp[intOf]
  ·by_cases e:l=[110,50]
   ·have g1:([110,50]=s.toList)=True:=by rw[tl,e];simp
    have g2:([110,50]==s.toList)=true:=by rw[tl,e];decide
    have E:Hid (F=2):=hZq (by rw[<-uQ HF,e];exact qcX)
    clear tl e HF
    go_wp2
    go_ret
    exact ⟨q0K (uQ E).symm,rfl⟩
   ·have g1:([110,50]=s.toList)=False:=by rw[tl];simp;exact fun h=>e h.symm
    have g2:([110,50]==s.toList)=false:=by rw[tl];simp;exact fun h=>e h.symm
    have HN2:Hid (noFd l 3):=hZq (q1j (uQ HN) e)
    clear tl e
    go_wp2
    go_round
    case rel=>exact ⟨3,by omega,HN2,by go_num⟩
    case measure=>simp[intOf]
  ·by_cases e:l=[110,51]
   ·have g1:([110,51]=s.toList)=True:=by rw[tl,e];simp
    have g2:([110,51]==s.toList)=true:=by rw[tl,e];decide
    have E:Hid (F=3):=hZq (by rw[<-uQ HF,e];exact qcY)
    clear tl e HF
    go_wp2
    go_ret
    exact ⟨q0K (uQ E).symm,rfl⟩
   ·have g1:([110,51]=s.toList)=False:=by rw[tl];simp;exact fun h=>e h.symm
    have g2:([110,51]==s.toList)=false:=by rw[tl];simp;exact fun h=>e h.symm
    have HN2:Hid (noFd l 4):=hZq (q1j (uQ HN) e)
    clear tl e
    go_wp2
    go_round
    case rel=>exact ⟨4,by omega,HN2,by go_num⟩
    case measure=>simp[intOf]
  ·by_cases e:l=[116,121,112,101]
   ·have g1:([116,121,112,101]=s.toList)=True:=by rw[tl,e];simp
    have g2:([116,121,112,101]==s.toList)=true:=by rw[tl,e];decide
    have E:Hid (F=4):=hZq (by rw[<-uQ HF,e];exact qcZ)
    clear tl e HF
    go_wp2
    go_ret
    exact ⟨q0K (uQ E).symm,rfl⟩
   ·have g1:([116,121,112,101]=s.toList)=False:=by rw[tl];simp;exact fun h=>e h.symm
    have g2:([116,121,112,101]==s.toList)=false:=by rw[tl];simp;exact fun h=>e h.symm
    have HN2:Hid (noFd l 5):=hZq (q1j (uQ HN) e)
    clear tl e
    go_wp2
    go_round
    case rel=>exact ⟨5,by omega,HN2,by go_num⟩
    case measure=>simp[intOf]
  ·by_cases e:l=[116,101,120,116]
   ·have g1:([116,101,120,116]=s.toList)=True:=by rw[tl,e];simp
    have g2:([116,101,120,116]==s.toList)=true:=by rw[tl,e];decide
    have E:Hid (F=5):=hZq (by rw[<-uQ HF,e];exact qd)
    clear tl e HF
    go_wp2
    go_ret
    exact ⟨q0K (uQ E).symm,rfl⟩
   ·have g1:([116,101,120,116]=s.toList)=False:=by rw[tl];simp;exact fun h=>e h.symm
    have g2:([116,101,120,116]==s.toList)=false:=by rw[tl];simp;exact fun h=>e h.symm
    have HN2:Hid (noFd l 6):=hZq (q1j (uQ HN) e)
    clear tl e
    go_wp2
    go_round
    case rel=>exact ⟨6,by omega,HN2,by go_num⟩
    case measure=>simp[intOf]
  ·have E:Hid (F= -1):=hZq (by rw[<-uQ HF];exact qb7 (uQ HN))
   go_wp2
   go_ret
   exact ⟨q0K (uQ E).symm,rfl⟩
open Go
def q4P {H:Type}(zs:List (List UInt8)):DataW H:= .agg (zs.map fun z=> .lit (.string z))
theorem q5d {H:Type}{enc:TypeId × Value->H}{P:Program}{w:World}{base:Nat}{sp:Nat->Bool}{held:Bool}{fuel:Nat}{t e:TypeId}{n:Nat}{cs:List Value}{zs:List (List UInt8)}{p:List MemPlace}
  (ht:P.underlying t=some (.array n e)) (he:P.underlying e=some .string) (hce:P.cellsOf e=1) (hct:P.cellsOf t=n)
  (h:DataW.trod enc P w base sp held fuel t cs=some (q4P zs,p)):cs=zs.map fun z=>Value.string ⟨z.toArray⟩:=by
 cases fuel with
 |zero=>simp[DataW.trod]at h
 |succ fuel=>
  simp only[DataW.trod,ht,hce,hct,Nat.mul_one]at h
  split at h
  ·rename_i hl
   obtain ⟨xs,hm,hx⟩:=Option.map_eq_some_iff.1 h
   have hxs:xs.map (·.1)=zs.map fun z=>(DataW.lit (.string z):DataW H):=by
    have:=congrArg Prod.fst hx
    simpa [q4P] using this
   have hxl:xs.length=n:=by simpa using Lib.mapM_length hm
   have hzl:zs.length=n:=by
    have:=congrArg List.length hxs
    simp at this
    omega
   apply List.ext_getElem?
   intro i
   by_cases hi:i<n
   ·obtain ⟨b,hb,hf⟩:=Lib.mapM_at hm i i (by simp[hi])
    obtain ⟨s,hc,rfl,_⟩:=DataW.trod_string he hf
    have h1:cs[i]?=some (.string s):=by
     have:=congrArg (·[0]?) hc
     simpa [List.getElem?_take,List.getElem?_drop] using this
    have h2:(xs.map (·.1))[i]?=some (DataW.lit (.string s.data.toList):DataW H):=by simp[hb]
    rw[hxs]at h2
    simp only[List.getElem?_map,Option.map_eq_some_iff,DataW.lit.injEq,Lit.string.injEq]at h2
    obtain ⟨z',hz',rfl⟩:=h2
    simp[h1,hz']
   ·rw[List.getElem?_eq_none (by omega),List.getElem?_eq_none (by simp;omega)]
  ·cases h
theorem q6H {P:Program}{W:World}{name:String}{zs:List (List UInt8)}{rest:List (String × DataW Unit)}{g:Nat}{t e:TypeId}{n:Nat}
  (hg:P.globalNamed name=some g) (hty:(P.globals[g]?).map (·.type)=some t) (ht:P.underlying t=some (.array n e)) (he:P.underlying e=some .string) (hce:P.cellsOf e=1) (hct:P.cellsOf t=n)
  (h:laidMet P ((name,q4P zs)::rest) W) (i:Nat):W.cell? ⟨g,i,none⟩=(zs.map fun z=>Value.string ⟨z.toArray⟩)[i]?:=by
 obtain ⟨ps,⟨g',t',cs,fuel,p,q,hg',ht',hvar,hd,_,_⟩,_⟩:=h
 obtain rfl:=Option.some.inj (hg.symm.trans hg')
 obtain rfl:=Option.some.inj (hty.symm.trans ht')
 rw[World.var?_cell hg hvar i, <-q5d ht he hce hct hd]
 simp
theorem qcq:Tryz.prog.globalNamed "weaver/token.sets"=some 1:=by kernel_rfl
theorem qek:(Tryz.prog.globals[1]?).map (·.type)=some 169:=by kernel_rfl
theorem gRng:Tryz.prog.globalNamed "strconv.ErrRange"=some 3:=by kernel_rfl
theorem qf6:(Tryz.prog.globals[3]?).map (·.type)=some 171:=by kernel_rfl
theorem qf5:(Tryz.prog.globals[5]?).map (·.type)=some 307:=by kernel_rfl
theorem gDb:Tryz.prog.globalNamed "math/bits.deBruijn64tab"=some 7:=by kernel_rfl
theorem gDbT:(Tryz.prog.globals[7]?).map (·.type)=some 311:=by kernel_rfl
theorem gFds:Tryz.prog.globalNamed "weaver/expr.fields"=some 4:=by kernel_rfl
theorem qf4:(Tryz.prog.globals[4]?).map (·.type)=some 297:=by kernel_rfl
theorem qe1:Tryz.prog.cellsOf 297=6:=by kernel_rfl
theorem q7v:Tryz.prog.cellsOf 5=1:=by kernel_rfl
theorem qaP:Tryz.prog.cellsOf 129=1:=by kernel_rfl
theorem qaN:Tryz.prog.cellsOf 169=128:=by kernel_rfl
theorem qcB:Tryz.prog.cellsOf 307=20:=by kernel_rfl
theorem qcC:Tryz.prog.cellsOf 311=64:=by kernel_rfl
theorem qaO:Tryz.prog.cellsOf 279=1:=by kernel_rfl
theorem q5w:Tryz.prog.cellsOf 9=1:=by kernel_rfl
theorem q7A:"*"++"errors.errorString"="*errors.errorString":=by decide
theorem qe7 (u:TypeId)(h:Tryz.prog.typeName? 3 u=some "*errors.errorString"):u=277:=
 typeName_ptr_named (nm:="errors.errorString") (by rw[q7A];kernel_rfl) (by kernel_rfl) (by decide) u (by rw[q7A];exact h)
def qcr:List (String × DataW Unit):=[("math/bits.deBruijn32tab",Rows.laid_math_bits_deBruijn32tab),("math/bits.deBruijn64tab",Rows.laid_math_bits_deBruijn64tab),("internal/strconv.uint64pow10",Rows.laid_internal_strconv_uint64pow10),("strconv.ErrRange",Rows.laid_strconv_ErrRange),("strconv.ErrSyntax",Rows.laid_strconv_ErrSyntax),("weaver/token.sets",Rows.laid_weaver_token_sets),("weaver/expr.fields",Rows.laid_weaver_expr_fields)]
def setsI:List Int:=[0,0,0,0,0,0,0,0,0,0,3,0,0,0,0,0,0,0,0,0,0,0,0,0,0,0,0,0,0,0,0,0,1,128,0,0,0,0,0,16,32,32,32,32,0,32,32,0,8,8,8,8,8,8,8,8,8,8,32,32,64,64,0,0,0,0,0,0,0,0,0,0,0,0,0,0,0,0,0,0,0,0,0,0,0,0,0,0,0,0,0,0,0,0,0,0,0,4,4,4,4,4,4,4,4,4,4,4,4,4,4,4,4,4,4,4,4,4,4,4,4,4,4,0,0,0,0,0]
def dbI:List Int:=[0,1,56,2,57,49,28,3,61,58,42,50,38,29,17,4,62,47,59,36,45,43,51,22,53,39,33,30,24,18,12,5,63,55,48,27,60,41,37,16,46,35,44,21,52,32,23,11,54,26,40,15,34,20,31,10,25,14,19,9,13,8,7,6]
theorem qae: ∀i:Fin 128,setsI.getD i.val 0=((cls i.val:Nat):Int):=by decide+kernel
theorem tbE {W:World}(h0:laidMetH Tryz.prog qcr W):TbE W:=by
 have h:laidMet Tryz.prog qcr W:=h0
 have t1:=h.tail
 have hdb:Lib.TabIs Tryz.prog W "math/bits.deBruijn64tab" .u8 dbI:=Lib.tabIs_of_head gDb gDbT Tryz.underlying311 Tryz.underlying5 q7v qcC t1
 have hlow:8<=W.heap.size:=World.block_lt_of_cell? _ _ (hdb.cell gDb 0 (by decide))
 have t2:=t1.tail
 have t3:=t2.tail
 have t5:=t3.tail.tail
 have t6:=t5.tail
 have hpow:Lib.TabIs Tryz.prog W "internal/strconv.uint64pow10" .u64 Lib.pow10Tab:=Lib.tabIs_of_head gPow qf5 Tryz.underlying307 Tryz.underlying129 qaP qcB t2
 have hset:Lib.TabIs Tryz.prog W "weaver/token.sets" .u8 setsI:=Lib.tabIs_of_head qcq qek Tryz.underlying169 Tryz.underlying5 q7v qaN t5
 obtain ⟨a,s,hv,_⟩:=laid_sentinel t3 gRng qf6 Tryz.underlying171 qe7 Tryz.underlying277 Tryz.underlying279 rfl rfl Tryz.underlying9 qaO q5w
 have fd:=fun i=>q6H (zs:=fldW) gFds qf4 Tryz.underlying297 Tryz.underlying9 q5w qe1 t6 i
 refine ⟨⟨hlow,fun i hi=>?_,hpow,⟨_,_,by simpa using World.var?_cell gRng hv 0⟩⟩,fd 0,fd 1,fd 2,fd 3,fd 4,fd 5⟩
 rw[hset.cell qcq i (by simpa [setsI] using hi),qae ⟨i,hi⟩]
def q1f (cs:Array Value):Obj->Obj
 | .cells _ t f=> .cells cs t f
 |o=>o
def qf2:Array Value:=#[.int .u8 0, .int .u8 1, .int .u8 28, .int .u8 2, .int .u8 29, .int .u8 14, .int .u8 24, .int .u8 3, .int .u8 30, .int .u8 22, .int .u8 20, .int .u8 15, .int .u8 25, .int .u8 17, .int .u8 4, .int .u8 8, .int .u8 31, .int .u8 27, .int .u8 13, .int .u8 23, .int .u8 21, .int .u8 19, .int .u8 16, .int .u8 7, .int .u8 26, .int .u8 12, .int .u8 18, .int .u8 6, .int .u8 11, .int .u8 5, .int .u8 10, .int .u8 9]
def qf3:Array Value:=(dbI.map fun z=>Value.int .u8 z).toArray
def qfm:Array Value:=(setsI.map fun z=>Value.int .u8 z).toArray
def powV:Array Value:=(Lib.pow10Tab.map fun z=>Value.int .u64 z).toArray
def fdsV:Array Value:=(fldW.map fun z=>Value.string ⟨z.toArray⟩).toArray
def q1S:Array Obj:=#[.cells #[.string ⟨#[118,97,108,117,101,32,111,117,116,32,111,102,32,114,97,110,103,101]⟩] 279, .cells #[.string ⟨#[105,110,118,97,108,105,100,32,115,121,110,116,97,120]⟩] 279]
def putL (h:Array Obj):Array Obj:=
 ((((((h.modify 1 (q1f qfm)).modify 2 (q1f #[.iface 277 (.pointer (some ⟨14,0,none⟩))])).modify 3 (q1f #[.iface 277 (.pointer (some ⟨13,0,none⟩))])).modify 5 (q1f powV)).modify 6 (q1f qf2)).modify 7 (q1f qf3)).modify 4 (q1f fdsV)
end Go.Proofs.YtfgkikeeadlcfaaGreatDoor
namespace Go.Proofs.YtfgkikeeadlcfaaGreatDoor.Mt
structure Pm where
 N:Nat
 many:Nat->Bool
 how:Nat->Int
 len:Nat
 H:Nat->List Nat->Nat->Bool
def lst (l:List Nat):Nat:=l.getLastD 0
def las (T:List (List Nat))(i:Nat):List Nat:=(T.take i).map lst
def endT (T:List (List Nat)):Nat:=lst (T.getLastD [])
def btw (P:Pm)(T:List (List Nat))(t p q:Nat):Bool:=
 decide (P.how t=3)||(if P.how t=2 then (List.range' (p+1) (q-(p+1))).all (fun r=> !P.H t (las T t) r) else decide (q=p+1))
def ext (T:List (List Nat))(t q:Nat):List (List Nat):=if t=T.length then T++[[q]] else T.dropLast++[T.getLastD []++[q]]
def cand (P:Pm)(en:Nat)(T:List (List Nat))(t:Nat):List Nat:=(List.range' (endT T+1) (en-(endT T+1))).filter fun q=>P.H t (las T t) q && btw P T t (endT T) q
def rds (P:Pm)(T:List (List Nat)):List Nat:=(if P.many (T.length-1)=true then [T.length-1] else [])++(if T.length<P.N then [T.length] else [])
def dfs (P:Pm)(en:Nat):Nat->List (List Nat)->List (List (List Nat))
 |0,_=>[]
 |f+1,T=>(if T.length=P.N then [T] else [])++(rds P T).flatMap fun t=>(cand P en T t).flatMap fun q=>dfs P en f (ext T t q)
def alg (P:Pm)(en f:Nat)(T:List (List Nat))(t:Nat):List (List (List Nat)):=(cand P en T t).flatMap fun q=>dfs P en f (ext T t q)
theorem q0N (P:Pm)(en f:Nat)(T:List (List Nat)):dfs P en (f+1) T=(if T.length=P.N then [T] else [])++(rds P T).flatMap (alg P en f T):=rfl
theorem lst_snoc (l:List Nat)(q:Nat):lst (l++[q])=q:=by unfold lst;simp
theorem endT_snoc (T:List (List Nat))(l:List Nat):endT (T++[l])=lst l:=by unfold endT;simp
theorem endT_ext (T:List (List Nat))(t q:Nat):endT (ext T t q)=q:=by
 unfold ext
 split
 ·rw[endT_snoc];rfl
 ·rw[endT_snoc,lst_snoc]
theorem ext_len {T:List (List Nat)}{t:Nat}(q:Nat)(h:t=T.length\/t+1=T.length):(ext T t q).length=t+1:=by
 unfold ext
 rcases h with h|h
 ·rw[if_pos h];simp[h]
 ·rw[if_neg (by omega)];simp;omega
theorem ext_ne (T:List (List Nat))(t q:Nat):ext T t q≠[]:=by unfold ext;split <;> simp
theorem qdk {T:List (List Nat)}{t q i:Nat}(h:t=T.length\/t+1=T.length)(hi:i<=t):las (ext T t q) i=las T i:=by
 unfold las ext
 rcases h with h|h
 ·rw[if_pos h,List.take_append_of_le_length (by omega)]
 ·rw[if_neg (by omega),List.take_append_of_le_length (by simp;omega),List.dropLast_eq_take,List.take_take]
  congr 2
  omega
theorem mem_cand {P:Pm}{en t q:Nat}{T:List (List Nat)}:q∈cand P en T t↔endT T<q/\q<en/\P.H t (las T t) q=true/\btw P T t (endT T) q=true:=by
 unfold cand
 rw[List.mem_filter,List.mem_range',Bool.and_eq_true]
 constructor
 ·rintro ⟨⟨i,hi,rfl⟩,h⟩
  exact ⟨by omega,by omega,h⟩
 ·rintro ⟨h1,h2,h⟩
  exact ⟨⟨q-(endT T+1),by omega,by omega⟩,h⟩
theorem q99 {P:Pm}{en t:Nat}{T:List (List Nat)}(h:en<=endT T+1):cand P en T t=[]:=by
 unfold cand
 rw[show en-(endT T+1)=0 by omega]
 rfl
theorem q0S {α β:Type}{l:List α}{f g:α->List β}(h: ∀a∈l,f a=g a):l.flatMap f=l.flatMap g:=by
 induction l with
 |nil=>rfl
 |cons a l ih=>rw[List.flatMap_cons,List.flatMap_cons,h a (by simp),ih (fun b hb=>h b (by simp[hb]))]
theorem qaU {P:Pm}{en:Nat}: ∀(f:Nat) (T:List (List Nat)),en<=endT T+(f+1)->dfs P en (f+2) T=dfs P en (f+1) T:=by
 intro f
 induction f with
 |zero=>
  intro T h
  rw[q0N,q0N]
  congr 1
  refine q0S fun t _=>?_
  unfold alg
  rw[q99 h]
  rfl
 |succ f ih=>
  intro T h
  rw[q0N,q0N P en (f+1)]
  congr 1
  refine q0S fun t _=>?_
  unfold alg
  refine q0S fun q hq=>?_
  have:=(mem_cand.1 hq).1
  exact ih _ (by rw[endT_ext];omega)
inductive Rd (P:Pm) (en:Nat):List (List Nat)->List (List Nat)->Prop
 |refl (T:List (List Nat)):Rd P en T T
 |step {T X:List (List Nat)} {t q:Nat} (ht:t∈rds P T) (hq:q∈cand P en T t) (h:Rd P en (ext T t q) X):Rd P en T X
theorem q1A {P:Pm}{en:Nat}: ∀(f:Nat) (T X:List (List Nat)),X∈dfs P en f T->X.length=P.N/\Rd P en T X:=by
 intro f
 induction f with
 |zero=>intro T X h;cases h
 |succ f ih=>
  intro T X h
  rw[q0N,zG]at h
  rcases h with h|h
  ·split at h
   ·rename_i e
    rw[zD]at h
    subst h
    exact ⟨e, .refl _⟩
   ·cases h
  ·rw[List.mem_flatMap]at h
   obtain ⟨t,ht,h⟩:=h
   unfold alg at h
   rw[List.mem_flatMap]at h
   obtain ⟨q,hq,h⟩:=h
   obtain ⟨h1,h2⟩:=ih _ _ h
   exact ⟨h1, .step ht hq h2⟩
theorem q3q {P:Pm}{en:Nat}{T X:List (List Nat)}(h:Rd P en T X)(hN:X.length=P.N): ∀f,en<=endT T+(f+1)->X∈dfs P en (f+1) T:=by
 induction h with
 |refl T=>
  intro f _
  rw[q0N,if_pos hN]
  simp
 | @step T X t q ht hq h ih=>
  intro f hf
  rw[q0N,zG]
  refine Or.inr (List.mem_flatMap.2 ⟨t,ht,?_⟩)
  unfold alg
  refine List.mem_flatMap.2 ⟨q,hq,?_⟩
  have hm:=mem_cand.1 hq
  cases f with
  |zero=>omega
  |succ f=>exact ih hN f (by rw[endT_ext];omega)
theorem q4U {P:Pm}{en en' t q:Nat}{T:List (List Nat)}(h:en'<=en)(hq:q∈cand P en' T t):q∈cand P en T t:=by
 rw[mem_cand]at hq ⊢
 exact ⟨hq.1,by omega,hq.2.2⟩
theorem Rd.less {P:Pm}{en en':Nat}{T X:List (List Nat)}(h:en'<=en)(hr:Rd P en' T X):Rd P en T X:=by
 induction hr with
 |refl T=>exact .refl T
 |step ht hq _ ih=>exact .step ht (q4U h hq) ih
def Asks (P:Pm)(ask:Nat->Nat->Bool):Prop:= ∀t l l' q,l.length=l'.length->(∀i,ask t i=true->l[i]?=l'[i]?)->P.H t l q=P.H t l' q
structure Alk (ask:Nat->Nat->Bool)(t0:Nat)(T U:List (List Nat)):Prop where
 len:T.length=U.length
 fin:endT T=endT U
 ahd: ∀i,i+1<T.length-> ∀t,t0<=t->ask t i=true->(T[i]?).map lst=(U[i]?).map lst
theorem Alk.mono {ask:Nat->Nat->Bool}{t0 t1:Nat}{T U:List (List Nat)}(h:Alk ask t0 T U)(hle:t0<=t1):Alk ask t1 T U:=⟨h.len,h.fin,fun i hi t ht ha=>h.ahd i hi t (by omega) ha⟩
theorem q1x {T:List (List Nat)}(h:T≠[]):(T[T.length-1]?).map lst=some (endT T):=by
 unfold endT
 rw[<-List.getLast?_eq_getElem?,List.getLastD_eq_getLast?]
 cases hl:T.getLast? with
 |none=>exact absurd (List.getLast?_eq_none_iff.1 hl) h
 |some a=>rfl
theorem las_at {T:List (List Nat)}{t i:Nat}(hi:i<t):(las T t)[i]?=(T[i]?).map lst:=by
 unfold las
 rw[List.getElem?_map,List.getElem?_take,if_pos hi]
theorem las_len {T:List (List Nat)}{t:Nat}(h:t<=T.length):(las T t).length=t:=by unfold las;rw[zI,zL];omega
theorem Alk.H {P:Pm}{ask:Nat->Nat->Bool}(hA:Asks P ask){t:Nat}{T U:List (List Nat)}(h:Alk ask t T U)(h0:T≠[])(ht:t=T.length\/t+1=T.length)(q:Nat):P.H t (las T t) q=P.H t (las U t) q:=by
 have hl:=h.len
 refine hA t _ _ q (by rw[las_len (by omega),las_len (by omega)]) (fun i ha=>?_)
 by_cases hi:i<t
 ·rw[las_at hi,las_at hi]
  by_cases hlast:i+1<T.length
  ·exact h.ahd i hlast t (zM _) ha
  ·have h1:=q1x h0
   have h2:=q1x (T:=U) (fun e=>h0 (List.eq_nil_of_length_eq_zero (by rw[hl,e];rfl)))
   rw[show T.length-1=i by omega]at h1
   rw[show U.length-1=i by omega]at h2
   rw[h1,h2,h.fin]
 ·rw[List.getElem?_eq_none (by rw[las_len (by omega)];omega),List.getElem?_eq_none (by rw[las_len (by omega)];omega)]
theorem Alk.cand {P:Pm}{ask:Nat->Nat->Bool}(hA:Asks P ask){en t:Nat}{T U:List (List Nat)}(h:Alk ask t T U)(h0:T≠[])(ht:t=T.length\/t+1=T.length):cand P en T t=cand P en U t:=by
 have hH:=fun q=>h.H hA h0 ht q
 unfold Go.Proofs.YtfgkikeeadlcfaaGreatDoor.Mt.cand btw
 rw[h.fin]
 simp only[hH]
theorem q37 {T:List (List Nat)}{t q i:Nat}(ht:t=T.length\/t+1=T.length)(hi:i<t):(ext T t q)[i]?=T[i]?:=by
 unfold ext
 rcases ht with ht|ht
 ·rw[if_pos ht,List.getElem?_append_left (by omega)]
 ·rw[if_neg (by omega),List.getElem?_append_left (by simp;omega),List.dropLast_eq_take,List.getElem?_take,if_pos (by omega)]
theorem Alk.ext {ask:Nat->Nat->Bool}{t:Nat}{T U:List (List Nat)}(h:Alk ask t T U)(h0:T≠[])(ht:t=T.length\/t+1=T.length)(q:Nat):Alk ask t (ext T t q) (ext U t q):=by
 have hl:=h.len
 have ht':t=U.length\/t+1=U.length:=by omega
 refine ⟨by rw[ext_len q ht,ext_len q ht'],by rw[endT_ext,endT_ext],fun i hi t1 ht1 ha=>?_⟩
 rw[ext_len q ht]at hi
 rw[q37 ht (by omega),q37 ht' (by omega)]
 by_cases hlast:i+1<T.length
 ·exact h.ahd i hlast t1 ht1 ha
 ·have h1:=q1x h0
  have h2:=q1x (T:=U) (fun e=>h0 (List.eq_nil_of_length_eq_zero (by rw[hl,e];rfl)))
  rw[show T.length-1=i by omega]at h1
  rw[show U.length-1=i by omega]at h2
  rw[h1,h2,h.fin]
theorem q4E {P:Pm}{T:List (List Nat)}{t:Nat}(h0:T≠[])(h:t∈rds P T):t=T.length\/t+1=T.length:=by
 have:0<T.length:=List.length_pos_iff.2 h0
 unfold rds at h
 rw[zG]at h
 rcases h with h|h
 ·split at h
  ·rw[zD]at h;omega
  ·cases h
 ·split at h
  ·rw[zD]at h;exact Or.inl h
  ·cases h
theorem qdI {P:Pm}{T U:List (List Nat)}(h:T.length=U.length):rds P T=rds P U:=by unfold rds;rw[h]
theorem Rd.alk {P:Pm}{ask:Nat->Nat->Bool}(hA:Asks P ask){en:Nat}{T X:List (List Nat)}(hr:Rd P en T X): ∀U,T≠[]->Alk ask (T.length-1) T U-> ∃Y,Y.length=X.length/\Rd P en U Y:=by
 induction hr with
 |refl T=>intro U _ h;exact ⟨U,h.len.symm, .refl _⟩
 | @step T X t q ht hq _ ih=>
  intro U h0 h
  have hm:=q4E h0 ht
  have hk:Alk ask t T U:=h.mono (by omega)
  obtain ⟨Y,h1,h2⟩:=ih (Go.Proofs.YtfgkikeeadlcfaaGreatDoor.Mt.ext U t q) (ext_ne _ _ _) (by rw[ext_len q hm];exact hk.ext h0 hm q)
  refine ⟨Y,h1, .step (t:=t) (q:=q) ?_ ?_ h2⟩
  ·rw[<-qdI h.len];exact ht
  ·rw[<-hk.cand hA h0 hm];exact hq
theorem Alk.dead {P:Pm}{ask:Nat->Nat->Bool}(hA:Asks P ask){en f t:Nat}{T U:List (List Nat)}(h:Alk ask t T U)(h0:T≠[])(ht:t=T.length\/t+1=T.length)(hf:en<=endT T+(f+2))(hd:alg P en (f+1) U t=[]):alg P en (f+1) T t=[]:=by
 cases hc:alg P en (f+1) T t with
 |nil=>rfl
 |cons X l=>
  exfalso
  have hX:X∈alg P en (f+1) T t:=by rw[hc];simp
  unfold alg at hX hd
  obtain ⟨q,hq,hX⟩:=List.mem_flatMap.1 hX
  obtain ⟨h1,h2⟩:=q1A _ _ _ hX
  have hk:=h.ext h0 ht q
  obtain ⟨Y,h3,h4⟩:=h2.alk hA (Go.Proofs.YtfgkikeeadlcfaaGreatDoor.Mt.ext U t q) (ext_ne _ _ _) (by rw[ext_len q ht];exact hk)
  have hqm:=mem_cand.1 hq
  have hY:Y∈dfs P en (f+1) (Go.Proofs.YtfgkikeeadlcfaaGreatDoor.Mt.ext U t q):=q3q h4 (by rw[h3];exact h1) f (by rw[endT_ext];omega)
  have:Y∈(Go.Proofs.YtfgkikeeadlcfaaGreatDoor.Mt.cand P en U t).flatMap fun q=>dfs P en (f+1) (Go.Proofs.YtfgkikeeadlcfaaGreatDoor.Mt.ext U t q):=List.mem_flatMap.2 ⟨q,by rw[<-h.cand hA h0 ht];exact hq,hY⟩
  rw[hd]at this
  cases this
theorem qaz {P:Pm}{en en' f f' t:Nat}{T:List (List Nat)}(hle:en'<=en)(hf:en<=endT T+(f+2))(hd:alg P en (f+1) T t=[]):alg P en' f' T t=[]:=by
 cases hc:alg P en' f' T t with
 |nil=>rfl
 |cons X l=>
  exfalso
  have hX:X∈alg P en' f' T t:=by rw[hc];simp
  unfold alg at hX hd
  obtain ⟨q,hq,hX⟩:=List.mem_flatMap.1 hX
  obtain ⟨h1,h2⟩:=q1A _ _ _ hX
  have hqm:=mem_cand.1 hq
  have:X∈(Go.Proofs.YtfgkikeeadlcfaaGreatDoor.Mt.cand P en T t).flatMap fun q=>dfs P en (f+1) (Go.Proofs.YtfgkikeeadlcfaaGreatDoor.Mt.ext T t q):=List.mem_flatMap.2 ⟨q,q4U hle hq,q3q (h2.less hle) h1 f (by rw[endT_ext];omega)⟩
  rw[hd]at this
  cases this
theorem q9N {P:Pm}{ask:Nat->Nat->Bool}(hA:Asks P ask){en f s q q':Nat}{T:List (List Nat)}(hs:s+1=T.length)(hm:P.many s=true)(hq:q∈cand P en T s)(hq':q'∈cand P en T s)(hlt:q<q')(hf:en<=q+(f+1))(hd:dfs P en (f+1) (ext T s q)=[])(f':Nat):dfs P en f' (ext T s q')=[]:=by
 cases hc:dfs P en f' (ext T s q')with
 |nil=>rfl
 |cons X l=>
  exfalso
  have hX:X∈dfs P en f' (ext T s q'):=by rw[hc];simp
  obtain ⟨h1,h2⟩:=q1A _ _ _ hX
  have a1:=mem_cand.1 hq
  have a2:=mem_cand.1 hq'
  have hth:s=T.length\/s+1=T.length:=Or.inr hs
  have hlen:(ext T s q).length=s+1:=ext_len q hth
  have hthx:s=(ext T s q).length\/s+1=(ext T s q).length:=Or.inr hlen.symm
  have h3:P.how s=3:=by
   have hb:=a2.2.2.2
   unfold btw at hb
   rw[Bool.or_eq_true]at hb
   rcases hb with hb|hb
   ·exact of_decide_eq_true hb
   ·split at hb
    ·rw[List.all_eq_true]at hb
     have:=hb q (List.mem_range'.2 ⟨q-(endT T+1),by omega,by omega⟩)
     rw[a1.2.2.1]at this
     cases this
    ·have:=of_decide_eq_true hb
     omega
  have hcand:q'∈cand P en (ext T s q) s:=by
   rw[mem_cand,endT_ext,qdk hth (zM _)]
   refine ⟨hlt,a2.2.1,a2.2.2.1,?_⟩
   unfold btw
   rw[h3]
   rfl
  have hrd:s∈rds P (ext T s q):=by
   unfold rds
   rw[hlen,show s+1-1=s by omega,if_pos hm]
   simp
  have hk:Alk ask ((ext T s q').length-1) (ext T s q') (ext (ext T s q) s q'):=by
   refine ⟨by rw[ext_len q' hth,ext_len q' hthx],by rw[endT_ext,endT_ext],fun i hi t _ _=>?_⟩
   rw[ext_len q' hth]at hi
   rw[q37 hth (by omega),q37 hthx (by omega),q37 hth (by omega)]
  obtain ⟨Y,h4,h5⟩:=h2.alk hA _ (ext_ne _ _ _) hk
  have:=q3q (.step hrd hcand h5) (by rw[h4];exact h1) f (by rw[endT_ext];exact hf)
  rw[hd]at this
  cases this
def q2E:Nat->List (List Nat)->List (Nat × Nat)
 |_,[]=>[]
 |n,l::r=>l.map (fun q=>(n,q))++q2E (n+1) r
def code (T:List (List Nat)):List (Nat × Nat):=q2E 0 T
theorem q8j (T:List (List Nat))(l:List Nat): ∀n,q2E n (T++[l])=q2E n T++l.map (fun q=>(n+T.length,q)):=by
 induction T with
 |nil=>intro n;simp[q2E]
 |cons a T ih=>
  intro n
  rw[List.cons_append,q2E,q2E,ih,List.append_assoc]
  congr 3
  rw[List.length_cons,show n+1+T.length=n+(T.length+1) by omega]
theorem q34 (T:List (List Nat))(l:List Nat):code (T++[l])=code T++l.map (fun q=>(T.length,q)):=by
 unfold code
 rw[q8j,Nat.zero_add]
theorem q5C {T:List (List Nat)}{t q:Nat}(h0:T≠[])(ht:t=T.length\/t+1=T.length):code (ext T t q)=code T++[(t,q)]:=by
 unfold ext
 rcases ht with ht|ht
 ·rw[if_pos ht,q34,ht];rfl
 ·rw[if_neg (by omega)]
  have e:T=T.dropLast++[T.getLastD []]:=by
   rw[List.getLastD_eq_getLast?,List.getLast?_eq_some_getLast h0]
   exact (List.dropLast_concat_getLast h0).symm
  have hd:T.dropLast.length=t:=by rw[List.length_dropLast];omega
  conv=>rhs;rw[e]
  rw[q34,q34,List.map_append, <-List.append_assoc,hd]
  rfl
theorem Rd.code {P:Pm}{en:Nat}{T X:List (List Nat)}(h:Rd P en T X):T≠[]-> ∃r,code X=code T++r:=by
 induction h with
 |refl T=>intro _;exact ⟨[],by simp⟩
 | @step T X t q ht hq _ ih=>
  intro h0
  obtain ⟨r,hr⟩:=ih (ext_ne _ _ _)
  rw[q5C h0 (q4E h0 ht),List.append_assoc]at hr
  exact ⟨_,hr⟩
theorem q36 {P:Pm}{en f t q:Nat}{T X:List (List Nat)}(h0:T≠[])(ht:t∈rds P T)(h:X∈dfs P en f (ext T t q)):(Go.Proofs.YtfgkikeeadlcfaaGreatDoor.Mt.code X)[(Go.Proofs.YtfgkikeeadlcfaaGreatDoor.Mt.code T).length]?=some (t,q):=by
 obtain ⟨_,h2⟩:=q1A _ _ _ h
 obtain ⟨r,hr⟩:=h2.code (ext_ne _ _ _)
 rw[q5C h0 (q4E h0 ht)]at hr
 rw[hr]
 simp
theorem q2L {α β:Type}{l:List α}{f:α->List β}(hl:l.Nodup)(h1: ∀a∈l,(f a).Nodup)(h2: ∀a∈l, ∀b∈l,a≠b-> ∀x∈f a,x∉f b):(l.flatMap f).Nodup:=by
 induction l with
 |nil=>simp
 |cons a l ih=>
  rw[List.nodup_cons]at hl
  rw[List.flatMap_cons,List.nodup_append]
  refine ⟨h1 a (by simp),ih hl.2 (fun b hb=>h1 b (by simp[hb])) (fun b hb c hc=>h2 b (by simp[hb]) c (by simp[hc])),fun x hx y hy e=>?_⟩
  subst e
  obtain ⟨b,hb,hy⟩:=List.mem_flatMap.1 hy
  exact h2 a (by simp) b (by simp[hb]) (fun e=>hl.1 (by rw[e];exact hb)) x hx hy
theorem qa7 (P:Pm){T:List (List Nat)}(h0:T≠[]):(rds P T).Nodup:=by
 have:0<T.length:=List.length_pos_iff.2 h0
 unfold rds
 split <;> split <;> simp
 omega
theorem q8h (P:Pm)(en:Nat)(T:List (List Nat))(t:Nat):(cand P en T t).Nodup:=by
 unfold cand
 exact (List.nodup_range' (step:=1) (by omega)).filter _
theorem q9d {P:Pm}{en:Nat}: ∀(f:Nat) (T:List (List Nat)),T≠[]->(dfs P en f T).Nodup:=by
 intro f
 induction f with
 |zero=>intro T _;simp[dfs]
 |succ f ih=>
  intro T h0
  rw[q0N,List.nodup_append]
  refine ⟨by split <;> simp,?_,?_⟩
  ·refine q2L (qa7 P h0) (fun t ht=>?_) (fun t ht u hu hne x hx hy=>?_)
   ·unfold alg
    refine q2L (q8h P en T t) (fun q _=>ih _ (ext_ne _ _ _)) (fun q _ p _ hne x hx hy=>?_)
    have h1:=q36 h0 ht hx
    rw[q36 h0 ht hy]at h1
    simp only[Option.some.injEq,Prod.mk.injEq]at h1
    exact hne h1.2.symm
   ·unfold alg at hx hy
    obtain ⟨q,_,hx⟩:=List.mem_flatMap.1 hx
    obtain ⟨p,_,hy⟩:=List.mem_flatMap.1 hy
    have h1:=q36 h0 ht hx
    rw[q36 h0 hu hy]at h1
    simp only[Option.some.injEq,Prod.mk.injEq]at h1
    exact hne h1.1.symm
  ·intro x hx y hy e
   subst e
   split at hx
   ·rw[zD]at hx
    subst hx
    obtain ⟨t,ht,hy⟩:=List.mem_flatMap.1 hy
    unfold alg at hy
    obtain ⟨q,_,hy⟩:=List.mem_flatMap.1 hy
    have h1:=q36 h0 ht hy
    rw[List.getElem?_eq_none (zM _)]at h1
    cases h1
   ·cases hx
end Go.Proofs.YtfgkikeeadlcfaaGreatDoor.Mt
namespace Go.Proofs.YtfgkikeeadlcfaaGreatDoor.Mt
structure OkL (P:Pm)(A:List (List Nat))(l:List Nat):Prop where
 ne:l≠[]
 one:1<l.length->P.many A.length=true
 met: ∀q∈l,P.H A.length (las A A.length) q=true
 gap: ∀(B:List Nat) (p q:Nat) (C:List Nat),l=B++p::q::C->p<q/\btw P A A.length p q=true
 fst:A≠[]-> ∀q C,l=q::C->endT A<q/\btw P A A.length (endT A) q=true
structure Rgt (P:Pm)(T:List (List Nat)):Prop where
 le:T.length<=P.N
 low: ∀l∈T, ∀q∈l,q<P.len
 ok: ∀A l B,T=A++l::B->OkL P A l
theorem q8S {T A B:List (List Nat)}{l x:List Nat}(h:T++[x]=A++l::B):(B=[]/\A=T/\l=x)\/ ∃C,B=C++[x]/\T=A++l::C:=by
 rcases List.eq_nil_or_concat B with rfl|⟨C,y,rfl⟩
 ·left
  have h2:T++[x]=A++[l]:=h
  obtain ⟨h3,h4⟩:=List.append_inj' h2 rfl
  cases h4
  exact ⟨rfl,h3.symm,rfl⟩
 ·right
  have h2:T++[x]=(A++l::C)++[y]:=by rw[h];simp
  obtain ⟨h3,h4⟩:=List.append_inj' h2 rfl
  cases h4
  exact ⟨C,by simp,h3⟩
theorem Rgt.snoc {P:Pm}{T:List (List Nat)}{x:List Nat}(h:Rgt P (T++[x])):Rgt P T/\OkL P T x/\T.length<P.N/\ ∀q∈x,q<P.len:=by
 have hl:=h.le
 rw[zF]at hl
 refine ⟨⟨by omega,fun l hl=>h.low l (by simp[hl]),fun A l B e=>h.ok A l (B++[x]) (by rw[e];simp)⟩,h.ok T x [] rfl,by simp at hl;omega,fun q hq=>h.low x (by simp) q hq⟩
theorem Rgt.put {P:Pm}{T:List (List Nat)}{x:List Nat}(h:Rgt P T)(hx:OkL P T x)(hl:T.length<P.N)(hq: ∀q∈x,q<P.len):Rgt P (T++[x]):=by
 refine ⟨by rw[zF];exact hl,fun l hl=>?_,fun A l B e=>?_⟩
 ·rw[zG,zD]at hl
  rcases hl with hl|rfl
  ·exact h.low l hl
  ·exact hq
 ·rcases q8S e with ⟨rfl,rfl,rfl⟩|⟨C,rfl,e2⟩
  ·exact hx
  ·exact h.ok A l C e2
theorem qcd {l B C:List Nat}{x p q:Nat}(h:l++[x]=B++p::q::C):(C=[]/\q=x/\l=B++[p])\/ ∃D,C=D++[x]/\l=B++p::q::D:=by
 rcases List.eq_nil_or_concat C with rfl|⟨D,y,rfl⟩
 ·left
  have h2:l++[x]=(B++[p])++[q]:=by rw[h];simp
  obtain ⟨h3,h4⟩:=List.append_inj' h2 rfl
  cases h4
  exact ⟨rfl,rfl,h3⟩
 ·right
  have h2:l++[x]=(B++p::q::D)++[y]:=by rw[h];simp
  obtain ⟨h3,h4⟩:=List.append_inj' h2 rfl
  cases h4
  exact ⟨D,by simp,h3⟩
theorem OkL.more {P:Pm}{A:List (List Nat)}{l:List Nat}(h:OkL P A l){q:Nat}(hm:P.many A.length=true)(hH:P.H A.length (las A A.length) q=true)(hlt:lst l<q)(hb:btw P A A.length (lst l) q=true):OkL P A (l++[q]):=by
 refine ⟨by simp,fun _=>hm,fun x hx=>?_,fun B p r C e=>?_,fun hA x C e=>?_⟩
 ·rw[zG,zD]at hx
  rcases hx with hx|rfl
  ·exact h.met x hx
  ·exact hH
 ·rcases qcd e with ⟨_,rfl,e2⟩|⟨D,_,e2⟩
  ·have:lst l=p:=by rw[e2,lst_snoc]
   rw[<-this]
   exact ⟨hlt,hb⟩
  ·exact h.gap B p r D e2
 ·cases l with
  |nil=>exact absurd rfl h.ne
  |cons y l=>
   cases e
   exact h.fst hA x l rfl
theorem OkL.less {P:Pm}{A:List (List Nat)}{l:List Nat}{q:Nat}(h:OkL P A (l++[q]))(hne:l≠[]):OkL P A l/\P.many A.length=true/\P.H A.length (las A A.length) q=true/\lst l<q/\btw P A A.length (lst l) q=true:=by
 refine ⟨⟨hne,fun hl=>h.one (by rw[zF];omega),fun x hx=>h.met x (by simp[hx]),fun B p r C e=>h.gap B p r (C++[q]) (by rw[e];simp),fun hA x C e=>h.fst hA x (C++[q]) (by rw[e];simp)⟩,h.one ?_,h.met q (by simp),?_⟩
 ·have:=List.length_pos_iff.2 hne
  simp
  omega
 ·rcases List.eq_nil_or_concat l with e|⟨B,p,rfl⟩
  ·exact absurd e hne
  ·rw[List.concat_eq_append,lst_snoc]
   exact h.gap B p q [] (by simp)
theorem OkL.new {P:Pm}{A:List (List Nat)}{q:Nat}(hH:P.H A.length (las A A.length) q=true)(hf:A≠[]->endT A<q/\btw P A A.length (endT A) q=true):OkL P A [q]:=by
 refine ⟨by simp,fun h=>by simp at h,fun x hx=>by rw[zD]at hx;rw[hx];exact hH,fun B p r C e=>?_,fun hA x C e=>by cases e;exact hf hA⟩
 have:=congrArg List.length e
 simp at this
 omega
theorem las_app {A B:List (List Nat)}{i:Nat}(h:i<=A.length):las (A++B) i=las A i:=by unfold las;rw[List.take_append_of_le_length h]
theorem btw_app {P:Pm}{A B:List (List Nat)}{t p q:Nat}(h:t<=A.length):btw P (A++B) t p q=btw P A t p q:=by unfold btw;rw[las_app h]
theorem Rgt.step {P:Pm}{en t q:Nat}{T:List (List Nat)}(h:Rgt P T)(h0:T≠[])(hen:en<=P.len)(ht:t∈rds P T)(hq:q∈cand P en T t):Rgt P (ext T t q):=by
 have hm:=mem_cand.1 hq
 unfold rds at ht
 rw[zG]at ht
 rcases ht with ht|ht
 ·split at ht
  ·rename_i hmany
   rw[zD]at ht
   rcases List.eq_nil_or_concat T with e|⟨A,l,rfl⟩
   ·exact absurd e h0
   rw[List.concat_eq_append]at *
   obtain ⟨h1,h2,h3,h4⟩:=h.snoc
   have hlen:t=A.length:=by rw[ht];simp
   subst hlen
   have he:ext (A++[l]) A.length q=A++[l++[q]]:=by
    unfold ext
    rw[if_neg (by simp)]
    simp
   rw[he]
   rw[las_app (zM _),btw_app (zM _),endT_snoc]at hm
   have hmn:P.many A.length=true:=by simpa using hmany
   refine h1.put (h2.more hmn hm.2.2.1 hm.1 hm.2.2.2) h3 (fun x hx=>?_)
   rw[zG,zD]at hx
   rcases hx with hx|rfl
   ·exact h4 x hx
   ·omega
  ·cases ht
 ·split at ht
  ·rename_i hlt
   rw[zD]at ht
   subst ht
   have he:ext T T.length q=T++[[q]]:=by unfold ext;rw[if_pos rfl]
   rw[he]
   exact h.put (OkL.new hm.2.2.1 (fun _=>⟨hm.1,hm.2.2.2⟩)) hlt (fun x hx=>by rw[zD]at hx;omega)
  ·cases ht
theorem Rd.rgt {P:Pm}{en:Nat}(hen:en<=P.len){T X:List (List Nat)}(h:Rd P en T X):T≠[]->Rgt P T->Rgt P X:=by
 induction h with
 |refl T=>intro _ h;exact h
 |step ht hq _ ih=>intro h0 h;exact ih (ext_ne _ _ _) (h.step h0 hen ht hq)
theorem Rd.trans {P:Pm}{en:Nat}{A B C:List (List Nat)}(h:Rd P en A B)(h2:Rd P en B C):Rd P en A C:=by
 induction h with
 |refl T=>exact h2
 |step ht hq _ ih=>exact .step ht hq (ih h2)
theorem Rd.fin {P:Pm}{en:Nat}{T X:List (List Nat)}(h:Rd P en T X):endT T<=endT X:=by
 induction h with
 |refl T=>exact zM _
 |step _ hq _ ih=>
  rw[endT_ext]at ih
  have:=(mem_cand.1 hq).1
  omega
theorem Rd.bound {P:Pm}{en e:Nat}{T X:List (List Nat)}(h:Rd P en T X):endT X<e->Rd P e T X:=by
 induction h with
 |refl T=>intro _;exact .refl T
 | @step T X t q ht hq hr ih=>
  intro he
  have hf:=hr.fin
  rw[endT_ext]at hf
  have hm:=mem_cand.1 hq
  exact .step ht (mem_cand.2 ⟨hm.1,by omega,hm.2.2⟩) (ih he)
def fstT (T:List (List Nat)):Nat:=(T.headD []).headD 0
def cnt (T:List (List Nat)):Nat:=(T.map List.length).sum
theorem q5B (T:List (List Nat))(l:List Nat):cnt (T++[l])=cnt T+l.length:=by unfold cnt;simp
theorem q5Q {A:List (List Nat)}(h:A≠[])(B:List (List Nat)):fstT (A++B)=fstT A:=by
 cases A with
 |nil=>exact absurd rfl h
 |cons a A=>rfl
theorem Rgt.reach {P:Pm}: ∀(n:Nat) (T:List (List Nat)),cnt T=n->T≠[]->Rgt P T->P.H 0 [] (fstT T)=true/\fstT T<P.len/\Rd P P.len [[fstT T]] T:=by
 intro n
 induction n using Nat.strongRecOn with
 |ind n ih=>
  intro T hn h0 h
  rcases List.eq_nil_or_concat T with e|⟨A,l,rfl⟩
  ·exact absurd e h0
  rw[List.concat_eq_append]at *
  obtain ⟨h1,h2,h3,h4⟩:=h.snoc
  rw[q5B]at hn
  rcases List.eq_nil_or_concat l with e|⟨m,q,rfl⟩
  ·exact absurd e h2.ne
  rw[List.concat_eq_append]at *
  rw[zF,List.length_singleton]at hn
  by_cases hm:m=[]
  ·subst hm
   by_cases hA:A=[]
   ·subst hA
    exact ⟨h2.met q (by simp),h4 q (by simp), .refl _⟩
   ·obtain ⟨i1,i2,i3⟩:=ih (cnt A) (by simp at hn;omega) A rfl hA h1
    rw[q5Q hA]
    refine ⟨i1,i2,i3.trans ?_⟩
    have he:ext A A.length q=A++[[]++[q]]:=by unfold ext;rw[if_pos rfl];rfl
    have hf:=h2.fst hA q [] rfl
    have hs:Rd P P.len A (ext A A.length q):= .step (t:=A.length) (q:=q) (by unfold rds;rw[if_pos h3];simp) (mem_cand.2 ⟨hf.1,h4 q (by simp),h2.met q (by simp),hf.2⟩) (.refl _)
    rw[he]at hs
    exact hs
  ·obtain ⟨o1,o2,o3,o4,o5⟩:=h2.less hm
   have hr:Rgt P (A++[m]):=h1.put o1 h3 (fun x hx=>h4 x (by simp[hx]))
   obtain ⟨i1,i2,i3⟩:=ih (cnt (A++[m])) (by rw[q5B];omega) (A++[m]) rfl (by simp) hr
   have hfst:fstT (A++[m++[q]])=fstT (A++[m]):=by
    cases A with
    |nil=>
     cases m with
     |nil=>exact absurd rfl hm
     |cons a m=>rfl
    |cons a A=>rfl
   rw[hfst]
   refine ⟨i1,i2,i3.trans ?_⟩
   have he:ext (A++[m]) A.length q=A++[m++[q]]:=by
    unfold ext
    rw[if_neg (by simp)]
    simp
   have hs:Rd P P.len (A++[m]) (ext (A++[m]) A.length q):=by
    refine .step (t:=A.length) (q:=q) ?_ (mem_cand.2 ?_) (.refl _)
    ·unfold rds
     rw[zF,List.length_singleton,show A.length+1-1=A.length by omega,if_pos o2]
     simp
    ·rw[las_app (zM _),btw_app (zM _),endT_snoc]
     exact ⟨o4,h4 q (by simp),o3,o5⟩
   rw[he]at hs
   exact hs
theorem Rd.fst {P:Pm}{en:Nat}{T X:List (List Nat)}(h:Rd P en T X):T≠[]->(∀l∈T,l≠[])->fstT X=fstT T/\ ∀l∈X,l≠[]:=by
 induction h with
 |refl T=>intro _ h;exact ⟨rfl,h⟩
 | @step T X t q ht hq _ ih=>
  intro h0 hn
  have hx:fstT (ext T t q)=fstT T/\ ∀l∈ext T t q,l≠[]:=by
   rcases List.eq_nil_or_concat T with e|⟨A,l,rfl⟩
   ·exact absurd e h0
   rw[List.concat_eq_append]at *
   have hl:l≠[]:=hn l (by simp)
   unfold Go.Proofs.YtfgkikeeadlcfaaGreatDoor.Mt.ext
   split
   ·refine ⟨q5Q (by simp) _,fun x hx=>?_⟩
    rw[zG,zD]at hx
    rcases hx with hx|rfl
    ·exact hn x hx
    ·simp
   ·simp only[List.dropLast_concat,List.getLastD_concat]
    refine ⟨?_,fun x hx=>?_⟩
    ·cases A with
     |nil=>
      cases l with
      |nil=>exact absurd rfl hl
      |cons a l=>rfl
     |cons a A=>rfl
    ·rw[zG,zD]at hx
     rcases hx with hx|rfl
     ·exact hn x (by simp[hx])
     ·simp
  obtain ⟨i1,i2⟩:=ih (ext_ne _ _ _) hx.2
  exact ⟨i1.trans hx.1,i2⟩
def fnd (P:Pm)(wi:Nat):List (List (List Nat)):=(List.range P.len).reverse.flatMap fun x=>if P.H 0 [] x=true then dfs P (min (x+wi) P.len) (P.len+1) [[x]] else []
theorem fnd_iff {P:Pm}{wi:Nat}(hwi:1<=wi)(hN:1<=P.N)(X:List (List Nat)):X∈fnd P wi↔Rgt P X/\X.length=P.N/\endT X<fstT X+wi:=by
 unfold fnd
 rw[List.mem_flatMap]
 constructor
 ·rintro ⟨x,hx,h⟩
  rw[List.mem_reverse,List.mem_range]at hx
  split at h
  ·rename_i hH
   obtain ⟨h1,h2⟩:=q1A _ _ _ h
   have hone:Rgt P [[x]]:=by
    have:=(Rgt.mk (P:=P) (T:=[]) (Nat.zero_le _) (by simp) (fun A l B e=>by cases A <;> cases e)).put (OkL.new (A:=[]) (q:=x) hH (fun h=>absurd rfl h)) hN (by simpa using hx)
    simpa using this
   obtain ⟨f1,_⟩:=h2.fst (by simp) (by simp)
   have f2:fstT X=x:=f1
   refine ⟨h2.rgt (Nat.min_le_right _ _) (by simp) hone,h1,?_⟩
   rw[f2]
   --the last place lies within the end
   have hb: ∀{T Y:List (List Nat)},Rd P (min (x+wi) P.len) T Y->endT T<x+wi->endT Y<x+wi:=by
    intro T Y hr
    induction hr with
    |refl T=>intro h;exact h
    |step _ hq _ ih=>
     intro _
     refine ih ?_
     rw[endT_ext]
     have:=(mem_cand.1 hq).2.1
     omega
   exact hb h2 (by show x<x+wi;omega)
  ·cases h
 ·rintro ⟨h1,h2,h3⟩
  have h0:X≠[]:=fun e=>by rw[e]at h2;simp at h2;omega
  obtain ⟨r1,r2,r3⟩:=h1.reach _ X rfl h0
  refine ⟨fstT X,by rw[List.mem_reverse,List.mem_range];exact r2,?_⟩
  rw[if_pos r1]
  have hlen:endT X<P.len:=by
   rcases List.eq_nil_or_concat X with e|⟨A,l,rfl⟩
   ·exact absurd e h0
   rw[List.concat_eq_append]at *
   rw[endT_snoc]
   obtain ⟨_,o,_,h4⟩:=h1.snoc
   rcases List.eq_nil_or_concat l with e|⟨m,q,rfl⟩
   ·exact absurd e o.ne
   ·rw[List.concat_eq_append,lst_snoc]
    exact h4 q (by simp)
  exact q3q (r3.bound (by omega)) h2 _ (by show _<=fstT X+_;omega)
theorem fnd_nodup (P:Pm)(wi:Nat):(fnd P wi).Nodup:=by
 unfold fnd
 refine q2L (by unfold List.Nodup;rw[List.pairwise_reverse];exact List.nodup_range.imp fun h=>Ne.symm h) (fun x _=>?_) (fun x _ y _ hne X hx hy=>?_)
 ·split
  ·exact q9d _ _ (by simp)
  ·simp
 ·split at hx
  ·split at hy
   ·have a:=((q1A _ _ _ hx).2.fst (by simp) (by simp)).1
    have b:=((q1A _ _ _ hy).2.fst (by simp) (by simp)).1
    rw[a]at b
    exact hne b
   ·cases hy
  ·cases hx
end Go.Proofs.YtfgkikeeadlcfaaGreatDoor.Mt
namespace Go.Proofs.YtfgkikeeadlcfaaGreatDoor.Mt
def opn (P:Pm)(T:List (List Nat))(t r:Nat):Bool:=decide (P.how t=3)||(decide (P.how t=2) && !P.H t (las T t) r)
def rest (P:Pm)(en:Nat)(T:List (List Nat))(t q:Nat):List Nat:=(List.range' q (en-q)).filter fun q=>P.H t (las T t) q && btw P T t (endT T) q
theorem btw_first (P:Pm)(T:List (List Nat))(t p:Nat):btw P T t p (p+1)=true:=by
 unfold btw
 rw[show p+1-(p+1)=0 by omega]
 simp
theorem btw_next {P:Pm}{T:List (List Nat)}{t p q:Nat}(hp:p<q)(hb:btw P T t p q=true):btw P T t p (q+1)=opn P T t q:=by
 unfold btw at hb ⊢
 unfold opn
 by_cases h3:P.how t=3
 ·simp[h3]
 ·by_cases h2:P.how t=2
  ·rw[zK h3,Bool.false_or,if_pos h2]at hb ⊢
   rw[Bool.false_or,decide_eq_true h2,Bool.true_and,show q+1-(p+1)=(q-(p+1))+1 by omega,List.range'_concat,List.all_append,hb]
   simp
   rw[show p+1+(q-(p+1))=q by omega]
  ·rw[zK h3,Bool.false_or,if_neg h2,Bool.false_or,zK h2,Bool.false_and]
   exact zK (by omega)
theorem qaJ {P:Pm}{T:List (List Nat)}{t p q r:Nat}(hp:p<q)(hle:q<=r)(hb:btw P T t p r=true):btw P T t p q=true:=by
 unfold btw at hb ⊢
 rw[Bool.or_eq_true]at hb ⊢
 rcases hb with hb|hb
 ·exact Or.inl hb
 ·refine Or.inr ?_
  by_cases h2:P.how t=2
  ·rw[if_pos h2,List.all_eq_true]at hb ⊢
   intro x hx
   obtain ⟨k,hk,e⟩:=List.mem_range'.1 hx
   exact hb x (List.mem_range'.2 ⟨k,by omega,e⟩)
  ·rw[if_neg h2]at hb ⊢
   have:=of_decide_eq_true hb
   exact decide_eq_true (by omega)
theorem qbO {P:Pm}{en t q:Nat}{T:List (List Nat)}(h:en<=q):rest P en T t q=[]:=by
 unfold rest
 rw[show en-q=0 by omega]
 rfl
theorem mem_rest {P:Pm}{en t q r:Nat}{T:List (List Nat)}:r∈rest P en T t q↔q<=r/\r<en/\P.H t (las T t) r=true/\btw P T t (endT T) r=true:=by
 unfold rest
 rw[List.mem_filter,List.mem_range',Bool.and_eq_true]
 constructor
 ·rintro ⟨⟨i,hi,rfl⟩,h⟩
  exact ⟨by omega,by omega,h⟩
 ·rintro ⟨h1,h2,h⟩
  exact ⟨⟨r-q,by omega,by omega⟩,h⟩
theorem qa8 {P:Pm}{en t q:Nat}{T:List (List Nat)}(hp:endT T<q)(hb:btw P T t (endT T) q=true)(hq:q<en):rest P en T t q=(if P.H t (las T t) q=true then [q] else [])++(if opn P T t q=true then rest P en T t (q+1) else []):=by
 have e1:rest P en T t q=(if P.H t (las T t) q=true then [q] else [])++rest P en T t (q+1):=by
  unfold rest
  rw[show en-q=(en-(q+1))+1 by omega,List.range'_succ,List.filter_cons]
  rw[hb,Bool.and_true]
  split <;> rfl
 rw[e1]
 congr 1
 by_cases ho:opn P T t q=true
 ·rw[if_pos ho]
 ·rw[if_neg ho]
  cases hc:rest P en T t (q+1)with
  |nil=>rfl
  |cons r l=>
   exfalso
   have hr:r∈rest P en T t (q+1):=by rw[hc];simp
   have hm:=mem_rest.1 hr
   have:=qaJ (q:=q+1) (by omega) hm.1 hm.2.2.2
   rw[btw_next hp hb]at this
   exact ho this
def wlk (P:Pm)(en f:Nat)(T:List (List Nat))(t q:Nat):List (List (List Nat)):=(rest P en T t q).flatMap fun q=>dfs P en f (ext T t q)
theorem qdU {P:Pm}{en f t q:Nat}{T:List (List Nat)}(h:en<=q):wlk P en f T t q=[]:=by unfold wlk;rw[qbO h];rfl
theorem qcl {P:Pm}{en f t q:Nat}{T:List (List Nat)}(hp:endT T<q)(hb:btw P T t (endT T) q=true)(hq:q<en):wlk P en f T t q=(if P.H t (las T t) q=true then dfs P en f (ext T t q) else [])++(if opn P T t q=true then wlk P en f T t (q+1) else []):=by
 unfold wlk
 rw[qa8 hp hb hq,List.flatMap_append]
 congr 1
 ·split <;> simp
 ·split <;> simp
theorem qck {P:Pm}{ask:Nat->Nat->Bool}(hA:Asks P ask){en f s q:Nat}{T:List (List Nat)}(hs:s+1=T.length)(hm:P.many s=true)(hp:endT T<q)(hb:btw P T s (endT T) q=true)(hq:q<en)(hH:P.H s (las T s) q=true)(hf:en<=q+(f+1))(hd:dfs P en (f+1) (ext T s q)=[]):wlk P en (f+1) T s (q+1)=[]:=by
 have hz: ∀r∈rest P en T s (q+1),dfs P en (f+1) (ext T s r)=[]:=fun r hr=>by
  have h:=mem_rest.1 hr
  exact q9N hA hs hm (mem_cand.2 ⟨hp,hq,hH,hb⟩) (mem_cand.2 ⟨by omega,h.2⟩) (by omega) hf hd _
 unfold wlk
 rw[q0S hz]
 induction rest P en T s (q+1)with
 |nil=>rfl
 |cons a l _=>simp
end Go.Proofs.YtfgkikeeadlcfaaGreatDoor.Mt
namespace Go.Proofs.YtfgkikeeadlcfaaGreatDoor.Mt
structure Asg (P:Pm)(T:List (List Nat)):Prop where
 ne:T≠[]
 le:T.length<=P.N
 one: ∀i l,T[i]?=some l->l≠[]/\(1<l.length->P.many i=true)
 inc:T.flatten.Pairwise (· < ·)
 low: ∀q∈T.flatten,q<P.len
def Cnd (P:Pm)(T:List (List Nat)):Prop:= ∀i l,T[i]?=some l-> ∀k q,l[k]?=some q->P.H i (las T i) q=true/\(∀p,0<k->l[k-1]?=some p->btw P T i p q=true)/\(k=0->0<i->btw P T i (lst ((T[i-1]?).getD [])) q=true)
theorem q6E {P:Pm}{T A B:List (List Nat)}{l:List Nat}(e:T=A++l::B):T[A.length]?=some l/\las T A.length=las A A.length/\ ∀p q,btw P T A.length p q=btw P A A.length p q:=by
 subst e
 exact ⟨by simp,las_app (zM _),fun p q=>btw_app (zM _)⟩
theorem q5G {A:List (List Nat)}{l:List Nat}{B:List (List Nat)}(h0:A≠[]):lst (((A++l::B)[A.length-1]?).getD [])=endT A:=by
 have hp:=List.length_pos_iff.2 h0
 rw[List.getElem?_append_left (by omega)]
 have:=q1x h0
 cases h:A[A.length-1]? with
 |none=>rw[h]at this;cases this
 |some a=>rw[h]at this;simpa using this
theorem Cnd.rgt {P:Pm}{T:List (List Nat)}(ha:Asg P T)(hc:Cnd P T):Rgt P T:=by
 refine ⟨ha.le,fun l hl q hq=>ha.low q (List.mem_flatten.2 ⟨l,hl,hq⟩),fun A l B e=>?_⟩
 obtain ⟨s1,s2,s3⟩:=q6E (P:=P) e
 obtain ⟨o1,o2⟩:=ha.one _ _ s1
 have hinc:=ha.inc
 rw[e,List.flatten_append,List.flatten_cons,List.pairwise_append]at hinc
 obtain ⟨_,i2,i3⟩:=hinc
 rw[List.pairwise_append]at i2
 refine ⟨o1,o2,fun q hq=>?_,fun C p q D el=>?_,fun hA q C el=>?_⟩
 ·obtain ⟨k,hk,rfl⟩:=List.getElem_of_mem hq
  have:=(hc _ _ s1 k _ (zE hk)).1
  rwa [s2]at this
 ·have hl:=i2.1
  rw[el,List.pairwise_append]at hl
  have hpq:p<q:=(List.pairwise_cons.1 hl.2.1).1 q (by simp)
  have:=(hc _ _ s1 (C.length+1) q (by rw[el];simp)).2.1 p (by omega) (by rw[el];simp)
  rw[s3]at this
  exact ⟨hpq,this⟩
 ·have hb:=(hc _ _ s1 0 q (by rw[el];rfl)).2.2 rfl (List.length_pos_iff.2 hA)
  rw[s3]at hb
  have hq:q∈l++B.flatten:=by rw[el];simp
  have he:=q5G (l:=l) (B:=B) hA
  rw[<-e]at he
  rw[he]at hb
  refine ⟨?_,hb⟩
  --the last place of what lies ahead is one of its places
  have hm:endT A∈A.flatten:=by
   rcases List.eq_nil_or_concat A with e0|⟨C',m,rfl⟩
   ·exact absurd e0 hA
   rw[List.concat_eq_append]at *
   rw[endT_snoc]
   have hm0:m≠[]:=by
    have:T[C'.length]?=some m:=by rw[e];simp
    exact (ha.one _ _ this).1
   rcases List.eq_nil_or_concat m with e1|⟨m',z,rfl⟩
   ·exact absurd e1 hm0
   ·rw[List.concat_eq_append,lst_snoc]
    simp
  exact i3 _ hm _ hq
theorem q3b {T:List (List Nat)}{i:Nat}{l:List Nat}(h:T[i]?=some l): ∃A B,T=A++l::B/\A.length=i:=by
 obtain ⟨hi,e⟩:=zC.1 h
 refine ⟨T.take i,T.drop (i+1),?_,by rw[zL];omega⟩
 rw[<-e,List.getElem_cons_drop,List.take_append_drop]
theorem Rgt.cnd {P:Pm}{T:List (List Nat)}(h:Rgt P T):Cnd P T:=by
 intro i l hl k q hk
 obtain ⟨A,B,e,rfl⟩:=q3b hl
 have o:=h.ok A l B e
 obtain ⟨_,s2,s3⟩:=q6E (P:=P) e
 obtain ⟨hkl,rfl⟩:=zC.1 hk
 refine ⟨by rw[s2];exact o.met _ (zJ hkl),fun p hk0 hp=>?_,fun hk0 hi=>?_⟩
 ·obtain ⟨hpl,rfl⟩:=zC.1 hp
  rw[s3]
  refine (o.gap (l.take (k-1)) _ _ (l.drop (k+1)) ?_).2
  have e1:l[k]::l.drop (k+1)=l.drop k:=List.getElem_cons_drop _
  have e2:l[k-1]::l.drop (k-1+1)=l.drop (k-1):=List.getElem_cons_drop _
  rw[e1,show l.drop k=l.drop (k-1+1) by rw[show k-1+1=k by omega],e2,List.take_append_drop]
 ·subst hk0
  have hA:A≠[]:=List.length_pos_iff.1 hi
  rw[s3]
  have he:=q5G (l:=l) (B:=B) hA
  rw[<-e]at he
  rw[he]
  cases l with
  |nil=>simp at hkl
  |cons y l=>exact (o.fst hA y l rfl).2
theorem Rgt.asg {P:Pm}{T:List (List Nat)}(h:Rgt P T)(h0:T≠[]):Asg P T:=by
 refine ⟨h0,h.le,fun i l hl=>?_,?_,fun q hq=>?_⟩
 ·obtain ⟨A,B,e,rfl⟩:=q3b hl
  have o:=h.ok A l B e
  exact ⟨o.ne,o.one⟩
 ·--by its stages,from the first on
  have gen: ∀(n:Nat) (T:List (List Nat)),T.length=n->Rgt P T->T.flatten.Pairwise (· < ·)/\(T≠[]-> ∀q∈T.flatten,q<=endT T):=by
   intro n
   induction n with
   |zero=>intro T hn _;rw[List.eq_nil_of_length_eq_zero hn];exact ⟨by simp,fun h=>absurd rfl h⟩
   |succ n ih=>
    intro T hn hT
    rcases List.eq_nil_or_concat T with e|⟨A,l,rfl⟩
    ·rw[e]at hn;cases hn
    rw[List.concat_eq_append]at *
    obtain ⟨h1,o,_,_⟩:=hT.snoc
    obtain ⟨i1,i2⟩:=ih A (by simpa using hn) h1
    have hl: ∀(l':List Nat),(∀(C:List Nat) (p q:Nat) (D:List Nat),l'=C++p::q::D->p<q)->l'.Pairwise (· < ·)/\ ∀q∈l',q<=lst l':=by
     intro l'
     induction l' with
     |nil=>intro _;exact ⟨by simp,by simp⟩
     |cons a r ihr=>
      intro hg
      obtain ⟨j1,j2⟩:=ihr (fun C p q D e=>hg (a::C) p q D (by rw[e];rfl))
      cases r with
      |nil=>exact ⟨by simp,fun q hq=>by rw[zD]at hq;rw[hq];exact zM _⟩
      |cons b r=>
       have hab:=hg [] a b r rfl
       have hls:lst (a::b::r)=lst (b::r):=by unfold lst;simp
       refine ⟨List.pairwise_cons.2 ⟨fun x hx=>?_,j1⟩,fun q hq=>?_⟩
       ·rcases zH.1 hx with rfl|hx
        ·exact hab
        ·have:=(List.pairwise_cons.1 j1).1 x hx
         omega
       ·rw[hls]
        rcases zH.1 hq with rfl|hq
        ·have:=j2 b (by simp)
         omega
        ·exact j2 q hq
    obtain ⟨k1,k2⟩:=hl l (fun C p q D e=>(o.gap C p q D e).1)
    have hcross: ∀x∈A.flatten, ∀y∈l,x<y:=by
     intro x hx y hy
     by_cases hA:A=[]
     ·rw[hA]at hx;cases hx
     ·have hxa:=i2 hA x hx
      cases hll:l with
      |nil=>exact absurd hll o.ne
      |cons z r=>
       have hz:=(o.fst hA z r hll).1
       rw[hll]at hy k1
       rcases zH.1 hy with rfl|hy
       ·omega
       ·have:=(List.pairwise_cons.1 k1).1 y hy
        omega
    refine ⟨?_,fun _ q hq=>?_⟩
    ·rw[List.flatten_append,List.pairwise_append]
     refine ⟨i1,by simpa using k1,fun x hx y hy=>hcross x hx y (by simpa using hy)⟩
    ·rw[endT_snoc]
     rw[List.flatten_append,zG]at hq
     rcases hq with hq|hq
     ·cases hll:l with
      |nil=>exact absurd hll o.ne
      |cons z r=>
       have h1':=hcross q hq z (by rw[hll];simp)
       have h2':=k2 z (by rw[hll];simp)
       rw[hll]at h2'
       omega
     ·exact k2 q (by simpa using hq)
  exact (gen _ T rfl h).1
 ·obtain ⟨l,hl,hq⟩:=List.mem_flatten.1 hq
  exact h.low l hl q hq
end Go.Proofs.YtfgkikeeadlcfaaGreatDoor.Mt
namespace Go.Proofs.YtfgkikeeadlcfaaGreatDoor.Mt
def RgW (P:Pm)(wi:Nat)(T:List (List Nat)):Prop:=T≠[]/\Rgt P T/\endT T<fstT T+wi
theorem Rgt.full {P:Pm}{T:List (List Nat)}(h:Rgt P T): ∀l∈T,l≠[]:=fun l hl=>by
 obtain ⟨i,hi,e⟩:=List.getElem_of_mem hl
 obtain ⟨A,B,e2,_⟩:=q3b (T:=T) (i:=i) (l:=l) (by rw[zE hi,e])
 exact (h.ok A l B e2).ne
end Go.Proofs.YtfgkikeeadlcfaaGreatDoor.Mt
