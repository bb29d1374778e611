/-
  Walks.
-/
import Derived.Test.YtfgkikeeadlcfaaGreatDoorMs02
import Derived.Lib.AtoiErrMem
import Derived.Lib.AppendIntMem
import Derived.Shelf.Spec.SlicesInsertGrow
import Derived.Laws.CopyRow
set_option maxRecDepth 100000
set_option maxHeartbeats 8000000
set_option linter.unusedSimpArgs false
namespace Go.Proofs.YtfgkikeeadlcfaaGreatDoor
open Go.RowKit Go.Shelf
attribute [local go_sem] Oper.semAt_some
def shE (a:Sh):List Value:=[.int .i64 a.kd, .int .i64 a.dp]
theorem q4M (a:Sh):(shE a).length=2:=rfl
theorem q9C:(Tryz.prog.info? 205).map (fun i=>(i.zero,i.size,i.bytes))=some (some (.agg #[.int .i64 0, .int .i64 0]),2,16):=by kernel_rfl
theorem mkS (W:World):(Instr.makeSlice 229 (.int .i64 0) (.int .i64 16)).run Tryz.prog W= .ok (.slice (some ⟨W.heap.size,0,none⟩) 0 16) (W.alloc (.cells (madeCells #[.int .i64 0, .int .i64 0] (16 * 2)) 205)):=by
 obtain ⟨i0,hi,hz0,hz1,hz2⟩:=info_parts q9C
 have:=run_make (P:=Tryz.prog) W 229 205 i0 (.agg #[.int .i64 0, .int .i64 0]) Tryz.underlying229 hi hz0 .i64 .i64 0 16 (by omega) (by omega) (by rw[hz2];omega) (by omega)
 rw[hz1]at this
 exact this
structure FIS (fv:Value)(ad:Option Addr)(cap0:Nat)(w:World)(g7 g8:Nat)(xs:List Pt)(pre:List (Fin xs.length))(W:World):Prop where
 be:CBox w.heap.size #[fv] 208 W
 b1:CBox (w.heap.size+1) #[.int .i64 0, .int .i64 0] 205 W
 b2:CBox (w.heap.size+1+1) #[.bool false] 4 W
 b3:CBox (w.heap.size+1+1+1) #[.int .i64 0, .int .i64 0] 205 W
 bo:CBox g7 opsV 214 W
 row: ∃(l:List Sh) (g cap:Nat),stk shp ((pre.map fun i=>xs[i]).reverse)=some l/\CBox g8 #[.slice (some ⟨g,0,none⟩) l.length cap] 229 W/\W.ownsRow (w.heap.size+4) 205 2 (.slice (some ⟨g,0,none⟩) l.length cap) l.length (l.reverse.flatMap shE)
 bel:Below w.heap.size w W
 bs:CBox (g7+1+1+1) #[.slice ad xs.length cap0] 86 W
 sz:g7+4<=W.heap.size
theorem FIS.own {fv:Value}{ad:Option Addr}{cap0:Nat}{w:World}{g7 g8 B:Nat}{xs:List Pt}(hB:w.heap.size<=B):OwnFrom B (FIS fv ad cap0 w g7 g8 xs):=fun pre W W' row h hg hr=>by
 have hr2:=fun r e=>(hr r e).2
 obtain ⟨l,g,cap,h1,h2,h3⟩:=h.row
 exact ⟨q0b h.be hg hr2,q0b h.b1 hg hr2,q0b h.b2 hg hr2,q0b h.b3 hg hr2,q0b h.bo hg hr2,⟨l,g,cap,h1,q0b h2 hg hr2,q81 h3 hg hr2⟩,ownFrom_below (β:=Unit) (zM _) hB () W W' row h.bel hg hr,q0b h.bs hg hr2,Nat.le_trans h.sz hg.size⟩
structure FXS (w:World)(xs:List Pt)(pre:List (Fin xs.length))(W:World):Prop where
 no:stk shp ((pre.map fun i=>xs[i]).reverse)=none
 b1:CBox (w.heap.size+1) #[.int .i64 0, .int .i64 0] 205 W
 b2:CBox (w.heap.size+1+1) #[.bool false] 4 W
 bel:Below w.heap.size w W
theorem FXS.own {w:World}{B:Nat}{xs:List Pt}(hB:w.heap.size<=B)(c:Code):OwnFrom B (fun pre W=>c= .ret/\FXS w xs pre W):=fun pre W W' row h hg hr=>by
 have hr2:=fun r e=>(hr r e).2
 exact ⟨h.1,h.2.no,q0b h.2.b1 hg hr2,q0b h.2.b2 hg hr2,ownFrom_below (β:=Unit) (zM _) hB () W W' row h.2.bel hg hr⟩
def foRS:Option Sh->Value
 |some a=> .tuple #[.agg (shE a).toArray, .bool true]
 |none=> .tuple #[.agg #[.int .i64 0, .int .i64 0], .bool false]
def sdCS:List Sh->Array Value
 |[]=>#[.int .i64 0, .int .i64 0, .int .i64 0, .int .i64 0]
 |[a]=>(shE a++([.int .i64 0, .int .i64 0]:List Value)).toArray
 |a::b::_=>(shE a++shE b).toArray
theorem q9t {fv:Value}{w w1:World}{ad:Option Addr}{cap:Nat}{xs:List Pt}(hk:Kp [] ((((w.alloc (.cells #[fv] 208)).alloc (.cells #[.int .i64 0, .int .i64 0] 205)).alloc (.cells #[.bool false] 4)).alloc (.cells #[.int .i64 0, .int .i64 0] 205)) w1):
  FIS fv ad cap w w1.heap.size (w1.heap.size+1+1) xs [] ((((w1.alloc (.cells opsV 214)).alloc (.cells (madeCells #[.int .i64 0, .int .i64 0] (16 * 2)) 205)).alloc (.cells #[.slice (some ⟨w1.heap.size+1,0,none⟩) 0 16] 229)).alloc (.cells #[.slice ad xs.length cap] 86))/\
  ((((w1.alloc (.cells opsV 214)).alloc (.cells (madeCells #[.int .i64 0, .int .i64 0] (16 * 2)) 205)).alloc (.cells #[.slice (some ⟨w1.heap.size+1,0,none⟩) 0 16] 229)).alloc (.cells #[.slice ad xs.length cap] 86)).cell? ⟨w1.heap.size+1+1+1,0,none⟩=some (.slice ad xs.length cap)/\
  Below w.heap.size w ((((w1.alloc (.cells opsV 214)).alloc (.cells (madeCells #[.int .i64 0, .int .i64 0] (16 * 2)) 205)).alloc (.cells #[.slice (some ⟨w1.heap.size+1,0,none⟩) 0 16] 229)).alloc (.cells #[.slice ad xs.length cap] 86))/\
  ((((w1.alloc (.cells opsV 214)).alloc (.cells (madeCells #[.int .i64 0, .int .i64 0] (16 * 2)) 205)).alloc (.cells #[.slice (some ⟨w1.heap.size+1,0,none⟩) 0 16] 229)).alloc (.cells #[.slice ad xs.length cap] 86)).heap.size=w1.heap.size+4/\w.heap.size+4<=w1.heap.size:=by
 have hs:=hk.size
 simp at hs
 have hb:Below w.heap.size w w1:=(((((Below.refl _ _).alloc (zM _) _).alloc (by simp) _).alloc (by simp;omega) _).alloc (by simp;omega) _).trans (hk.below (by simp;omega) (by simp))
 have up: ∀{A B C D:Obj},Kp [] w1 ((((w1.alloc A).alloc B).alloc C).alloc D):=fun {A B C D}=>(((Kp.alloc _ _).trans (Kp.alloc _ _) (by simp)).trans (Kp.alloc _ _) (by simp)).trans (Kp.alloc _ _) (by simp)
 have old: ∀{g:Nat} {cs:Array Value} {t:TypeId} {A B C D:Obj},CBox g cs t ((((w.alloc (.cells #[fv] 208)).alloc (.cells #[.int .i64 0, .int .i64 0] 205)).alloc (.cells #[.bool false] 4)).alloc (.cells #[.int .i64 0, .int .i64 0] 205))->CBox g cs t ((((w1.alloc A).alloc B).alloc C).alloc D):=fun h=>(h.kp hk (by simp)).kp up (by simp)
 have n7:CBox w1.heap.size opsV 214 ((((w1.alloc (.cells opsV 214)).alloc (.cells (madeCells #[.int .i64 0, .int .i64 0] (16 * 2)) 205)).alloc (.cells #[.slice (some ⟨w1.heap.size+1,0,none⟩) 0 16] 229)).alloc (.cells #[.slice ad xs.length cap] 86)):=(CBox.new w1 _ _).kp (((Kp.alloc _ _).trans (Kp.alloc _ _) (by simp)).trans (Kp.alloc _ _) (by simp)) (by simp)
 have n8:=(CBox.new ((w1.alloc (.cells opsV 214)).alloc (.cells (madeCells #[.int .i64 0, .int .i64 0] (16 * 2)) 205)) #[.slice (some ⟨w1.heap.size+1,0,none⟩) 0 16] 229).kp (Kp.alloc _ (.cells #[.slice ad xs.length cap] 86)) (by simp)
 have n9:=CBox.new (((w1.alloc (.cells opsV 214)).alloc (.cells (madeCells #[.int .i64 0, .int .i64 0] (16 * 2)) 205)).alloc (.cells #[.slice (some ⟨w1.heap.size+1,0,none⟩) 0 16] 229)) #[.slice ad xs.length cap] 86
 have r0:=World.ownsRow_made (base:=w.heap.size+4) (e:=205) (size:=2) (w1.alloc (.cells opsV 214)) (madeCells #[.int .i64 0, .int .i64 0] (16 * 2)) 16 (by simp;omega) (by unfold maxLen;omega) (size_madeCells _ _)
 simp only[World.size_alloc]at n8 n9 r0
 have m1:=CBox.new w #[fv] 208
 have m2:=CBox.new (w.alloc (.cells #[fv] 208)) #[.int .i64 0, .int .i64 0] 205
 have m3:=CBox.new ((w.alloc (.cells #[fv] 208)).alloc (.cells #[.int .i64 0, .int .i64 0] 205)) #[.bool false] 4
 have m4:=CBox.new (((w.alloc (.cells #[fv] 208)).alloc (.cells #[.int .i64 0, .int .i64 0] 205)).alloc (.cells #[.bool false] 4)) #[.int .i64 0, .int .i64 0] 205
 simp only[World.size_alloc]at m2 m3 m4
 refine ⟨⟨old (m1.kp (((Kp.alloc _ _).trans (Kp.alloc _ _) (by simp)).trans (Kp.alloc _ _) (by simp)) (by simp)),old (m2.kp ((Kp.alloc _ _).trans (Kp.alloc _ _) (by simp)) (by simp)),old (m3.kp (Kp.alloc _ _) (by simp)),old m4,n7,⟨[],w1.heap.size+1,16,rfl,n8,?_⟩,?_,n9,by simp⟩,n9.cell rfl,?_,by simp,by omega⟩
 ·exact q03 r0 ((Kp.alloc _ _).trans (Kp.alloc _ _) (by simp)) (by simp)
 ·exact hb.trans ((((((Below.refl _ _).alloc (zM _) _).alloc (by simp) _).alloc (by simp;omega) _).alloc (by simp;omega) _).mono hb.size)
 ·exact hb.trans ((((((Below.refl _ _).alloc (zM _) _).alloc (by simp) _).alloc (by simp;omega) _).alloc (by simp;omega) _).mono hb.size)
theorem qd4 {fv:Value}{ad:Option Addr}{cap0:Nat}{w W w2:World}{g7 g8 g L cp:Nat}{xs:List Pt}{pre:List (Fin xs.length)}{S:ByteArray}{N:Nat}{O I:Int}{F:Value}(h:FIS fv ad cap0 w g7 g8 xs pre W)(b8:CBox g8 #[.slice (some ⟨g,0,none⟩) L cp] 229 W)(hk:Kp [] W w2):
  (w2.alloc (.cells #[.string S, .int .i64 (N:Int), .int .u64 O, .int .i64 I,F] 212)).cell? ⟨g8,0,none⟩=some (.slice (some ⟨g,0,none⟩) L cp)/\CBox (w.heap.size+1) #[.int .i64 0, .int .i64 0] 205 (w2.alloc (.cells #[.string S, .int .i64 (N:Int), .int .u64 O, .int .i64 I,F] 212))/\CBox (w.heap.size+1+1) #[.bool false] 4 (w2.alloc (.cells #[.string S, .int .i64 (N:Int), .int .u64 O, .int .i64 I,F] 212))/\CBox (w.heap.size+1+1+1) #[.int .i64 0, .int .i64 0] 205 (w2.alloc (.cells #[.string S, .int .i64 (N:Int), .int .u64 O, .int .i64 I,F] 212))/\Kp [] W (w2.alloc (.cells #[.string S, .int .i64 (N:Int), .int .u64 O, .int .i64 I,F] 212))/\CBox w2.heap.size #[.string S, .int .i64 (N:Int), .int .u64 O, .int .i64 I,F] 212 (w2.alloc (.cells #[.string S, .int .i64 (N:Int), .int .u64 O, .int .i64 I,F] 212))/\W.heap.size<=w2.heap.size/\CBox g8 #[.slice (some ⟨g,0,none⟩) L cp] 229 (w2.alloc (.cells #[.string S, .int .i64 (N:Int), .int .u64 O, .int .i64 I,F] 212)):=by
 have hk2:Kp [] W (w2.alloc (.cells #[.string S, .int .i64 (N:Int), .int .u64 O, .int .i64 I,F] 212)):=hk.trans (Kp.alloc _ _) (by simp)
 exact ⟨(b8.kp hk2 (by simp)).cell rfl,h.b1.kp hk2 (by simp),h.b2.kp hk2 (by simp),h.b3.kp hk2 (by simp),hk2,CBox.new _ _ _,hk.size,b8.kp hk2 (by simp)⟩
theorem qd2 {w W W3:World}{B:Nat}{xs:List Pt}{pre:List (Fin xs.length)}(hb:Below w.heap.size w W)(hk:Kp [] W W3)(h1:CBox (w.heap.size+1) #[.int .i64 0, .int .i64 0] 205 W3)(h2:CBox (w.heap.size+1+1) #[.bool false] 4 W3)(hn:stk shp ((pre.map fun i=>xs[i]).reverse)=none):
  KeepsFrom B W (((W3.setCell ⟨w.heap.size+1,0,none⟩ (.int .i64 0)).setCell ⟨w.heap.size+1,1,none⟩ (.int .i64 0)).setCell ⟨w.heap.size+1+1,0,none⟩ (.bool false))/\Code.ret=Code.ret/\FXS w xs pre (((W3.setCell ⟨w.heap.size+1,0,none⟩ (.int .i64 0)).setCell ⟨w.heap.size+1,1,none⟩ (.int .i64 0)).setCell ⟨w.heap.size+1+1,0,none⟩ (.bool false)):=by
 have q1:CBox (w.heap.size+1) #[.int .i64 0, .int .i64 0] 205 (((W3.setCell ⟨w.heap.size+1,0,none⟩ (.int .i64 0)).setCell ⟨w.heap.size+1,1,none⟩ (.int .i64 0))):=(CBox.set (CBox.set h1 0 _) 1 _)
 have q2:CBox (w.heap.size+1+1) #[.bool false] 4 (((W3.setCell ⟨w.heap.size+1,0,none⟩ (.int .i64 0)).setCell ⟨w.heap.size+1,1,none⟩ (.int .i64 0))):=(CBox.kp (CBox.kp h2 (Kp.set _ _ _ _) (by simp)) (Kp.set _ _ _ _) (by simp))
 have k1:KeepsOthers W3 (((W3.setCell ⟨w.heap.size+1,0,none⟩ (.int .i64 0)).setCell ⟨w.heap.size+1,1,none⟩ (.int .i64 0))):=(((KeepsOthers.refl _).trans (KeepsOthers.setCell _ _ _)).trans (KeepsOthers.setCell _ _ _))
 have l1:Below w.heap.size w (((W3.setCell ⟨w.heap.size+1,0,none⟩ (.int .i64 0)).setCell ⟨w.heap.size+1,1,none⟩ (.int .i64 0))):=(Below.setCell (p:=⟨w.heap.size+1,1,none⟩) (Below.setCell (p:=⟨w.heap.size+1,0,none⟩) (hb.trans (hk.below hb.size (by simp))) (by show w.heap.size<=w.heap.size+1;omega) _) (by show w.heap.size<=w.heap.size+1;omega) _)
 exact ⟨((KeepsOthers.ofKp hk).trans (k1.trans (KeepsOthers.setCell _ _ _))).from _,rfl,hn,q1.kp (Kp.set _ _ _ _) (by simp),q2.set 0 _,l1.setCell (p:=⟨w.heap.size+1+1,0,none⟩) (by show w.heap.size<=w.heap.size+1+1;omega) _⟩
theorem qba {lst:List Sh}(h:0<lst.length): ∃a r,lst=a::r:=by
 cases lst with
 |nil=>simp at h
 |cons a r=>exact ⟨a,r,rfl⟩
theorem q9r {lst:List Sh}(h:1<lst.length): ∃a b r,lst=a::b::r:=by
 match lst,h with
 |[_],h=>simp at h
 |a::b::r,_=>exact ⟨a,b,r,rfl⟩
structure FLS (fv:Value)(w W Wl:World)(g7 g8 g L cp Bx gop:Nat)(p:Pt)(row:Array Value)(lst:List Sh):Prop where
 kp:Kp [] W Wl
 b8:CBox g8 #[.slice (some ⟨g,0,none⟩) L cp] 229 Wl
 bsd:CBox (gop+1) #[.int .i64 0, .int .i64 0, .int .i64 0, .int .i64 0] 230 Wl
 bop:CBox gop row 212 Wl
 bx:CBox Bx #[.int .i64 p.kd, .int .i64 p.n, .string p.s, .string p.st, .int .i64 p.fl] 178 Wl
 be:CBox w.heap.size #[fv] 208 Wl
 row:Wl.ownsRow (w.heap.size+4) 205 2 (.slice (some ⟨g,0,none⟩) L cp) L (lst.reverse.flatMap shE)
 le:W.heap.size<=gop
 g78:g7+1+1=g8
 gl:g<W.heap.size
 n1:g≠g8
 n2:Bx≠g8
 n3:Bx<W.heap.size
 n4:g8<W.heap.size
 n5:w.heap.size+4<=g7
 n6:g≠Bx
 n7:w.heap.size+4<=g
theorem qbg {fv:Value}{ad:Option Addr}{cap0:Nat}{w W w2 W0:World}{g7 g cp Bx:Nat}{p:Pt}{xs:List Pt}{pre:List (Fin xs.length)}{lst:List Sh}{S:ByteArray}{N:Nat}{O I:Int}{F:Value}(h:FIS fv ad cap0 w g7 (g7+1+1) xs pre W)(b8:CBox (g7+1+1) #[.slice (some ⟨g,0,none⟩) lst.length cp] 229 W)(hrow:W.ownsRow (w.heap.size+4) 205 2 (.slice (some ⟨g,0,none⟩) lst.length cp) lst.length (lst.reverse.flatMap shE))(bX:CBox Bx #[.int .i64 p.kd, .int .i64 p.n, .string p.s, .string p.st, .int .i64 p.fl] 178 W)(hk:Kp [] W w2)(hBx:W0.heap.size<=Bx)(h0:W0.heap.size=g7+4)(hG7:w.heap.size+4<=g7):
  FLS fv w W ((w2.alloc (.cells #[.string S, .int .i64 (N:Int), .int .u64 O, .int .i64 I,F] 212)).alloc (.cells #[.int .i64 0, .int .i64 0, .int .i64 0, .int .i64 0] 230)) g7 (g7+1+1) g lst.length cp Bx w2.heap.size p #[.string S, .int .i64 (N:Int), .int .u64 O, .int .i64 I,F] lst:=by
 have k2:Kp [] W ((w2.alloc (.cells #[.string S, .int .i64 (N:Int), .int .u64 O, .int .i64 I,F] 212)).alloc (.cells #[.int .i64 0, .int .i64 0, .int .i64 0, .int .i64 0] 230)):=(hk.trans (Kp.alloc _ _) (by simp)).trans (Kp.alloc _ _) (by simp)
 have ns:=CBox.new (w2.alloc (.cells #[.string S, .int .i64 (N:Int), .int .u64 O, .int .i64 I,F] 212)) #[.int .i64 0, .int .i64 0, .int .i64 0, .int .i64 0] 230
 simp only[World.size_alloc]at ns
 have no:=(CBox.new w2 #[.string S, .int .i64 (N:Int), .int .u64 O, .int .i64 I,F] 212).kp (Kp.alloc _ (.cells #[.int .i64 0, .int .i64 0, .int .i64 0, .int .i64 0] 230)) (by simp)
 have hlt:=hrow.lt g rfl
 have hB:=(zB.1 bX).1
 have h8:=(zB.1 b8).1
 have h7:=(zB.1 h.bo).1
 have hz:=h.sz
 have hne: ∀{x:Nat} {cs:Array Value} {t:TypeId},CBox x cs t W->t≠205->g≠x:=fun hb ht e=>q0d hrow hb ht (by rw[<-e];rfl)
 exact ⟨k2,b8.kp k2 (by simp),ns,no,bX.kp k2 (by simp),h.be.kp k2 (by simp),q03 hrow k2 (by simp),hk.size,rfl,hlt.2,hne b8 (by decide),by omega,hB,h8,by omega,hne bX (by decide),hlt.1⟩
theorem q4V {fv:Value}{w W Wl wr:World}{g7 g8 g cp Bx gop:Nat}{p:Pt}{rw_:Array Value}{lst:List Sh}(h:FLS fv w W Wl g7 g8 g lst.length cp Bx gop p rw_ lst)(hk:Kp [g8,gop+1] Wl wr){k:Nat}(hkl:k<lst.length):
  wr.cell? ⟨g,(lst.length-1-k) * 2,none⟩=some (.int .i64 lst[k].kd)/\wr.cell? ⟨g,(lst.length-1-k) * 2+1,none⟩=some (.int .i64 lst[k].dp):=by
 have hr:wr.ownsRow (w.heap.size+4) 205 2 (.slice (some ⟨g,0,none⟩) lst.length cp) lst.length (lst.reverse.flatMap shE):=q03 h.row hk (fun x e=>by
  simp[Value.ownBlock]at e
  subst e
  have h1:=h.n1
  have h2:=h.gl
  have h3:=h.le
  simp
  omega)
 have e0:(lst.reverse)[lst.length-1-k]'(by simp;omega)=lst[k]:=by
  rw[List.getElem_reverse]
  congr 1
  omega
 have key:=fun i hi=>q0t (enc:=shE) (sz:=2) q4M (l:=lst.reverse) (by rw[List.length_reverse];exact hr) (lst.length-1-k) i (by simp;omega) hi
 simp only[e0]at key
 exact ⟨key 0 (by omega),key 1 (by omega)⟩
theorem q7I {fv:Value}{w W Wl:World}{g7 g8 g L cp Bx gop:Nat}{p:Pt}{rw_:Array Value}{lst:List Sh}(h:FLS fv w W Wl g7 g8 g L cp Bx gop p rw_ lst):L<=cp:=by
 obtain ⟨_,⟨e,_⟩|⟨g',cp',cur,e,_,_,h5,_⟩⟩:=h.row
 ·cases e
 ·cases e
  exact h5
theorem q7K {w':World}{g8 gs g M cp:Nat}{v0 v1:Value}(h8:g8≠gs)(hg:g≠gs)(c:w'.cell? ⟨g8,0,none⟩=some (.slice (some ⟨g,0,none⟩) (M+1) cp))(o:Nat)(q0:w'.cell? ⟨g,M * 2,none⟩=some v0)(q1:w'.cell? ⟨g,M * 2+1,none⟩=some v1):
  ((w'.setCell ⟨gs,o,none⟩ v0).setCell ⟨gs,o+1,none⟩ v1).cell? ⟨g8,0,none⟩=some (.slice (some ⟨g,0,none⟩) (M+1) cp)/\((w'.setCell ⟨gs,o,none⟩ v0).setCell ⟨gs,o+1,none⟩ v1).cell? ⟨g,M * 2,none⟩=some v0/\((w'.setCell ⟨gs,o,none⟩ v0).setCell ⟨gs,o+1,none⟩ v1).cell? ⟨g,M * 2+1,none⟩=some v1:=by
 have k: ∀(p:Addr) (v:Value),p.block≠gs->w'.cell? p=some v->((w'.setCell ⟨gs,o,none⟩ v0).setCell ⟨gs,o+1,none⟩ v1).cell? p=some v:=fun p v hp h=>
  (World.cell?_of_block (by rw[Below.heap_setCell _ _ _ _ hp,Below.heap_setCell _ _ _ _ hp])).trans h
 exact ⟨k _ _ h8 c,k _ _ hg q0,k _ _ hg q1⟩
theorem q8o {g8 gs M cp g:Nat}{a:Sh}{r:List Sh}{wr Wl:World}(h:CBox g8 #[.slice (some ⟨g,0,none⟩) (M+1) cp] 229 wr/\CBox gs (sdCS ((a::r).take 0)) 230 wr/\Kp [g8,gs] Wl wr)(hn:g8≠gs):
  CBox g8 #[.slice (some ⟨g,0,none⟩) M cp] 229 (((wr.drew.setCell ⟨gs,0,none⟩ (.int .i64 a.kd)).setCell ⟨gs,1,none⟩ (.int .i64 a.dp)).setCell ⟨g8,0,none⟩ (.slice (some ⟨g,0,none⟩) M cp))/\CBox gs (sdCS ((a::r).take 1)) 230 (((wr.drew.setCell ⟨gs,0,none⟩ (.int .i64 a.kd)).setCell ⟨gs,1,none⟩ (.int .i64 a.dp)).setCell ⟨g8,0,none⟩ (.slice (some ⟨g,0,none⟩) M cp))/\Kp [g8,gs] Wl (((wr.drew.setCell ⟨gs,0,none⟩ (.int .i64 a.kd)).setCell ⟨gs,1,none⟩ (.int .i64 a.dp)).setCell ⟨g8,0,none⟩ (.slice (some ⟨g,0,none⟩) M cp)):=by
 obtain ⟨h1,h2,h3⟩:=h
 have kd:Kp [g8,gs] wr (((wr.drew.setCell ⟨gs,0,none⟩ (.int .i64 a.kd)).setCell ⟨gs,1,none⟩ (.int .i64 a.dp))):=(((Kp.drew wr |>.mono (by simp)).trans (Kp.set _ _ _ _) (by simp)).trans (Kp.set _ _ _ _) (by simp))
 have c2:CBox gs (sdCS ((a::r).take 1)) 230 (((wr.drew.setCell ⟨gs,0,none⟩ (.int .i64 a.kd)).setCell ⟨gs,1,none⟩ (.int .i64 a.dp))):=(CBox.set (CBox.set (CBox.kp h2 (Kp.drew _) (by simp)) 0 _) 1 _)
 have c1:CBox g8 #[.slice (some ⟨g,0,none⟩) (M+1) cp] 229 (((wr.drew.setCell ⟨gs,0,none⟩ (.int .i64 a.kd)).setCell ⟨gs,1,none⟩ (.int .i64 a.dp))):=(CBox.kp (CBox.kp (CBox.kp h1 (Kp.drew _) (by simp)) (Kp.set _ _ _ _) (by simpa using hn)) (Kp.set _ _ _ _) (by simpa using hn))
 exact ⟨c1.set 0 _,c2.kp (Kp.set _ _ _ _) (by simp;omega),(h3.trans kd (fun _ hx=>Or.inl hx)).trans (Kp.set _ _ _ _) (by simp)⟩
theorem q8p {g8 gs M cp g:Nat}{a0 a:Sh}{r:List Sh}{wr Wl:World}(h:CBox g8 #[.slice (some ⟨g,0,none⟩) (M+1) cp] 229 wr/\CBox gs (sdCS ((a0::a::r).take 1)) 230 wr/\Kp [g8,gs] Wl wr)(hn:g8≠gs):
  CBox g8 #[.slice (some ⟨g,0,none⟩) M cp] 229 (((wr.drew.setCell ⟨gs,2,none⟩ (.int .i64 a.kd)).setCell ⟨gs,3,none⟩ (.int .i64 a.dp)).setCell ⟨g8,0,none⟩ (.slice (some ⟨g,0,none⟩) M cp))/\CBox gs (sdCS ((a0::a::r).take 2)) 230 (((wr.drew.setCell ⟨gs,2,none⟩ (.int .i64 a.kd)).setCell ⟨gs,3,none⟩ (.int .i64 a.dp)).setCell ⟨g8,0,none⟩ (.slice (some ⟨g,0,none⟩) M cp))/\Kp [g8,gs] Wl (((wr.drew.setCell ⟨gs,2,none⟩ (.int .i64 a.kd)).setCell ⟨gs,3,none⟩ (.int .i64 a.dp)).setCell ⟨g8,0,none⟩ (.slice (some ⟨g,0,none⟩) M cp)):=by
 obtain ⟨h1,h2,h3⟩:=h
 have kd:Kp [g8,gs] wr (((wr.drew.setCell ⟨gs,2,none⟩ (.int .i64 a.kd)).setCell ⟨gs,3,none⟩ (.int .i64 a.dp))):=(((Kp.drew wr |>.mono (by simp)).trans (Kp.set _ _ _ _) (by simp)).trans (Kp.set _ _ _ _) (by simp))
 have c2:CBox gs (sdCS ((a0::a::r).take 2)) 230 (((wr.drew.setCell ⟨gs,2,none⟩ (.int .i64 a.kd)).setCell ⟨gs,3,none⟩ (.int .i64 a.dp))):=(CBox.set (CBox.set (CBox.kp h2 (Kp.drew _) (by simp)) 2 _) 3 _)
 have c1:CBox g8 #[.slice (some ⟨g,0,none⟩) (M+1) cp] 229 (((wr.drew.setCell ⟨gs,2,none⟩ (.int .i64 a.kd)).setCell ⟨gs,3,none⟩ (.int .i64 a.dp))):=(CBox.kp (CBox.kp (CBox.kp h1 (Kp.drew _) (by simp)) (Kp.set _ _ _ _) (by simpa using hn)) (Kp.set _ _ _ _) (by simpa using hn))
 exact ⟨c1.set 0 _,c2.kp (Kp.set _ _ _ _) (by simp;omega),(h3.trans kd (fun _ hx=>Or.inl hx)).trans (Kp.set _ _ _ _) (by simp)⟩
theorem qei (l:List Sh): ∃s0 s1 s2 s3,sdCS l=#[s0,s1,s2,s3]:=by
 match l with
 |[]=>exact ⟨_,_,_,_,rfl⟩
 |[a]=>exact ⟨_,_,_,_,rfl⟩
 |a::b::_=>exact ⟨_,_,_,_,rfl⟩
theorem qd8 {fv:Value}{w W Wl wr:World}{g7 g8 g L cp Bx gop k:Nat}{p:Pt}{S:ByteArray}{N:Nat}{O I:Int}{F:Value}{lst:List Sh}{s0 s1 s2 s3:Value}(h:FLS fv w W Wl g7 g8 g L cp Bx gop p #[.string S, .int .i64 (N:Int), .int .u64 O, .int .i64 I,F] lst)(hr:CBox g8 #[.slice (some ⟨g,0,none⟩) (lst.length-k) cp] 229 wr/\CBox (gop+1) (sdCS (lst.take k)) 230 wr/\Kp [g8,gop+1] Wl wr)(hsd:sdCS (lst.take k)=#[s0,s1,s2,s3]):
  ∀W',Kp [g] wr W'->W'.cell? ⟨g8,0,none⟩=some (.slice (some ⟨g,0,none⟩) (lst.length-k) cp)/\W'.cell? ⟨w.heap.size,0,none⟩=some fv/\W'.cell? ⟨Bx,0,none⟩=some (.int .i64 p.kd)/\W'.cell? ⟨Bx,1,none⟩=some (.int .i64 p.n)/\W'.cell? ⟨Bx,2,none⟩=some (.string p.s)/\W'.cell? ⟨Bx,3,none⟩=some (.string p.st)/\W'.cell? ⟨Bx,4,none⟩=some (.int .i64 p.fl)/\W'.cell? ⟨gop,0,none⟩=some (.string S)/\W'.cell? ⟨gop,1,none⟩=some (.int .i64 (N:Int))/\W'.cell? ⟨gop,2,none⟩=some (.int .u64 O)/\W'.cell? ⟨gop,3,none⟩=some (.int .i64 I)/\W'.cell? ⟨gop,4,none⟩=some (F)/\W'.cell? ⟨gop+1,0,none⟩=some s0/\W'.cell? ⟨gop+1,1,none⟩=some s1/\W'.cell? ⟨gop+1,2,none⟩=some s2/\W'.cell? ⟨gop+1,3,none⟩=some s3:=fun W' hk=>by
 obtain ⟨h1,h2,h3⟩:=hr
 rw[hsd]at h2
 have a1:=h.le
 have a2:=h.gl
 have a3:=h.n1
 have a4:=h.n2
 have a5:=h.n3
 have a6:=h.n4
 have a7:=h.n5
 have a8:=h.n6
 have a9:=h.n7
 have a10:=h.g78
 have q8:=h1.kp hk (by simp;omega)
 have qs:=h2.kp hk (by simp;omega)
 have qe:=(h.be.kp h3 (by simp;omega)).kp hk (by simp;omega)
 have qx:=(h.bx.kp h3 (by simp;omega)).kp hk (by simp;omega)
 have qo:=(h.bop.kp h3 (by simp;omega)).kp hk (by simp;omega)
 exact ⟨q8.cell rfl,qe.cell rfl,qx.cell rfl,qx.cell rfl,qx.cell rfl,qx.cell rfl,qx.cell rfl,qo.cell rfl,qo.cell rfl,qo.cell rfl,qo.cell rfl,qo.cell rfl,qs.cell rfl,qs.cell rfl,qs.cell rfl,qs.cell rfl⟩
theorem qbc {EF:Nat}{fv:Value}{ad:Option Addr}{cap0:Nat}{w W Wl wr:World}{g7 g8 g L cp Bx gop k N:Nat}{p:Pt}{xs:List Pt}{x:Fin xs.length}{pre:List (Fin xs.length)}{S:ByteArray}{O I:Int}{F:Value}{lst:List Sh}{s0 s1 s2 s3:Value}
  (HE: ∀(p:Pt) (ts:List Ex) (W:World),p∈xs->(∀t∈ts,t.wf/\ ∀q∈t.flat,q∈xs)->(ts.flatMap Ex.flat).length+1<=xs.length->ts.length=sds p.kd->Below w.heap.size w W->
   Calls Tryz.prog EF #[p.v, .agg (rowC p.kd), .agg (sdCS (ts.map (Ex.val shp)))] W fun e w'=>e= .returned (.agg (shE (shp p (ts.map (Ex.val shp)))).toArray)/\Below W.heap.size W w')
  (hx:p∈xs/\((pre++[x]).map fun i=>xs[i]).reverse=p::((pre.map fun i=>xs[i]).reverse)/\(∀q∈(pre.map fun i=>xs[i]).reverse,q∈xs)/\(pre.map fun i=>xs[i]).reverse.length<xs.length)
  (hi:FIS fv ad cap0 w g7 g8 xs pre W/\stk shp ((pre.map fun i=>xs[i]).reverse)=some lst/\CBox g8 #[.slice (some ⟨g,0,none⟩) lst.length cp] 229 W/\W.ownsRow (w.heap.size+4) 205 2 (.slice (some ⟨g,0,none⟩) lst.length cp) lst.length (lst.reverse.flatMap shE)/\CBox Bx #[.int .i64 p.kd, .int .i64 p.n, .string p.s, .string p.st, .int .i64 p.fl] 178 W)
  (h:FLS fv w W Wl g7 g8 g L cp Bx gop p #[.string S, .int .i64 (N:Int), .int .u64 O, .int .i64 I,F] lst) (hr:CBox g8 #[.slice (some ⟨g,0,none⟩) (lst.length-k) cp] 229 wr/\CBox (gop+1) (sdCS (lst.take k)) 230 wr/\Kp [g8,gop+1] Wl wr) (hN:sds p.kd=k) (hrc:rowC p.kd=#[.string S, .int .i64 (N:Int), .int .u64 O, .int .i64 I,F]) (hsd:sdCS (lst.take k)=#[s0,s1,s2,s3]) (hk:k<=lst.length):
  Calls Tryz.prog EF #[.agg #[.int .i64 p.kd, .int .i64 p.n, .string p.s, .string p.st, .int .i64 p.fl], .agg #[.string S, .int .i64 (N:Int), .int .u64 O, .int .i64 I,F], .agg #[s0,s1,s2,s3]] wr.drew fun e w'=>e= .returned (.agg #[.int .i64 (shp p (lst.take k)).kd, .int .i64 (shp p (lst.take k)).dp])/\Below wr.drew.heap.size wr.drew w':=by
 obtain ⟨ts,t1,t2,t3⟩:=q2S shp _ lst hi.2.1
 have e1:(ts.take k).map (Ex.val shp)=lst.take k:=by rw[t3,List.map_take]
 have hl:lst.length=ts.length:=by rw[t3,zI]
 have hb:Below w.heap.size w wr.drew:=by
  have a0:=hi.1.bel.size
  have a1:=h.le
  have a7:=h.n5
  have a10:=h.g78
  exact ((hi.1.bel.trans (h.kp.below a0 (by simp))).trans (hr.2.2.below (Nat.le_trans a0 h.kp.size) (by simp;omega))).trans ((Kp.drew wr).below (Nat.le_trans (Nat.le_trans a0 h.kp.size) hr.2.2.size) (by simp))
 have:=HE p (ts.take k) wr.drew hx.1 (fun t ht=>⟨t1 t (List.mem_of_mem_take ht),fun q hq=>hx.2.2.1 q (by rw[t2];exact List.mem_flatMap.2 ⟨t,List.mem_of_mem_take ht,hq⟩)⟩) (by have h1:=q3a ts k;have h2:=hx.2.2.2;rw[t2]at h2;omega) (by rw[zL,hN];omega) hb
 rw[e1,hsd,hrc]at this
 exact this
theorem qd6 {fv:Value}{w W Wl wr:World}{g7 g8 g cp Bx gop k:Nat}{p:Pt}{row:Array Value}{lst:List Sh}(h:FLS fv w W Wl g7 g8 g lst.length cp Bx gop p row lst)(hr:CBox g8 #[.slice (some ⟨g,0,none⟩) (lst.length-k) cp] 229 wr/\CBox (gop+1) (sdCS (lst.take k)) 230 wr/\Kp [g8,gop+1] Wl wr)(hk:k<=lst.length):
  wr.ownsRow (w.heap.size+4) 205 2 (.slice (some ⟨g,0,none⟩) (lst.length-k) cp) (lst.length-k) ((lst.drop k).reverse.flatMap shE):=by
 have a1:=h.le
 have a2:=h.gl
 have a3:=h.n1
 have h1:=q03 h.row hr.2.2 (fun y e=>by simp[Value.ownBlock]at e;subst e;simp;omega)
 have h2:=q6l h1 (lst.length-k) (by omega)
 rw[q2a shE 2 q4M,show lst.reverse.take (lst.length-k)=(lst.drop k).reverse by rw[List.reverse_drop]]at h2
 exact h2
theorem qbe {fv:Value}{ad:Option Addr}{cap0:Nat}{w W Wl wr:World}{g7 g8 g L cp Bx gop k:Nat}{p:Pt}{xs:List Pt}{x:Fin xs.length}{pre:List (Fin xs.length)}{row:Array Value}{lst:List Sh}(hi:FIS fv ad cap0 w g7 g8 xs pre W)(h:FLS fv w W Wl g7 g8 g L cp Bx gop p row lst)(hb8:CBox g8 #[.slice (some ⟨g,0,none⟩) (lst.length-k) cp] 229 wr)(hk:Kp [g8,gop+1] Wl wr):
  ∀(w7:World) (g7' cap7 n:Nat) (l':List Sh),Kp [g] wr w7->(g7'=g\/wr.heap.size<=g7')->stk shp (((pre++[x]).map fun i=>xs[i]).reverse)=some l'->n=l'.length->w7.ownsRow (w.heap.size+4) 205 2 (.slice (some ⟨g7',0,none⟩) n cap7) n (l'.reverse.flatMap shE)-> ∀B,
   KeepsFrom B W (w7.setCell ⟨g8,0,none⟩ (.slice (some ⟨g7',0,none⟩) n cap7))/\KpB w.heap.size (g7+1+1+1) W (w7.setCell ⟨g8,0,none⟩ (.slice (some ⟨g7',0,none⟩) n cap7))/\FIS fv ad cap0 w g7 g8 xs (pre++[x]) (w7.setCell ⟨g8,0,none⟩ (.slice (some ⟨g7',0,none⟩) n cap7)):=fun w7 g7' cap7 n l' k7 hg hst hn hown B=>by
 subst hn
 have a1:=h.le
 have a2:=h.gl
 have a3:=h.n1
 have a6:=h.n4
 have a7:=h.n5
 have a9:=h.n7
 have a10:=h.g78
 have s1:=hk.size
 have s2:=h.kp.size
 have kW:Kp [g8,g] W (w7.setCell ⟨g8,0,none⟩ (.slice (some ⟨g7',0,none⟩) l'.length cap7)):=by
  refine ⟨?_,?_,?_,?_,fun j hj hn=>?_⟩
  ·exact ((Kp.set w7 g8 0 _).os.trans k7.os).trans (hk.os.trans h.kp.os)
  ·exact ((Kp.set w7 g8 0 _).tape.trans k7.tape).trans (hk.tape.trans h.kp.tape)
  ·exact ((Kp.set w7 g8 0 _).output.trans k7.output).trans (hk.output.trans h.kp.output)
  ·exact Nat.le_trans (Nat.le_trans s2 s1) (Nat.le_trans k7.size (Kp.set w7 g8 0 _).size)
  ·simp only[zH,List.not_mem_nil,or_false,not_or]at hn
   rw[(Kp.set w7 g8 0 _).block j (by have:=k7.size;omega) (by simpa using hn.1),k7.block j (by omega) (by simpa using hn.2),hk.block j (by omega) (by simp;omega),h.kp.block j hj (by simp)]
 have ne: ∀{y:Nat} {cs:Array Value} {t:TypeId},CBox y cs t W->y≠g8->y≠g->CBox y cs t (w7.setCell ⟨g8,0,none⟩ (.slice (some ⟨g7',0,none⟩) l'.length cap7)):=fun hb h1 h2=>hb.kp kW (by simp;omega)
 obtain ⟨l0,g0,c0,r1,r2,r3⟩:=hi.row
 have hgt: ∀{y:Nat} {cs:Array Value} {t:TypeId},CBox y cs t W->t≠205->y≠g:=fun hb ht e=>by
  have:=q0d h.row (hb.kp h.kp (by simp)) ht
  exact this (by rw[e];rfl)
 have c8:CBox g8 #[.slice (some ⟨g7',0,none⟩) l'.length cap7] 229 (w7.setCell ⟨g8,0,none⟩ (.slice (some ⟨g7',0,none⟩) l'.length cap7)):=by
  exact (hb8.kp k7 (by simp;omega)).set 0 _
 refine ⟨?_,⟨kW.below hi.bel.size (by simp;omega),kW.block _ (by have:=hi.sz;omega) (by simp;exact ⟨by omega,hgt hi.bs (by decide)⟩)⟩,⟨ne hi.be (by omega) (by omega),ne hi.b1 (by omega) (by omega),ne hi.b2 (by omega) (by omega),ne hi.b3 (by omega) (by omega),ne hi.bo (by omega) (hgt hi.bo (by decide)),⟨l',g7',cap7,hst,c8,q03 hown (Kp.set _ _ _ _) (fun y e=>by simp[Value.ownBlock]at e;subst e;simp;omega)⟩,hi.bel.trans (kW.below hi.bel.size (by simp;omega)),ne hi.bs (by omega) (hgt hi.bs (by decide)),Nat.le_trans hi.sz kW.size⟩⟩
 refine (KeepsOthers.ofCells kW (fun y hy=>?_)).from B
 simp only[zH,List.not_mem_nil,or_false]at hy
 rcases hy with rfl|rfl
 ·exact ⟨_,_,r2⟩
 ·obtain ⟨_,⟨e,_⟩|⟨g',cp',cur,e,_,h4,_⟩⟩:=h.row
  ·cases e
  ·cases e
   exact ⟨cur,205,(h.kp.block y a2 (by simp)).symm.trans h4⟩
theorem qbi (EF:Nat)(ad:Option Addr)(cap:Nat)(xs:List Pt)(hsz:xs.length<=200)(w:World)(hc:PtsLow w.heap.size w ad xs)
  (hen: ∀args W,(callFunc EF args).run Tryz.prog W= .ok (.enter EF args) W)
  (HE: ∀(p:Pt) (ts:List Ex) (W:World),p∈xs->(∀t∈ts,t.wf/\ ∀q∈t.flat,q∈xs)->(ts.flatMap Ex.flat).length+1<=xs.length->ts.length=sds p.kd->Below w.heap.size w W->
   Calls Tryz.prog EF #[p.v, .agg (rowC p.kd), .agg (sdCS (ts.map (Ex.val shp)))] W fun e w'=>e= .returned (.agg (shE (shp p (ts.map (Ex.val shp)))).toArray)/\Below W.heap.size W w'):
  CallsIn Fence.wide 9 Tryz.prog 118 #[.slice ad xs.length cap, .func (.func EF) #[] #[]] w fun e w'=>e= .returned (foRS (fdX shp xs))/\Below w.heap.size w w':=by
 refine callsIn_of_wp_marks Tryz.func118 rfl trivial ?_ rfl
 simp only[Tryz.ntmps118,List.size_toArray,List.length_cons,List.length_nil,Nat.reduceAdd,Nat.reduceSub,Array.replicate_succ,Array.replicate_zero,List.push_toArray,List.append_toArray,List.nil_append,List.cons_append]
 have hs70:=q0x
 have E1:Hid (∀W,CallsIn Fence.wide 8 Tryz.prog 120 #[] W fun e w'=>e= .returned (.agg opsV)/\Kp [] W w'):=hZq (fun W=>callsIn_wide.2 (q1B W))
 have HHE:=hZq HE
 have HEN:=hZq hen
 have HC:=hZq hc
 clear HE hen hc
 gi_wp2_with (first
  |(refine ⟨trivial,?_⟩;gi_at_call 120;refine (uQ E1 _).mono ?_;rintro e w1 ⟨rfl,hk1⟩;have st:=q89 w1;have mk:=mkS)
  |(refine ⟨trivial,?_⟩;gi_at_call 121;refine (q7r _ _ _ _ _).mono ?_;rintro e w2 ⟨rfl,rfl⟩))
 have FI0:=q9t (ad:=ad) (cap:=cap) (xs:=xs) hk1
 obtain ⟨hI0,hbs,hbl,hsz0⟩:=FI0
 clear E1 st mk hk1
 generalize (((w1.alloc (.cells opsV 214)).alloc (.cells (madeCells #[.int .i64 0, .int .i64 0] (16 * 2)) 205)).alloc (.cells #[.slice (some ⟨w1.heap.size+1,0,none⟩) 0 16] 229)).alloc (.cells #[.slice ad xs.length cap] 86)=W0 at *
 have hbo0:Below w.heap.size w W0:=hbl
 refine wpIn_rangeFunc_ownH rfl (by omega) (gf:=144) (lb:=#[.pointer (some ⟨w1.heap.size+1+1+1,0,none⟩)]) rfl trivial (enters_of Tryz.func144 (by kernel_rfl) rfl)
  (q41 8 (w1.heap.size+1+1+1) w.heap.size cap ad xs (by omega) W0 hbl.size hbs ((uQ HC).below hbl)) KpB.trans (KpB.put hbl.size (by omega)) (Below.refl _ _) (fun _=>rfl)
  (FIS (.func (.func EF) #[] #[]) ad cap w w1.heap.size (w1.heap.size+1+1) xs) (fun c pre W=>c= .ret/\FXS w xs pre W) (FIS.own hbl.size) (fun c=>FXS.own hbl.size c) hI0
  (fun x a' W=> ∃Bx,W0.heap.size<=Bx/\CBox Bx (xs[x]).c 178 W/\a'={ tmps:=#[.slice ad xs.length cap, .func (.func EF) #[] #[],undef, .pointer (some ⟨w.heap.size,0,none⟩), .pointer (some ⟨w.heap.size+1,0,none⟩), .pointer (some ⟨w.heap.size+1+1,0,none⟩), .pointer (some ⟨w.heap.size+1+1+1,0,none⟩), .pointer (some ⟨w1.heap.size,0,none⟩), .pointer (some ⟨w1.heap.size+1+1,0,none⟩),undef, .pointer (some ⟨Bx,0,none⟩),undef,undef,undef,undef, .agg opsV, .slice (some ⟨w1.heap.size+1,0,none⟩) 0 16, .slice ad xs.length cap, .func (.func 144) #[] #[.pointer (some ⟨w1.heap.size+1+1+1,0,none⟩)], .int .i64 (x.val:Int),(xs[x]).v,undef,undef,undef,undef,undef,undef,undef,undef,undef,undef,undef,undef,undef,undef,undef,undef,undef,undef,undef,undef,undef,undef,undef,undef,undef,undef,undef,undef,undef,undef,undef,undef,undef,undef,undef,undef,undef,undef,undef,undef,undef,undef],defers:=[] })
  (fun x a' _ X Y row hs hg hr=>by obtain ⟨Bx,h1,h2,h3⟩:=hs;exact ⟨Bx,h1,q0b h2 hg (fun r e=>(hr r e).2),h3⟩) ?assign ?body ?done ?stop
 case assign=>
  rintro l pre x W K hi hK
  have HI:=hZq hi
  have hWs:=hZq hi.bel.size
  clear hi HHE HEN HC hI0 hbs hbl
  have hq:xs[x].v= .agg #[.int .i64 xs[x].kd, .int .i64 xs[x].n, .string xs[x].s, .string xs[x].st, .int .i64 xs[x].fl]:=rfl
  have hq2:xs[x].c=#[.int .i64 xs[x].kd, .int .i64 xs[x].n, .string xs[x].s, .string xs[x].st, .int .i64 xs[x].fl]:=rfl
  rw[hq]at hK ⊢
  rw[hq2]at hK
  generalize xs[x]=q at *
  obtain ⟨qk,qn,qs,qt,qf⟩:=q
  dsimp only at *
  gi_wp2
  have hiW:=uQ HI
  obtain ⟨l0,g0,c0,r1,r2,r3⟩:=hiW.row
  have ka:=Kp.alloc W (.cells #[.int .i64 qk, .int .i64 qn, .string qs, .string qt, .int .i64 qf] 178)
  refine hK _ _ ((KeepsOthers.alloc _ _).from _) ⟨(Below.refl _ W).alloc (uQ hWs) _,Below.heap_alloc _ _ _ (by have:=hiW.sz;omega)⟩ ⟨hiW.be.kp ka (by simp),hiW.b1.kp ka (by simp),hiW.b2.kp ka (by simp),hiW.b3.kp ka (by simp),hiW.bo.kp ka (by simp),⟨l0,g0,c0,r1,r2.kp ka (by simp),q03 r3 ka (by simp)⟩,hiW.bel.alloc hiW.bel.size _,hiW.bs.kp ka (by simp),by have:=hiW.sz;simp;omega⟩ ⟨W.heap.size,by have:=hiW.sz;omega,CBox.new W _ _,rfl⟩
 case body=>
  rintro l pre x a' W hl _ hi ⟨Bx,hBx,bX,rfl⟩ hlt
  have hpx:xs[x]∈xs:=zJ x.isLt
  have hnx:((pre++[x]).map fun i=>xs[i]).reverse=xs[x]::((pre.map fun i=>xs[i]).reverse):=by simp
  have hmem: ∀q∈(pre.map fun i=>xs[i]).reverse,q∈xs:=fun q hq=>by
   simp only[List.mem_reverse,List.mem_map]at hq
   obtain ⟨i,_,rfl⟩:=hq
   exact zJ i.isLt
  have hlen:(pre.map fun i=>xs[i]).reverse.length<xs.length:=by simpa using hlt
  have HSZ:Hid (W0.heap.size=w1.heap.size+4/\w.heap.size+4<=w1.heap.size):=hZq hsz0
  have HXP:=hZq (And.intro hpx (And.intro hnx (And.intro hmem hlen)))
  clear hpx hnx hmem hlen
  have hq:xs[x].v= .agg #[.int .i64 xs[x].kd, .int .i64 xs[x].n, .string xs[x].s, .string xs[x].st, .int .i64 xs[x].fl]:=rfl
  have hq2:xs[x].c=#[.int .i64 xs[x].kd, .int .i64 xs[x].n, .string xs[x].s, .string xs[x].st, .int .i64 xs[x].fl]:=rfl
  rw[hq]
  rw[hq2]at bX
  clear hq hq2
  generalize hpe:xs[x]=p at *
  have HPE:=hZq hpe
  clear hpe
  have RW:=hZq (CallsIn.inRound (n:=6) l (callsIn_wide.2 (q80 w1.heap.size p.kd W hi.bo)))
  have hone:=q1U p.kd
  have hrc:rowC p.kd=#[.string (txt (sgO p.kd)), .int .i64 (sds p.kd:Nat), .int .u64 (ofO p.kd), .int .i64 (isO p.kd),fnO p.kd]:=rfl
  have hcs:=bX.cell (i:=0) (v:= .int .i64 p.kd) rfl
  have hsd2:=q22 p.kd
  have HRC:=hZq hrc
  rw[hrc]at RW
  clear hrc
  generalize fnO p.kd=F at *
  generalize txt (sgO p.kd)=S at *
  generalize ofO p.kd=O at *
  generalize isO p.kd=I at *
  obtain ⟨N,hN⟩: ∃N,sds p.kd=N:=⟨_,rfl⟩
  rw[hN]at RW HRC hsd2
  have HN:=hZq hN
  clear hN
  have sF: ∀W a m,(store a F m).run Tryz.prog W=stored Tryz.prog W a F m:=fun W a m=>run_store Tryz.prog W a F m hone
  obtain ⟨lst,g,cp,hst,b8,hrow⟩:=hi.row
  have HI:=hZq (And.intro hi (And.intro hst (And.intro b8 (And.intro hrow bX))))
  have PF:=hZq (fun w2 (hk:Kp [] W w2)=>qd4 (S:=S) (N:=N) (O:=O) (I:=I) (F:=F) hi b8 hk)
  clear hi hst b8 hrow bX hbs hI0 hbl hbo0
  gi_wp2_with fail
  refine ⟨trivial,?_⟩
  refine (uQ RW).mono ?_
  rintro e w2 ⟨rfl,hk2⟩
  obtain ⟨c8,z1,z2,z3,z4,z5,z6,z7⟩:=uQ PF w2 hk2
  by_cases hLN:lst.length<N
  ·have hl1:((lst.length:Int)<(N:Int))=True:=by simp;omega
   have x10:=z1.cell (i:=0) (v:= .int .i64 0) rfl
   have x30:=z3.cell (i:=0) (v:= .int .i64 0) rfl
   have x11:=z1.cell (i:=1) (v:= .int .i64 0) rfl
   have x31:=z3.cell (i:=1) (v:= .int .i64 0) rfl
   have y2:=z2.cell (i:=0) (v:= .bool false) rfl
   have f1:=z1.froz
   have f2:=z2.froz
   have HD:=hZq (And.intro z1 (And.intro z2 (And.intro z4 z6)))
   clear z1 z2 z3 z4 z5 z6 z7 PF RW hk2 hone hcs
   gi_wp2
   obtain ⟨u1,u2,u4,u6⟩:=uQ HD
   obtain ⟨hi,hst,b8,hrow,bX⟩:=uQ HI
   obtain ⟨hpx,hnx,hmem,hlen⟩:=uQ HXP
   exact qd2 hi.bel u4 u1 u2 (by rw[hnx,stk,hst];dsimp only;rw[uQ HN,if_pos hLN])
  ·have hl1:((lst.length:Int)<(N:Int))=False:=by simp;omega
   have HLP:=hZq (qbg (uQ HI).1 (uQ HI).2.2.1 (uQ HI).2.2.2.1 (uQ HI).2.2.2.2 hk2 (S:=S) (N:=N) (O:=O) (I:=I) (F:=F) hBx (uQ HSZ).1 (uQ HSZ).2)
   clear z1 z2 z3 z4 z5 z6 z7 PF RW hk2 hone hcs
   gi_wp2
   generalize (w2.alloc (.cells #[.string S, .int .i64 (N:Int), .int .u64 O, .int .i64 I,F] 212)).alloc (.cells #[.int .i64 0, .int .i64 0, .int .i64 0, .int .i64 0] 230)=Wl at *
   clear c8 hl1
   gi_loopw [32] (fun i wr=> ∃k:Nat,k<=N/\i= .int .i64 (k:Int)/\Hid (CBox (w1.heap.size+1+1) #[.slice (some ⟨g,0,none⟩) (lst.length-k) cp] 229 wr/\CBox (w2.heap.size+1) (sdCS (lst.take k)) 230 wr/\Kp [w1.heap.size+1+1,w2.heap.size+1] Wl wr)) (fun i _=>N-(intOf i).toNat)
   case atStart=>exact ⟨0,Nat.zero_le _,rfl,hZq ⟨(uQ HLP).b8,(uQ HLP).bsd,Kp.refl _ _⟩⟩
   case round=>
    obtain ⟨k,hk,rfl,HR⟩:=hrel
    have HLN:Hid (lst.length<=200):=hZq (by have h1:=q3x (uQ HI).2.1;have h2:=(uQ HXP).2.2.2;omega)
    by_cases hkN:k<N
    ·rcases (show k=0\/k=1 by omega)with rfl|rfl
     ·obtain ⟨a,r,rfl⟩: ∃a r,lst=a::r:=qba (by omega)
      obtain ⟨u8,us,uk⟩:=uQ HR
      have hRC:=hZq (q4V (uQ HLP) uk (k:=0) (by simp))
      have hlr:(a::r).length-0=r.length+1:=by simp
      rw[hlr]at u8
      obtain ⟨q0,q1⟩:=uQ hRC
      have c8:=u8.cell (i:=0) (v:= .slice (some ⟨g,0,none⟩) (r.length+1) cp) rfl
      have fs:=us.froz
      have f8:=u8.froz
      have t0:=us.cell (i:=0) (v:= .int .i64 0) rfl
      have t1:=us.cell (i:=1) (v:= .int .i64 0) rfl
      have hn8:w1.heap.size+1+1≠w2.heap.size+1:=by have:=(uQ HLP).n4;have:=(uQ HLP).le;omega
      have hng:g≠w2.heap.size+1:=by have:=(uQ HLP).gl;have:=(uQ HLP).le;omega
      have HU:=hZq (And.intro u8 (And.intro us uk))
      clear u8 us uk hRC HR hlr
      obtain ⟨M,hM⟩: ∃M,r.length=M:=⟨_,rfl⟩
      have p0:wr.cell? ⟨g,M * 2,none⟩=some (.int .i64 a.kd):=by have:=q0;subst hM;simpa using this
      have p1:wr.cell? ⟨g,M * 2+1,none⟩=some (.int .i64 a.dp):=by have:=q1;subst hM;simpa using this
      clear q0 q1
      rw[hM]at c8 HU
      have HMM:=hZq hM
      clear hM
      have hM2:M<=1000000:=by have:=uQ HMM;have:=uQ HLN;simp at this;omega
      have hb1:((M:Int)<(M:Int)+1)=True:=by simp;omega
      have hb2:((M:Int)<=(M:Int)+1)=True:=by simp;omega
      have hcp:M<=cp:=by have h1:=q7I (uQ HLP);have h2:=uQ HMM;simp at h1;omega
      have hcp2:((M:Int)<=(cp:Int))=True:=by simp;omega
      have hS14:(fun W'=>W'.cell? ⟨w1.heap.size+1+1,0,none⟩=some (.slice (some ⟨g,0,none⟩) (M+1) cp)/\W'.cell? ⟨g,M * 2,none⟩=some (.int .i64 a.kd)/\W'.cell? ⟨g,M * 2+1,none⟩=some (.int .i64 a.dp)) wr.drew:=⟨c8,p0,p1⟩
      have hS15:(fun W'=>W'.cell? ⟨w1.heap.size+1+1,0,none⟩=some (.slice (some ⟨g,0,none⟩) (M+1) cp)/\W'.cell? ⟨g,M * 2,none⟩=some (.int .i64 a.kd)/\W'.cell? ⟨g,M * 2+1,none⟩=some (.int .i64 a.dp)) ((wr.drew.setCell ⟨w2.heap.size+1,0,none⟩ (.int .i64 a.kd)).setCell ⟨w2.heap.size+1,1,none⟩ (.int .i64 a.dp)):=q7K hn8 hng c8 0 p0 p1
      have HEND:=hZq (q8o (uQ HU) hn8)
      gi_wp2
      refine q0l (fun W'=>W'.cell? ⟨w1.heap.size+1+1,0,none⟩=some (.slice (some ⟨g,0,none⟩) (M+1) cp)/\W'.cell? ⟨g,M * 2,none⟩=some (.int .i64 a.kd)/\W'.cell? ⟨g,M * 2+1,none⟩=some (.int .i64 a.dp)) 10 (by kernel_rfl) (by kernel_rfl) (fun ⟨_,_,h⟩=>h) ?_
      show q0a _ _ _ _ _ _ 11 (Array.replicate 11 false) _ _
      refine zzL (i:=0) (v:=?_) rfl (Or.inl ⟨by rfl,?_⟩) hS14 ?_
      rotate_left
      ·intro w0 s9;(try dsimp only at s9);go_simp;(try with_reducible rfl)
      try simp only[Act.put,zz1,zz2,zz3]
      refine zzL (i:=1) (v:=?_) rfl (Or.inl ⟨by rfl,?_⟩) hS14 ?_
      rotate_left
      ·intro w0 s9;(try dsimp only at s9);go_simp;(try with_reducible rfl)
      try simp only[Act.put,zz1,zz2,zz3]
      refine zzL (i:=2) (v:=?_) rfl (Or.inl ⟨by rfl,?_⟩) hS14 ?_
      rotate_left
      ·intro w0 s9;(try dsimp only at s9);go_simp;(try with_reducible rfl)
      try simp only[Act.put,zz1,zz2,zz3]
      refine zzL (i:=3) (v:=?_) rfl (Or.inl ⟨by rfl,?_⟩) hS14 ?_
      rotate_left
      ·intro w0 s9;(try dsimp only at s9);go_simp;(try with_reducible rfl)
      try simp only[Act.put,zz1,zz2,zz3]
      refine zzL (i:=4) (v:=?_) rfl (Or.inl ⟨by rfl,?_⟩) hS14 ?_
      rotate_left
      ·intro w0 s9;(try dsimp only at s9);go_simp;(try with_reducible rfl)
      try simp only[Act.put,zz1,zz2,zz3]
      refine zzL (i:=5) (v:=?_) rfl (Or.inl ⟨by rfl,?_⟩) hS14 ?_
      rotate_left
      ·intro w0 s9;(try dsimp only at s9);go_simp;(try with_reducible rfl)
      try simp only[Act.put,zz1,zz2,zz3]
      refine zzL (i:=6) (v:=?_) rfl (Or.inl ⟨by rfl,?_⟩) hS14 ?_
      rotate_left
      ·intro w0 s9;(try dsimp only at s9);go_simp;(try with_reducible rfl)
      try simp only[Act.put,zz1,zz2,zz3]
      refine zzL (i:=7) (v:=?_) rfl (Or.inl ⟨by rfl,?_⟩) hS14 ?_
      rotate_left
      ·intro w0 s9;(try dsimp only at s9);go_simp;(try with_reducible rfl)
      try simp only[Act.put,zz1,zz2,zz3]
      refine zzL (i:=8) (v:=?_) rfl (Or.inl ⟨by rfl,?_⟩) hS14 ?_
      rotate_left
      ·intro w0 s9;(try dsimp only at s9);go_simp;(try with_reducible rfl)
      try simp only[Act.put,zz1,zz2,zz3]
      refine q01 (i:=9) rfl (by kernel_rfl) (fun K hK=>?_)
      go_simp
      refine hK _ _ (Or.inr hS15) ?_
      refine q01 (i:=10) rfl (by kernel_rfl) (fun K hK=>?_)
      go_simp
      refine hK _ _ (Or.inl rfl) ?_
      refine q0c (by kernel_rfl) ?_ _
      gi_wp2
      go_roundw
      case rel=>exact ⟨_,_,_,⟨1,by omega,rfl,hZq (by have e:=uQ HEND;have hm:=uQ HMM;subst hm;exact e)⟩,rfl,rfl,rfl⟩
      case measure=>simp[intOf];omega
     ·obtain ⟨a0,a,r,rfl⟩: ∃a0 a r,lst=a0::a::r:=q9r (by omega)
      obtain ⟨u8,us,uk⟩:=uQ HR
      have hRC:=hZq (q4V (uQ HLP) uk (k:=1) (by simp))
      have hlr:(a0::a::r).length-1=r.length+1:=by simp
      rw[hlr]at u8
      obtain ⟨q0,q1⟩:=uQ hRC
      have c8:=u8.cell (i:=0) (v:= .slice (some ⟨g,0,none⟩) (r.length+1) cp) rfl
      have fs:=us.froz
      have f8:=u8.froz
      have t0:=us.cell (i:=2) (v:= .int .i64 0) rfl
      have t1:=us.cell (i:=3) (v:= .int .i64 0) rfl
      have hn8:w1.heap.size+1+1≠w2.heap.size+1:=by have:=(uQ HLP).n4;have:=(uQ HLP).le;omega
      have hng:g≠w2.heap.size+1:=by have:=(uQ HLP).gl;have:=(uQ HLP).le;omega
      have HU:=hZq (And.intro u8 (And.intro us uk))
      clear u8 us uk hRC HR hlr
      obtain ⟨M,hM⟩: ∃M,r.length=M:=⟨_,rfl⟩
      have p0:wr.cell? ⟨g,M * 2,none⟩=some (.int .i64 a.kd):=by have:=q0;subst hM;simpa using this
      have p1:wr.cell? ⟨g,M * 2+1,none⟩=some (.int .i64 a.dp):=by have:=q1;subst hM;simpa using this
      clear q0 q1
      rw[hM]at c8 HU
      have HMM:=hZq hM
      clear hM
      have hM2:M<=1000000:=by have:=uQ HMM;have:=uQ HLN;simp at this;omega
      have hb1:((M:Int)<(M:Int)+1)=True:=by simp;omega
      have hb2:((M:Int)<=(M:Int)+1)=True:=by simp;omega
      have hcp:M<=cp:=by have h1:=q7I (uQ HLP);have h2:=uQ HMM;simp at h1;omega
      have hcp2:((M:Int)<=(cp:Int))=True:=by simp;omega
      have hS14:(fun W'=>W'.cell? ⟨w1.heap.size+1+1,0,none⟩=some (.slice (some ⟨g,0,none⟩) (M+1) cp)/\W'.cell? ⟨g,M * 2,none⟩=some (.int .i64 a.kd)/\W'.cell? ⟨g,M * 2+1,none⟩=some (.int .i64 a.dp)) wr.drew:=⟨c8,p0,p1⟩
      have hS15:(fun W'=>W'.cell? ⟨w1.heap.size+1+1,0,none⟩=some (.slice (some ⟨g,0,none⟩) (M+1) cp)/\W'.cell? ⟨g,M * 2,none⟩=some (.int .i64 a.kd)/\W'.cell? ⟨g,M * 2+1,none⟩=some (.int .i64 a.dp)) ((wr.drew.setCell ⟨w2.heap.size+1,2,none⟩ (.int .i64 a.kd)).setCell ⟨w2.heap.size+1,3,none⟩ (.int .i64 a.dp)):=q7K hn8 hng c8 2 p0 p1
      have HEND:=hZq (q8p (uQ HU) hn8)
      gi_wp2
      refine q0l (fun W'=>W'.cell? ⟨w1.heap.size+1+1,0,none⟩=some (.slice (some ⟨g,0,none⟩) (M+1) cp)/\W'.cell? ⟨g,M * 2,none⟩=some (.int .i64 a.kd)/\W'.cell? ⟨g,M * 2+1,none⟩=some (.int .i64 a.dp)) 10 (by kernel_rfl) (by kernel_rfl) (fun ⟨_,_,h⟩=>h) ?_
      show q0a _ _ _ _ _ _ 11 (Array.replicate 11 false) _ _
      refine zzL (i:=0) (v:=?_) rfl (Or.inl ⟨by rfl,?_⟩) hS14 ?_
      rotate_left
      ·intro w0 s9;(try dsimp only at s9);go_simp;(try with_reducible rfl)
      try simp only[Act.put,zz1,zz2,zz3]
      refine zzL (i:=1) (v:=?_) rfl (Or.inl ⟨by rfl,?_⟩) hS14 ?_
      rotate_left
      ·intro w0 s9;(try dsimp only at s9);go_simp;(try with_reducible rfl)
      try simp only[Act.put,zz1,zz2,zz3]
      refine zzL (i:=2) (v:=?_) rfl (Or.inl ⟨by rfl,?_⟩) hS14 ?_
      rotate_left
      ·intro w0 s9;(try dsimp only at s9);go_simp;(try with_reducible rfl)
      try simp only[Act.put,zz1,zz2,zz3]
      refine zzL (i:=3) (v:=?_) rfl (Or.inl ⟨by rfl,?_⟩) hS14 ?_
      rotate_left
      ·intro w0 s9;(try dsimp only at s9);go_simp;(try with_reducible rfl)
      try simp only[Act.put,zz1,zz2,zz3]
      refine zzL (i:=4) (v:=?_) rfl (Or.inl ⟨by rfl,?_⟩) hS14 ?_
      rotate_left
      ·intro w0 s9;(try dsimp only at s9);go_simp;(try with_reducible rfl)
      try simp only[Act.put,zz1,zz2,zz3]
      refine zzL (i:=5) (v:=?_) rfl (Or.inl ⟨by rfl,?_⟩) hS14 ?_
      rotate_left
      ·intro w0 s9;(try dsimp only at s9);go_simp;(try with_reducible rfl)
      try simp only[Act.put,zz1,zz2,zz3]
      refine zzL (i:=6) (v:=?_) rfl (Or.inl ⟨by rfl,?_⟩) hS14 ?_
      rotate_left
      ·intro w0 s9;(try dsimp only at s9);go_simp;(try with_reducible rfl)
      try simp only[Act.put,zz1,zz2,zz3]
      refine zzL (i:=7) (v:=?_) rfl (Or.inl ⟨by rfl,?_⟩) hS14 ?_
      rotate_left
      ·intro w0 s9;(try dsimp only at s9);go_simp;(try with_reducible rfl)
      try simp only[Act.put,zz1,zz2,zz3]
      refine zzL (i:=8) (v:=?_) rfl (Or.inl ⟨by rfl,?_⟩) hS14 ?_
      rotate_left
      ·intro w0 s9;(try dsimp only at s9);go_simp;(try with_reducible rfl)
      try simp only[Act.put,zz1,zz2,zz3]
      refine q01 (i:=9) rfl (by kernel_rfl) (fun K hK=>?_)
      go_simp
      refine hK _ _ (Or.inr hS15) ?_
      refine q01 (i:=10) rfl (by kernel_rfl) (fun K hK=>?_)
      go_simp
      refine hK _ _ (Or.inl rfl) ?_
      refine q0c (by kernel_rfl) ?_ _
      gi_wp2
      go_roundw
      case rel=>exact ⟨_,_,_,⟨2,by omega,rfl,hZq (by have e:=uQ HEND;have hm:=uQ HMM;subst hm;exact e)⟩,rfl,rfl,rfl⟩
      case measure=>simp[intOf];omega
    ·obtain rfl:k=N:=by omega
     obtain ⟨s0,s1,s2,s3,hsd⟩:=qei (lst.take k)
     have HSL:=hZq (qd8 (uQ HLP) (uQ HR) hsd)
     have c8:=(uQ HR).1.cell (i:=0) (v:= .slice (some ⟨g,0,none⟩) (lst.length-k) cp) rfl
     have HCT:=hZq (qbc (uQ HHE) (uQ HXP) (uQ HI) (uQ HLP) (uQ HR) (uQ HN) (uQ HRC) hsd (by omega))
     have HOW:=hZq (qd6 (uQ HLP) (uQ HR) (by omega))
     have HFI:=hZq (qbe (x:=x) (uQ HI).1 (uQ HLP) (uQ HR).1 (uQ HR).2.2)
     have HST2:Hid (stk shp (((pre++[x]).map fun i=>xs[i]).reverse)=some (shp p (lst.take k)::lst.drop k)):=hZq (by
      rw[(uQ HXP).2.1,stk,(uQ HI).2.1]
      dsimp only
      rw[uQ HN,if_neg (by omega)])
     have HLL:Hid ((lst.drop k).length=lst.length-k):=hZq (by simp)
     obtain ⟨LL,hLL⟩: ∃LL,lst.length-k=LL:=⟨_,rfl⟩
     have HB8:=hZq (uQ HR).1
     have HKR:=hZq (uQ HR).2.2
     rw[hLL]at c8 HSL HOW HLL HB8
     have hLB:LL<=200:=by have:=uQ HLN;omega
     clear hLL HR
     have hS16:=uQ HSL wr.drew (Kp.drew wr |>.mono (by simp))
     gi_wp2
     refine q0l (fun W'=>W'.cell? ⟨w1.heap.size+1+1,0,none⟩=some (.slice (some ⟨g,0,none⟩) LL cp)/\W'.cell? ⟨w.heap.size,0,none⟩=some (.func (.func EF) #[] #[])/\W'.cell? ⟨Bx,0,none⟩=some (.int .i64 p.kd)/\W'.cell? ⟨Bx,1,none⟩=some (.int .i64 p.n)/\W'.cell? ⟨Bx,2,none⟩=some (.string p.s)/\W'.cell? ⟨Bx,3,none⟩=some (.string p.st)/\W'.cell? ⟨Bx,4,none⟩=some (.int .i64 p.fl)/\W'.cell? ⟨w2.heap.size,0,none⟩=some (.string S)/\W'.cell? ⟨w2.heap.size,1,none⟩=some (.int .i64 (k:Int))/\W'.cell? ⟨w2.heap.size,2,none⟩=some (.int .u64 O)/\W'.cell? ⟨w2.heap.size,3,none⟩=some (.int .i64 I)/\W'.cell? ⟨w2.heap.size,4,none⟩=some (F)/\W'.cell? ⟨w2.heap.size+1,0,none⟩=some s0/\W'.cell? ⟨w2.heap.size+1,1,none⟩=some s1/\W'.cell? ⟨w2.heap.size+1,2,none⟩=some s2/\W'.cell? ⟨w2.heap.size+1,3,none⟩=some s3) 8 (by kernel_rfl) (by kernel_rfl) (fun ⟨_,_,h⟩=>h) ?_
     show q0a _ _ _ _ _ _ 9 (Array.replicate 9 false) _ _
     refine zzL (i:=0) (v:=?_) rfl (Or.inl ⟨by rfl,?_⟩) hS16 ?_
     rotate_left
     ·intro w0 s9;(try dsimp only at s9);go_simp;(try with_reducible rfl)
     try simp only[Act.put,zz1,zz2,zz3]
     refine zzL (i:=1) (v:=?_) rfl (Or.inl ⟨by rfl,?_⟩) hS16 ?_
     rotate_left
     ·intro w0 s9;(try dsimp only at s9);go_simp;(try with_reducible rfl)
     try simp only[Act.put,zz1,zz2,zz3]
     refine zzL (i:=2) (v:=?_) rfl (Or.inl ⟨by rfl,?_⟩) hS16 ?_
     rotate_left
     ·intro w0 s9;(try dsimp only at s9);go_simp;(try with_reducible rfl)
     try simp only[Act.put,zz1,zz2,zz3]
     refine zzL (i:=3) (v:=?_) rfl (Or.inl ⟨by rfl,?_⟩) hS16 ?_
     rotate_left
     ·intro w0 s9;(try dsimp only at s9);go_simp;(try with_reducible rfl)
     try simp only[Act.put,zz1,zz2,zz3]
     refine zzL (i:=4) (v:=?_) rfl (Or.inl ⟨by rfl,?_⟩) hS16 ?_
     rotate_left
     ·intro w0 s9;(try dsimp only at s9);go_simp;(try with_reducible rfl)
     try simp only[Act.put,zz1,zz2,zz3]
     refine q01 (i:=5) rfl (by kernel_rfl) (fun K hK=>?_)
     go_simp
     rw[uQ HEN,Oper.upon_enter]
     refine (uQ HCT).mono ?_
     rintro e w3 ⟨rfl,hb3⟩
     dsimp only
     have kp3:Kp [] wr w3:=(Kp.drew wr).trans (Kp.ofBelow hb3) (by simp)
     refine hK _ _ (Or.inr (uQ HSL w3 (kp3.mono (by simp)))) ?_
     try simp only[Act.put,zz1,zz2,zz3]
     refine q01 (i:=6) rfl (by kernel_rfl) (fun K hK=>?_)
     go_simp
     have kp4:Kp [] wr (w3.alloc (.cells #[.int .i64 (shp p (lst.take k)).kd, .int .i64 (shp p (lst.take k)).dp] 205)):=kp3.trans (Kp.alloc _ _) (by simp)
     have nc:=q52 w3 [.int .i64 (shp p (lst.take k)).kd, .int .i64 (shp p (lst.take k)).dp] 205
     refine hK _ _ (Or.inr (uQ HSL _ (kp4.mono (by simp)))) ?_
     have hown:=q03 (uQ HOW) kp4 (by simp)
     have hlow:w.heap.size+4<=(w3.alloc (.cells #[.int .i64 (shp p (lst.take k)).kd, .int .i64 (shp p (lst.take k)).dp] 205)).heap.size:=by have h1:=(uQ HI).1.bel.size;have h2:=(uQ HI).1.sz;have h3:=kp4.size;have h4:=(uQ HSZ).2;have h5:=(uQ HLP).kp.size;have h6:=(uQ HKR).size;omega
     obtain ⟨i0,hi0,hz0,hz1,hz2⟩:=info_parts q9C
     refine q01 (i:=7) rfl (by kernel_rfl) (fun K hK=>?_)
     refine q0O rfl (.tmp 48) (.tmp 54) 229 rfl (w.heap.size+4) 205 i0 (.agg #[.int .i64 0, .int .i64 0]) 2 16 Tryz.underlying229 hi0 hz0 hz1 hz2 rfl (by decide) (.slice (some ⟨g,0,none⟩) LL cp) LL _ rfl hown ⟨w3.heap.size,0,none⟩ 1 1 [.int .i64 (shp p (lst.take k)).kd, .int .i64 (shp p (lst.take k)).dp] rfl rfl nc (by simp[Value.oneCell']) (by decide) (by simp[maxLen];omega) (by omega) hlow ?_
     rintro g5 cap5 w5 hw5 hgr hg5
     have kp5:Kp [g] wr w5:=(kp4.mono (by simp)).trans (Kp.of hgr) (by simp[Value.ownBlock])
     have hb5:=(uQ HB8).kp kp5 (by simp;have:=(uQ HLP).n1;omega)
     have c5:=hb5.cell (i:=0) rfl
     have f5:=hb5.froz
     have hge:g5=g\/wr.heap.size<=g5:=by
      rcases hg5 with h|h
      ·simp[Value.ownBlock]at h
       exact Or.inl h.symm
      ·exact Or.inr (by have:=kp4.size;omega)
     have hfin:=uQ HFI w5 g5 cap5 (LL+1) _ kp5 hge (uQ HST2) (by rw[List.length_cons,uQ HLL]) (by rw[List.reverse_cons,List.flatMap_append];exact hw5)
     refine hK _ _ (Or.inr (uQ HSL _ kp5)) ?_
     try simp only[Act.put,zz1,zz2,zz3]
     refine q01 (i:=8) rfl (by kernel_rfl) (fun K hK=>?_)
     go_simp
     refine hK _ _ (Or.inl rfl) ?_
     refine q0c (by kernel_rfl) ?_ _
     exact hfin W0.heap.size
 case done=>
  rintro D ys W hD rfl hi hK
  obtain ⟨l,g,cp,hst,b8,hrow⟩:=hi.row
  rw[q3n xs xs.length (zM _),Nat.sub_self,List.drop_zero]at hst
  have HI:=hZq hi
  have c8:=b8.cell (i:=0) (v:= .slice (some ⟨g,0,none⟩) l.length cp) rfl
  have y2:=hi.b2.cell (i:=0) (v:= .bool false) rfl
  have f1:=hi.b1.froz
  have f2:=hi.b2.froz
  have hb:=hi.bel
  have x10:=hi.b1.cell (i:=0) (v:= .int .i64 0) rfl
  have x30:=hi.b3.cell (i:=0) (v:= .int .i64 0) rfl
  have x11:=hi.b1.cell (i:=1) (v:= .int .i64 0) rfl
  have x31:=hi.b3.cell (i:=1) (v:= .int .i64 0) rfl
  have hln:l.length<=200:=Nat.le_trans (q3x hst) hsz
  have HB:=hZq (And.intro hi.b1 hi.b2)
  clear HHE HEN HC hI0 hbs hbl hi hbo0
  by_cases h1:l.length=1
  ·obtain ⟨a,rfl⟩:=List.length_eq_one_iff.1 h1
   have hc:=fun i hi=>q0t (enc:=shE) (sz:=2) q4M (l:=[a]) hrow 0 i (by simp) hi
   have e0:W.cell? ⟨g,0,none⟩=some (.int .i64 a.kd):=hc 0 (by omega)
   have e1:W.cell? ⟨g,1,none⟩=some (.int .i64 a.dp):=hc 1 (by omega)
   clear hc hrow
   have HFD:Hid (fdX shp xs=some a):=hZq (by unfold fdX;rw[hst])
   clear hst b8
   gi_wp2
   obtain ⟨u1,u2⟩:=uQ HB
   have kd:Kp [w.heap.size+1,w.heap.size+1+1] W (((W.setCell ⟨w.heap.size+1,0,none⟩ (.int .i64 a.kd)).setCell ⟨w.heap.size+1,1,none⟩ (.int .i64 a.dp)).setCell ⟨w.heap.size+1+1,0,none⟩ (.bool true)):=((((Kp.refl _ W).trans (Kp.set _ _ _ _) (by simp)).trans (Kp.set _ _ _ _) (by simp)).trans (Kp.set _ _ _ _) (by simp))
   refine q2u (b:=true) rfl rfl rfl Tryz.underlying205 rfl ((kd.block D (zB.1 hK).1 (by simp;omega)).trans hK) (CBox.kp (CBox.set (CBox.set u1 0 _) 1 _) (Kp.set _ _ _ _) (by simp)) (CBox.set (CBox.kp (CBox.kp u2 (Kp.set _ _ _ _) (by simp)) (Kp.set _ _ _ _) (by simp)) 0 _) (hb.trans (kd.below hb.size (by simp;omega))) (by omega) (fun W' hW'=>⟨?_,hW'⟩)
   rw[uQ HFD]
   rfl
  ·have HFD:Hid (fdX shp xs=none):=hZq (by
    unfold fdX
    rw[hst]
    match l,h1 with
    |[],_=>rfl
    |_::_::_,_=>rfl)
   have h2:((l.length:Int)=1)=False:=by simp;omega
   clear hst b8 hrow
   gi_wp2
   obtain ⟨u1,u2⟩:=uQ HB
   have kd:Kp [w.heap.size+1,w.heap.size+1+1] W (((W.setCell ⟨w.heap.size+1,0,none⟩ (.int .i64 0)).setCell ⟨w.heap.size+1,1,none⟩ (.int .i64 0)).setCell ⟨w.heap.size+1+1,0,none⟩ (.bool false)):=((((Kp.refl _ W).trans (Kp.set _ _ _ _) (by simp)).trans (Kp.set _ _ _ _) (by simp)).trans (Kp.set _ _ _ _) (by simp))
   refine q2u (b:=false) rfl rfl rfl Tryz.underlying205 rfl ((kd.block D (zB.1 hK).1 (by simp;omega)).trans hK) (CBox.kp (CBox.set (CBox.set u1 0 _) 1 _) (Kp.set _ _ _ _) (by simp)) (CBox.set (CBox.kp (CBox.kp u2 (Kp.set _ _ _ _) (by simp)) (Kp.set _ _ _ _) (by simp)) 0 _) (hb.trans (kd.below hb.size (by simp;omega))) (by omega) (fun W' hW'=>⟨?_,hW'⟩)
   rw[uQ HFD]
   rfl
 case stop=>
  rintro D c pre W hD ⟨k,hk,rfl⟩ ⟨rfl,hx⟩ hK
  have hno:=hx.no
  rw[q3n xs k hk]at hno
  have HFD:fdX shp xs=none:=by
   unfold fdX
   rw[<-List.take_append_drop (xs.length-k) xs,q4l shp _ _ hno]
  have HX:=hZq hx
  clear hx hno HHE HEN HC hI0 hbs
  gi_wp2
  have hx:=uQ HX
  refine q2u (b:=false) rfl rfl rfl Tryz.underlying205 rfl hK hx.b1 hx.b2 hx.bel (by have:=hbl.size;omega) (fun W' hW'=>⟨?_,hW'⟩)
  rw[HFD]
  rfl
end Go.Proofs.YtfgkikeeadlcfaaGreatDoor
namespace Go.Proofs.YtfgkikeeadlcfaaGreatDoor
open Go.RowKit Go.Shelf
theorem Ex.dn_flat (t:Ex):t.dn<=t.flat.length:=by
 induction t with
 |lf p=>simp[Ex.dn,Ex.flat]
 |un p a ih=>simp only[Ex.dn,Ex.flat,List.length_cons];omega
 |bi p a b iha ihb=>simp only[Ex.dn,Ex.flat,List.length_cons,zF];omega
theorem Ex.sh_ok (t:Ex)(h:t.flat.length<=200):(t.val shp).ok:=by
 have h1:=t.kd_range
 have h2:=t.dp_pos
 have h3:=t.dp_dn
 have h4:=t.dn_flat
 exact ⟨h1,by show 0<=t.dp;omega,by show t.dp<=_;omega⟩
theorem q6C {xs:List Pt}(hl:xs.length<=200){w:World}(hT:TbE w)(hfit: ∀p∈xs,p.fit)(p:Pt)(ts:List Ex)(W:World)(hp:p∈xs)(_: ∀t∈ts,t.wf/\ ∀q∈t.flat,q∈xs)(hn:(ts.flatMap Ex.flat).length+1<=xs.length)(hs:ts.length=sds p.kd)(hb:Below w.heap.size w W):
  Calls Tryz.prog 119 #[p.v, .agg (rowC p.kd), .agg (sdCS (ts.map (Ex.val shp)))] W fun e w'=>e= .returned (.agg (shE (shp p (ts.map (Ex.val shp)))).toArray)/\Below W.heap.size W w':=by
 have hW:=hT.below hb hT.low
 have z:Sh.ok ⟨0,0⟩:=⟨⟨by decide,by decide⟩,by decide,by decide⟩
 have h2:=q22 p.kd
 match ts,hs with
 |[],hs=>
  have:=q2n p ⟨0,0⟩ ⟨0,0⟩ W hW (hfit p hp) z z (fun _=>rfl)
  rw[<-hs]at this
  exact this
 |[a],hs=>
  have:=q2n p (a.val shp) ⟨0,0⟩ W hW (hfit p hp) (a.sh_ok (by simp at hn;omega)) z (fun _=>rfl)
  rw[<-hs]at this
  exact this
 |[a,b],hs=>
  have:=q2n p (a.val shp) (b.val shp) W hW (hfit p hp) (a.sh_ok (by simp at hn;omega)) (b.sh_ok (by simp at hn;omega)) (fun e=>by rw[e]at hs;simp at hs)
  rw[<-hs]at this
  exact this
 |a::b::c::r,hs=>simp at hs;omega
theorem q6Y (ad:Option Addr)(cap:Nat)(xs:List Pt)(hsz:xs.length<=200)(w:World)(hc:PtsAt w ad xs)(hT:TbE w)(hfit: ∀p∈xs,p.fit):
  Calls Tryz.prog 118 #[.slice ad xs.length cap, .func (.func 119) #[] #[]] w fun e w'=>e= .returned (foRS (fdX shp xs))/\Below w.heap.size w w':=
 callsIn_wide.1 (qbi 119 ad cap xs hsz w (PtsLow.of hc) (enters_of Tryz.func119 (by kernel_rfl) rfl) (q6C hsz hT hfit))
theorem q9k {xs:List Pt}{s:Sh}(h:fdX shp xs=some s):(0<=s.kd/\s.kd<=3):=by
 obtain ⟨t,_,_,rfl⟩:=q5K h
 exact t.kd_range
theorem q1G (ad:Option Addr)(cap:Nat)(xs:List Pt)(w:World)(hc:PtsAt w ad xs)(hT:TbE w)(hfit: ∀p∈xs,p.fit):
  Calls Tryz.prog 96 #[.slice ad xs.length cap] w fun e w'=>e= .returned (.tuple #[.int .i64 (ckK xs), .int .i64 (if ckK xs=0 then 110 else 0)])/\Below w.heap.size w w':=by
 by_cases hl:200<xs.length
 ·have hk:ckK xs=0:=by unfold ckK;rw[if_pos hl]
  rw[hk,if_pos rfl]
  have h1:((200:Int)<(xs.length:Int))=True:=by simp;omega
  clear hc hT hfit hk hl
  go_enter Tryz.func96,Tryz.ntmps96
  go_wp2
  exact bodyPost_ret (results_tmp2 rfl _ _ _) rfl ⟨rfl,Below.refl _ _⟩
 ·have h1:((200:Int)<(xs.length:Int))=False:=by simp;omega
  have F1:=hZq (q6Y ad cap xs (by omega) w hc hT hfit)
  have hk:ckK xs=match fdX shp xs with|some s=>if s.dp > 32 then 0 else s.kd|none=>0:=by unfold ckK;rw[if_neg hl];rfl
  have hr:=fun s=>q9k (xs:=xs) (s:=s)
  rw[hk]
  clear hc hT hfit hk
  generalize fdX shp xs=r at *
  have HR:=hZq hr
  clear hr hl
  go_enter Tryz.func96,Tryz.ntmps96
  go_wp2_with fail
  refine (uQ F1).mono ?_
  rintro e w1 ⟨rfl,hb⟩
  cases r with
  |none=>
   clear F1 HR
   unfold foRS
   dsimp only
   go_wp2
   exact bodyPost_ret (results_tmp2 rfl _ _ _) rfl ⟨rfl,hb.alloc hb.size _⟩
  |some s=>
   obtain ⟨k1,k2⟩:=uQ HR s rfl
   obtain ⟨kd,dp⟩:=s
   dsimp only at k1 k2
   unfold foRS shE
   dsimp only
   by_cases h0:kd=0
   ·subst h0
    clear F1 HR
    go_wp2
    exact bodyPost_ret (results_tmp2 rfl _ _ _) rfl ⟨rfl,hb.alloc hb.size _⟩
   ·by_cases hd:dp > 32
    ·have hd2:((32:Int)<dp)=True:=by simp;omega
     clear F1 HR
     go_wp2
     exact bodyPost_ret (results_tmp2 rfl _ _ _) rfl ⟨by first|rfl|(dsimp only;rw[if_pos hd,if_pos rfl];rfl)|(simp[hd]),hb.alloc hb.size _⟩
    ·have hd2:((32:Int)<dp)=False:=by simp;omega
     clear F1 HR
     go_wp2
     exact bodyPost_ret (results_tmp2 rfl _ _ _) rfl ⟨by first|rfl|(dsimp only;rw[if_neg hd,if_neg h0];rfl)|(simp[hd,h0]),hb.alloc hb.size _⟩
def Tk.v (t:Tk):Value:= .agg #[.int .i64 t.kd, .string t.s, .int .i64 t.n, .int .i64 t.pl]
def rdV:Option (Tk × Nat)->Value
 |none=> .tuple #[.agg #[.int .i64 0, .string ⟨#[]⟩, .int .i64 0, .int .i64 0], .int .i64 0]
 |some (t,n)=> .tuple #[t.v, .int .i64 n]
theorem q38 (s:ByteArray)(n:Nat):s.extract 0 n=txt (s.data.toList.take n):=by
 apply ByteArray.ext
 apply Array.ext'
 rw[ByteArray.data_extract,Array.toList_extract,List.extract_eq_take_drop]
 simp[txt]
theorem q3F (s:ByteArray)(n:Nat):s.extract n s.size=txt (s.data.toList.drop n):=by
 apply ByteArray.ext
 apply Array.ext'
 rw[ByteArray.data_extract,Array.toList_extract,List.extract_eq_take_drop,List.take_of_length_le (by rw[List.length_drop,Array.length_toList];exact zM _)]
 simp[txt]
theorem q0e (s:ByteArray):s.data.toList.length=s.size:=Array.length_toList
theorem q6s (s:ByteArray)(w:World)(hT:TbW w)(hs:s.size<=9223372036854775807):
  Calls Tryz.prog 73 #[.string s] w fun e w'=>e= .returned (rdV (tkW s.data.toList))/\Below w.heap.size w w':=by
 have hle:=q19 q0h s.data.toList
 rw[q0e]at hle
 have HQ:Hid (tkW s.data.toList=if 32<spn q0h s.data.toList then none else some (⟨1,s.extract 0 (spn q0h s.data.toList),0,0⟩,spn q0h s.data.toList)):=by
  refine hZq ?_
  rw[q38]
  rfl
 have SP:=fun W hW=>q24 s 12 q0h qcD W hW hs
 generalize spn q0h s.data.toList=n at *
 generalize tkW s.data.toList=Q at *
 have HSP:=hZq SP
 clear SP
 by_cases h:32<n
 ·have hq:=uQ HQ
  rw[if_pos h]at hq
  subst hq
  clear HQ
  go_enter Tryz.func73,Tryz.ntmps73
  go_wp2_with fail
  refine (uQ HSP _ (hT.alloc _)).mono ?_
  rintro e w1 ⟨rfl,rfl⟩
  go_wp2
  exact bodyPost_ret (v:=rdV none) (by simp[results,Tryz.results73,go_sem,rdV]) rfl ⟨rfl,(Below.refl _ _).alloc (zM _) _⟩
 ·have hq:=uQ HQ
  rw[if_neg h]at hq
  subst hq
  clear HQ
  go_enter Tryz.func73,Tryz.ntmps73
  go_wp2_with fail
  refine (uQ HSP _ (hT.alloc _)).mono ?_
  rintro e w1 ⟨rfl,rfl⟩
  go_wp2
  exact bodyPost_ret (v:=rdV (some (⟨1,s.extract 0 n,0,0⟩,n))) (by simp[results,Tryz.results73,go_sem,rdV,Tk.v]) rfl ⟨rfl,(Below.refl _ _).alloc (zM _) _⟩
theorem q4d (s:ByteArray)(w:World)(hT:TbW w)(h0:0<s.size)(hs:s.size<=9223372036854775807)(hz:s[0].toNat=48)(hn:1<spn q07 s.data.toList):
  Calls Tryz.prog 74 #[.string s] w fun e w'=>e= .returned (rdV none)/\Below w.heap.size w w':=by
 have SP:=fun W hW=>q24 s 8 q07 q7y W hW hs
 generalize spn q07 s.data.toList=n at *
 have HSP:=hZq SP
 have g:((s[0].toNat:Int)==48)=true:=by simp[hz]
 clear SP
 go_enter Tryz.func74,Tryz.ntmps74
 go_wp2_with fail
 refine (uQ HSP _ (hT.alloc _)).mono ?_
 rintro e w1 ⟨rfl,rfl⟩
 go_wp2
 exact bodyPost_ret (v:=rdV none) (by simp[results,Tryz.results74,go_sem,rdV]) rfl ⟨rfl,(Below.refl _ _).alloc (zM _) _⟩
theorem qbH (s:ByteArray)(w:World)(hd: ∀x∈s.data.toList,q07 x=true)(h0:s.data.toList≠[])(hs:s.size<=281474976710656)(h: ¬ 9223372036854775807<dvl 0 s.data.toList):
  Calls Tryz.prog 100 #[.string s, .int .i64 10, .int .i64 64] w fun e w'=>e= .returned (.tuple #[.int .i64 (dvl 0 s.data.toList:Nat), .nilIface])/\Below w.heap.size w w':=by
 have e:=q7z _ hd h0
 rw[if_neg h]at e
 refine (Tryz.strconv_ParseInt_10_at64_ok s (by omega) _ e w).mono ?_
 rintro e w' ⟨rfl,rfl|⟨t,rfl⟩⟩
 ·exact ⟨rfl,Below.refl _ _⟩
 ·exact ⟨rfl,Lib.bytesWorld_below _ _ _⟩
theorem q55 (s:ByteArray)(w:World)(hT:TbW w)(hd: ∀x∈s.data.toList,q07 x=true)(h0:s.data.toList≠[])(hs:s.size<=281474976710656)(h:9223372036854775807<dvl 0 s.data.toList):
  Calls Tryz.prog 100 #[.string s, .int .i64 10, .int .i64 64] w fun e w'=> ∃x tp p,e= .returned (.tuple #[.int .i64 x, .iface tp p])/\Below w.heap.size w w':=by
 have e:=q7z _ hd h0
 rw[if_pos h]at e
 obtain ⟨tp,p,hc⟩:=hT.rng
 refine (Tryz.strconv_ParseInt_10_at64_range s hs e _ w hc (Or.inr ⟨_,_,rfl⟩)).mono ?_
 rintro e w' ⟨N,rfl,_,_,hb⟩
 exact ⟨_,_,_,rfl,hb⟩
theorem q4e (s:ByteArray)(w:World)(hT:TbW w)(h0:0<s.size)(hs:s.size<=140737488351232)(hz: ¬ (s[0].toNat=48/\1<spn q07 s.data.toList))(h1:1<=spn q07 s.data.toList):
  Calls Tryz.prog 74 #[.string s] w fun e w'=>e= .returned (rdV (if 9223372036854775807<dvl 0 (s.data.toList.take (spn q07 s.data.toList)) then none else some (⟨2,txt [],(dvl 0 (s.data.toList.take (spn q07 s.data.toList)):Nat),0⟩,spn q07 s.data.toList)))/\Below w.heap.size w w':=by
 have SP:=fun W hW=>q24 s 8 q07 q7y W hW (by omega)
 have hle:=q19 q07 s.data.toList
 rw[q0e]at hle
 have hd: ∀x∈s.data.toList.take (spn q07 s.data.toList),q07 x=true:=q86
 generalize spn q07 s.data.toList=n at *
 have he:(s.extract 0 n).data.toList=s.data.toList.take n:=by rw[q38];rfl
 have hne:s.data.toList.take n≠[]:=by
  intro e
  have:=congrArg List.length e
  rw[zL,q0e]at this
  simp only[List.length_nil]at this
  omega
 have hsz:(s.extract 0 n).size<=281474976710656:=by rw[ByteArray.size_extract];omega
 rw[<-he]at hd hne ⊢
 have HSP:=hZq SP
 have HD:=hZq hd
 have HNE:=hZq hne
 clear SP hd hne he
 have HZ:Hid (((s[0].toNat:Int)==48)=false\/(((s[0].toNat:Int)==48)=true/\n<=1)):=by
  refine hZq ?_
  by_cases h:s[0].toNat=48
  ·exact Or.inr ⟨by simp[h],by omega⟩
  ·exact Or.inl (by simp;omega)
 have HS:=hZq hsz
 clear hz hsz
 by_cases hv:9223372036854775807<dvl 0 (s.extract 0 n).data.toList
 ·rw[if_pos hv]
  have HV:=hZq hv
  clear hv
  rcases uQ HZ with hz|⟨hz,hn1⟩
  ·go_enter Tryz.func74,Tryz.ntmps74
   go_wp2_with fail
   refine (uQ HSP _ (hT.alloc _)).mono ?_
   rintro e w1 ⟨rfl,rfl⟩
   go_wp2_with fail
   refine (q55 (s.extract 0 n) _ (hT.alloc _) (uQ HD) (uQ HNE) (uQ HS) (uQ HV)).mono ?_
   rintro e w1 ⟨x,tp,p,rfl,hb⟩
   have hb0:Below w.heap.size w w1:=((Below.refl _ _).alloc (zM _) _).trans (hb.mono (by simp))
   have q:w1.heap[w.heap.size]?=some (.cells #[.int .i64 0, .string ⟨#[]⟩, .int .i64 0, .int .i64 0] 98 (0,0)):=by rw[hb.block _ (by simp)];exact heap_alloc_new w _
   have q0:=CBox.cell (i:=0) (v:= .int .i64 0) q rfl
   have q1:=CBox.cell (i:=1) (v:= .string ⟨#[]⟩) q rfl
   have q2:=CBox.cell (i:=2) (v:= .int .i64 0) q rfl
   have q3:=CBox.cell (i:=3) (v:= .int .i64 0) q rfl
   have f0:=CBox.froz q 0
   have f1:=CBox.froz q 1
   have f2:=CBox.froz q 2
   have f3:=CBox.froz q 3
   have HB0:=hZq hb0
   clear hb hb0 q
   go_wp2
   exact bodyPost_ret (v:=rdV none) (by simp[results,Tryz.results74,go_sem,rdV,q0,q1,q2,q3]) rfl ⟨rfl,((((uQ HB0).setCell (zM _) _).setCell (zM _) _).setCell (zM _) _).setCell (zM _) _⟩
  ·go_enter Tryz.func74,Tryz.ntmps74
   go_wp2_with fail
   refine (uQ HSP _ (hT.alloc _)).mono ?_
   rintro e w1 ⟨rfl,rfl⟩
   go_wp2_with fail
   refine (q55 (s.extract 0 n) _ (hT.alloc _) (uQ HD) (uQ HNE) (uQ HS) (uQ HV)).mono ?_
   rintro e w1 ⟨x,tp,p,rfl,hb⟩
   have hb0:Below w.heap.size w w1:=((Below.refl _ _).alloc (zM _) _).trans (hb.mono (by simp))
   have q:w1.heap[w.heap.size]?=some (.cells #[.int .i64 0, .string ⟨#[]⟩, .int .i64 0, .int .i64 0] 98 (0,0)):=by rw[hb.block _ (by simp)];exact heap_alloc_new w _
   have q0:=CBox.cell (i:=0) (v:= .int .i64 0) q rfl
   have q1:=CBox.cell (i:=1) (v:= .string ⟨#[]⟩) q rfl
   have q2:=CBox.cell (i:=2) (v:= .int .i64 0) q rfl
   have q3:=CBox.cell (i:=3) (v:= .int .i64 0) q rfl
   have f0:=CBox.froz q 0
   have f1:=CBox.froz q 1
   have f2:=CBox.froz q 2
   have f3:=CBox.froz q 3
   have HB0:=hZq hb0
   clear hb hb0 q
   go_wp2
   exact bodyPost_ret (v:=rdV none) (by simp[results,Tryz.results74,go_sem,rdV,q0,q1,q2,q3]) rfl ⟨rfl,((((uQ HB0).setCell (zM _) _).setCell (zM _) _).setCell (zM _) _).setCell (zM _) _⟩
 ·rw[if_neg hv]
  have HV:=hZq hv
  have PO:=fun W=>qbH (s.extract 0 n) W (uQ HD) (uQ HNE) (uQ HS) hv
  generalize dvl 0 (s.extract 0 n).data.toList=V at PO ⊢
  have HPO:=hZq PO
  clear hv HV PO
  rcases uQ HZ with hz|⟨hz,hn1⟩
  ·go_enter Tryz.func74,Tryz.ntmps74
   go_wp2_with fail
   refine (uQ HSP _ (hT.alloc _)).mono ?_
   rintro e w1 ⟨rfl,rfl⟩
   go_wp2_with fail
   refine (uQ HPO _).mono ?_
   rintro e w1 ⟨rfl,hb⟩
   have hb0:Below w.heap.size w w1:=((Below.refl _ _).alloc (zM _) _).trans (hb.mono (by simp))
   have q:w1.heap[w.heap.size]?=some (.cells #[.int .i64 0, .string ⟨#[]⟩, .int .i64 0, .int .i64 0] 98 (0,0)):=by rw[hb.block _ (by simp)];exact heap_alloc_new w _
   have q0:=CBox.cell (i:=0) (v:= .int .i64 0) q rfl
   have q1:=CBox.cell (i:=1) (v:= .string ⟨#[]⟩) q rfl
   have q2:=CBox.cell (i:=2) (v:= .int .i64 0) q rfl
   have q3:=CBox.cell (i:=3) (v:= .int .i64 0) q rfl
   have f0:=CBox.froz q 0
   have f1:=CBox.froz q 1
   have f2:=CBox.froz q 2
   have f3:=CBox.froz q 3
   have HB0:=hZq hb0
   clear hb hb0 q
   go_wp2
   exact bodyPost_ret (v:=rdV (some (⟨2,txt [],(V:Int),0⟩,n))) (by simp[results,Tryz.results74,go_sem,rdV,Tk.v,txt,q0,q1,q2,q3]) rfl ⟨rfl,((((uQ HB0).setCell (zM _) _).setCell (zM _) _).setCell (zM _) _).setCell (zM _) _⟩
  ·go_enter Tryz.func74,Tryz.ntmps74
   go_wp2_with fail
   refine (uQ HSP _ (hT.alloc _)).mono ?_
   rintro e w1 ⟨rfl,rfl⟩
   go_wp2_with fail
   refine (uQ HPO _).mono ?_
   rintro e w1 ⟨rfl,hb⟩
   have hb0:Below w.heap.size w w1:=((Below.refl _ _).alloc (zM _) _).trans (hb.mono (by simp))
   have q:w1.heap[w.heap.size]?=some (.cells #[.int .i64 0, .string ⟨#[]⟩, .int .i64 0, .int .i64 0] 98 (0,0)):=by rw[hb.block _ (by simp)];exact heap_alloc_new w _
   have q0:=CBox.cell (i:=0) (v:= .int .i64 0) q rfl
   have q1:=CBox.cell (i:=1) (v:= .string ⟨#[]⟩) q rfl
   have q2:=CBox.cell (i:=2) (v:= .int .i64 0) q rfl
   have q3:=CBox.cell (i:=3) (v:= .int .i64 0) q rfl
   have f0:=CBox.froz q 0
   have f1:=CBox.froz q 1
   have f2:=CBox.froz q 2
   have f3:=CBox.froz q 3
   have HB0:=hZq hb0
   clear hb hb0 q
   go_wp2
   exact bodyPost_ret (v:=rdV (some (⟨2,txt [],(V:Int),0⟩,n))) (by simp[results,Tryz.results74,go_sem,rdV,Tk.v,txt,q0,q1,q2,q3]) rfl ⟨rfl,((((uQ HB0).setCell (zM _) _).setCell (zM _) _).setCell (zM _) _).setCell (zM _) _⟩
theorem qbs {b:UInt8}(h: ¬ isIn b=true):b.toNat=39\/b.toNat=10:=by
 unfold isIn at h
 simp at h
 omega
theorem q1I (s:ByteArray)(h0:0<s.size):s.data.toList=s[0]::s.data.toList.drop 1:=by have:=q1W s 0 h0;simpa using this
theorem q4I (s:ByteArray)(w:World)(hT:TbW w)(h0:0<s.size)(hs:s.size<=140737488351232)(hd:q07 s[0]=true):
  Calls Tryz.prog 74 #[.string s] w fun e w'=>e= .returned (rdV (tkN s.data.toList))/\Below w.heap.size w w':=by
 have h1:1<=spn q07 s.data.toList:=by rw[q1I s h0,spn,if_pos hd];omega
 have hh:s.data.toList.head?=some 48↔s[0].toNat=48:=by
  rw[q1I s h0,List.head?_cons,Option.some.injEq]
  exact ⟨fun e=>by rw[e];rfl,fun e=>UInt8.toNat_inj.1 e⟩
 unfold tkN
 by_cases hz:s[0].toNat=48/\1<spn q07 s.data.toList
 ·rw[if_pos ⟨hh.2 hz.1,hz.2⟩]
  exact q4d s w hT h0 (by omega) hz.1 hz.2
 ·rw[if_neg (fun h=>hz ⟨hh.1 h.1,h.2⟩)]
  exact q4e s w hT h0 hs hz h1
theorem q6r (s:ByteArray)(w:World)(hT:TbW w)(h0:0<s.size)(hs:s.size<=140737488351232):
  Calls Tryz.prog 75 #[.string s] w fun e w'=>e= .returned (rdV (tkT (s.data.toList.drop 1)))/\Below w.heap.size w w':=by
 have hI:(s.extract 1 s.size).data.toList=s.data.toList.drop 1:=by rw[q3F];rfl
 have hIs:(s.extract 1 s.size).size<=140737488351232:=by rw[ByteArray.size_extract];omega
 rw[<-hI]
 clear hI
 generalize hIe:s.extract 1 s.size=I at *
 have HI:=hZq hIe
 clear hIe
 have UT:=fun W hW=>qcf I 18 isIn qe4 W hW (by omega)
 have hle:=q19 isIn I.data.toList
 rw[q0e]at hle
 have hstop: ∀h:spn isIn I.data.toList<I.size,I[spn isIn I.data.toList].toNat=39\/I[spn isIn I.data.toList].toNat=10:=fun h=>by
  have e:=q3T (p:=isIn) (l:=I.data.toList)
  rw[q1W _ _ h,spn]at e
  split at e
  ·omega
  ·rename_i hh
   exact qbs hh
 unfold tkT
 rw[<-q38]
 have hhd: ∀h:spn isIn I.data.toList<I.size,(I.data.toList.drop (spn isIn I.data.toList)).head?=some I[spn isIn I.data.toList]:=fun h=>by rw[q1W _ _ h];rfl
 have hhn:spn isIn I.data.toList=I.size->(I.data.toList.drop (spn isIn I.data.toList)).head?=none:=fun h=>by rw[h,List.drop_eq_nil_of_le (by rw[q0e];exact zM _)];rfl
 generalize hL:I.data.toList=L at *
 generalize spn isIn L=n at *
 clear hL
 have HUT:=hZq UT
 have HHD:=hZq hhd
 have HHN:=hZq hhn
 have HST:=hZq hstop
 clear UT hhd hhn hstop
 by_cases h256:256<n
 ·rw[if_pos h256]
  go_enter Tryz.func75,Tryz.ntmps75
  go_wp2_with fail
  rw[uQ HI]
  refine (uQ HUT _ (hT.alloc _)).mono ?_
  rintro e w1 ⟨rfl,rfl⟩
  go_wp2
  exact bodyPost_ret (v:=rdV none) (by simp[results,Tryz.results75,go_sem,rdV]) rfl ⟨rfl,(Below.refl _ _).alloc (zM _) _⟩
 ·rw[if_neg h256]
  by_cases hn:n=I.size
  ·rw[uQ HHN hn,if_neg (by simp)]
   have g:((n:Int)==(I.size:Int))=true:=by simp[hn]
   have g2:((n:Int)=(I.size:Int)):=by omega
   have HN:=hZq hn
   clear hn
   go_enter Tryz.func75,Tryz.ntmps75
   go_wp2_with fail
   rw[uQ HI]
   refine (uQ HUT _ (hT.alloc _)).mono ?_
   rintro e w1 ⟨rfl,rfl⟩
   go_wp2
   exact bodyPost_ret (v:=rdV none) (by simp[results,Tryz.results75,go_sem,rdV]) rfl ⟨rfl,(Below.refl _ _).alloc (zM _) _⟩
  ·have hlt:n<I.size:=by omega
   rw[uQ HHD hlt]
   have g:((n:Int)==(I.size:Int))=false:=by simp;omega
   have hst:=uQ HST hlt
   have hlt2:=I[n].toNat_lt
   have SO:=fun W hW=>q10 I[n].toNat hlt2 W hW
   by_cases hq:I[n].toNat=39
   ·rw[if_pos (by rw[Option.some.injEq];exact UInt8.toNat_inj.1 hq)]
    have hc:cls I[n].toNat=16:=by rw[hq];rfl
    rw[hc]at SO
    have HSO:=hZq SO
    clear SO hst hq hc
    go_enter Tryz.func75,Tryz.ntmps75
    go_wp2_with fail
    rw[uQ HI]
    refine (uQ HUT _ (hT.alloc _)).mono ?_
    rintro e w1 ⟨rfl,rfl⟩
    go_wp2_with (go_at_call 72;refine (uQ HSO _ (hT.alloc _)).mono ?_;rintro e w1 ⟨rfl,rfl⟩)
    exact bodyPost_ret (v:=rdV (some (⟨3,I.extract 0 n,0,0⟩,n+2))) (by simp[results,Tryz.results75,go_sem,rdV,Tk.v]) rfl ⟨rfl,(Below.refl _ _).alloc (zM _) _⟩
   ·rw[if_neg (fun e=>hq (by rw[Option.some.injEq]at e;rw[e];rfl))]
    have hc:cls I[n].toNat=3:=by rw[show I[n].toNat=10 by omega];rfl
    rw[hc]at SO
    have HSO:=hZq SO
    clear SO hst hq hc
    go_enter Tryz.func75,Tryz.ntmps75
    go_wp2_with fail
    rw[uQ HI]
    refine (uQ HUT _ (hT.alloc _)).mono ?_
    rintro e w1 ⟨rfl,rfl⟩
    go_wp2_with (go_at_call 72;refine (uQ HSO _ (hT.alloc _)).mono ?_;rintro e w1 ⟨rfl,rfl⟩)
    exact bodyPost_ret (v:=rdV none) (by simp[results,Tryz.results75,go_sem,rdV]) rfl ⟨rfl,(Below.refl _ _).alloc (zM _) _⟩
theorem qaR: ∀b:Fin 256,(bits .and .u8 (cls b.val:Int) 192 != 0)=q1N (UInt8.ofNat b.val)/\(bits .and .u8 (cls b.val:Int) 96 != 0)=q47 (UInt8.ofNat b.val)/\(((cls b.val:Int)==4)=q0A (UInt8.ofNat b.val))/\(((cls b.val:Int)==8)=q07 (UInt8.ofNat b.val))/\(((cls b.val:Int)==16)=decide (b.val=39)):=by decide+kernel
theorem qcp (b:UInt8):(bits .and .u8 (cls b.toNat:Int) 192 != 0)=q1N b/\(bits .and .u8 (cls b.toNat:Int) 96 != 0)=q47 b/\(((cls b.toNat:Int)==4)=q0A b)/\(((cls b.toNat:Int)==8)=q07 b)/\(((cls b.toNat:Int)==16)=decide (b.toNat=39)):=by have:=qaR ⟨b.toNat,b.toNat_lt⟩;simpa using this
theorem q6q (s:ByteArray)(w:World)(hT:TbW w)(h0:0<s.size)(hs:s.size<=140737488351232):
  Calls Tryz.prog 76 #[.string s] w fun e w'=>e= .returned (rdV (tkS s[0] (s.data.toList.drop 1)))/\Below w.heap.size w w':=by
 have SO:=fun W hW=>q10 s[0].toNat s[0].toNat_lt W hW
 obtain ⟨e2,e1,_⟩:=qcp s[0]
 generalize hC:cls s[0].toNat=C at *
 clear hC
 have HSO:=hZq SO
 clear SO
 have x1:s.extract 0 1=txt [s[0]]:=by rw[q38,q1I s h0];rfl
 by_cases h2:q1N s[0]=true/\(s.data.toList.drop 1).head?=some 61
 ·have hl:1<s.size:=by
   rcases Nat.lt_or_ge 1 s.size with h|h
   ·exact h
   ·rw[List.drop_eq_nil_of_le (by rw[q0e];exact h)]at h2;exact absurd h2.2 (by simp)
  have hd:=q1W s 1 hl
  have h61:s[1]=61:=by have:=h2.2;rw[hd]at this;simpa using this
  have x2:s.extract 0 2=txt [s[0],61]:=by rw[q38,q1I s h0,hd,h61];rfl
  have g61:((s[1].toNat:Int)==61)=true:=by rw[h61];rfl
  rw[h2.1]at e2
  have HR:Hid (tkS s[0] (s.data.toList.drop 1)=some (⟨4,s.extract 0 2,0,0⟩,2)):=by
   refine hZq ?_
   unfold tkS
   rw[if_pos h2,x2]
  generalize tkS s[0] (s.data.toList.drop 1)=Q at *
  have hQ:=uQ HR
  subst hQ
  clear HR x1 x2 h2 h61 hd e1
  go_enter Tryz.func76,Tryz.ntmps76
  go_wp2_with fail
  refine (uQ HSO _ (hT.alloc _)).mono ?_
  rintro e w1 ⟨rfl,rfl⟩
  go_wp2
  exact bodyPost_ret (v:=rdV (some (⟨4,s.extract 0 2,0,0⟩,2))) (by simp[results,Tryz.results76,go_sem,rdV,Tk.v]) rfl ⟨rfl,(Below.refl _ _).alloc (zM _) _⟩
 ·have HG:Hid (q1N s[0]=false\/(q1N s[0]=true/\ ¬ 1<s.size)\/(q1N s[0]=true/\ ∃h:1<s.size,((s[1].toNat:Int)==61)=false)):=by
   refine hZq ?_
   by_cases ht:q1N s[0]=true
   ·refine Or.inr ?_
    by_cases hl:1<s.size
    ·refine Or.inr ⟨ht,hl,?_⟩
     have hn: ¬ s[1]=61:=fun e=>h2 ⟨ht,by rw[q1W s 1 hl,e];rfl⟩
     have:s[1].toNat≠61:=fun e=>hn (UInt8.toNat_inj.1 e)
     simp
     omega
    ·exact Or.inl ⟨ht,hl⟩
   ·exact Or.inl (Bool.eq_false_iff.2 ht)
  by_cases h1:q47 s[0]=true
  ·have HR:Hid (tkS s[0] (s.data.toList.drop 1)=some (⟨4,s.extract 0 1,0,0⟩,1)):=by
    refine hZq ?_
    unfold tkS
    rw[if_neg h2,if_pos h1,x1]
   generalize tkS s[0] (s.data.toList.drop 1)=Q at *
   have hQ:=uQ HR
   subst hQ
   rw[h1]at e1
   clear HR x1 h2 h1
   rcases uQ HG with ht|⟨ht,hl⟩|⟨ht,hl,g61⟩
   ·rw[ht]at e2
    clear HG ht
    go_enter Tryz.func76,Tryz.ntmps76
    go_wp2_with fail
    refine (uQ HSO _ (hT.alloc _)).mono ?_
    rintro e w1 ⟨rfl,rfl⟩
    go_wp2
    exact bodyPost_ret (v:=rdV (some (⟨4,s.extract 0 1,0,0⟩,1))) (by simp[results,Tryz.results76,go_sem,rdV,Tk.v]) rfl ⟨rfl,(Below.refl _ _).alloc (zM _) _⟩
   ·rw[ht]at e2
    clear HG ht
    go_enter Tryz.func76,Tryz.ntmps76
    go_wp2_with fail
    refine (uQ HSO _ (hT.alloc _)).mono ?_
    rintro e w1 ⟨rfl,rfl⟩
    go_wp2
    exact bodyPost_ret (v:=rdV (some (⟨4,s.extract 0 1,0,0⟩,1))) (by simp[results,Tryz.results76,go_sem,rdV,Tk.v]) rfl ⟨rfl,(Below.refl _ _).alloc (zM _) _⟩
   ·rw[ht]at e2
    clear HG ht
    go_enter Tryz.func76,Tryz.ntmps76
    go_wp2_with fail
    refine (uQ HSO _ (hT.alloc _)).mono ?_
    rintro e w1 ⟨rfl,rfl⟩
    go_wp2
    exact bodyPost_ret (v:=rdV (some (⟨4,s.extract 0 1,0,0⟩,1))) (by simp[results,Tryz.results76,go_sem,rdV,Tk.v]) rfl ⟨rfl,(Below.refl _ _).alloc (zM _) _⟩
  ·have HR:Hid (tkS s[0] (s.data.toList.drop 1)=none):=by
    refine hZq ?_
    unfold tkS
    rw[if_neg h2,if_neg h1]
   generalize tkS s[0] (s.data.toList.drop 1)=Q at *
   have hQ:=uQ HR
   subst hQ
   rw[Bool.eq_false_iff.2 h1]at e1
   clear HR x1 h2 h1
   rcases uQ HG with ht|⟨ht,hl⟩|⟨ht,hl,g61⟩
   ·rw[ht]at e2
    clear HG ht
    go_enter Tryz.func76,Tryz.ntmps76
    go_wp2_with fail
    refine (uQ HSO _ (hT.alloc _)).mono ?_
    rintro e w1 ⟨rfl,rfl⟩
    go_wp2
    exact bodyPost_ret (v:=rdV none) (by simp[results,Tryz.results76,go_sem,rdV]) rfl ⟨rfl,(Below.refl _ _).alloc (zM _) _⟩
   ·rw[ht]at e2
    clear HG ht
    go_enter Tryz.func76,Tryz.ntmps76
    go_wp2_with fail
    refine (uQ HSO _ (hT.alloc _)).mono ?_
    rintro e w1 ⟨rfl,rfl⟩
    go_wp2
    exact bodyPost_ret (v:=rdV none) (by simp[results,Tryz.results76,go_sem,rdV]) rfl ⟨rfl,(Below.refl _ _).alloc (zM _) _⟩
   ·rw[ht]at e2
    clear HG ht
    go_enter Tryz.func76,Tryz.ntmps76
    go_wp2_with fail
    refine (uQ HSO _ (hT.alloc _)).mono ?_
    rintro e w1 ⟨rfl,rfl⟩
    go_wp2
    exact bodyPost_ret (v:=rdV none) (by simp[results,Tryz.results76,go_sem,rdV]) rfl ⟨rfl,(Below.refl _ _).alloc (zM _) _⟩
theorem q2P (q:Option (Tk × Nat)): ∃k s n p m,rdV q= .tuple #[.agg #[.int .i64 k, .string s, .int .i64 n, .int .i64 p], .int .i64 m]:=by
 cases q with
 |none=>exact ⟨_,_,_,_,_,rfl⟩
 |some x=>exact ⟨_,_,_,_,_,rfl⟩
theorem q3v {w w1:World}(hb:Below (w.alloc (.cells #[.int .i64 0, .string ⟨#[]⟩, .int .i64 0, .int .i64 0] 98)).heap.size (w.alloc (.cells #[.int .i64 0, .string ⟨#[]⟩, .int .i64 0, .int .i64 0] 98)) w1):
  Below w.heap.size w w1/\CBox w.heap.size #[.int .i64 0, .string ⟨#[]⟩, .int .i64 0, .int .i64 0] 98 w1:=
 ⟨((Below.refl _ _).alloc (zM _) _).trans (hb.mono (by simp)),by unfold CBox;rw[hb.block _ (by simp)];exact heap_alloc_new w _⟩
theorem q6t (s:ByteArray)(w:World)(hT:TbW w)(hs:s.size<=140737488351232):
  Calls Tryz.prog 50 #[.string s] w fun e w'=>e= .returned (rdV (tkR s.data.toList))/\Below w.heap.size w w':=by
 rcases Nat.eq_zero_or_pos s.size with h0|h0
 ·obtain rfl:s=⟨#[]⟩:=by
   have:=List.eq_nil_of_length_eq_zero (l:=s.data.toList) (by rw[q0e];exact h0)
   rw[<-q0z s,this];rfl
  clear hT hs
  go_enter Tryz.func50,Tryz.ntmps50
  go_wp2
  exact bodyPost_ret (v:=rdV none) (by simp[results,Tryz.results50,go_sem,rdV]) rfl ⟨rfl,(Below.refl _ _).alloc (zM _) _⟩
 ·have SO:=fun W hW=>q10 s[0].toNat s[0].toNat_lt W hW
  obtain ⟨_,_,eL,eD,eQ⟩:=qcp s[0]
  have hne: ¬ s.data.toList=[]:=fun e=>by have:=q0e s;rw[e]at this;simp at this;omega
  have HR:Hid (tkR s.data.toList=if q0A s[0] then tkW s.data.toList else if q07 s[0] then tkN s.data.toList else if s[0].toNat=39 then tkT (s.data.toList.drop 1) else tkS s[0] (s.data.toList.drop 1)):=by
   have e:=q1I s h0
   generalize s.data.toList.drop 1=r at e ⊢
   exact hZq (by rw[e,tkR])
  generalize hC:cls s[0].toNat=C at *
  clear hC
  have HSO:=hZq SO
  clear SO
  have gne:s.toList.isEmpty=false:=by rw[ByteArray.toList_eq];simpa using hne
  clear hne
  generalize hQe:tkR s.data.toList=Q at *
  clear hQe
  have hq:=uQ HR
  clear HR
  by_cases hL:q0A s[0]=true
  ·rw[if_pos hL]at hq
   have RW:=fun W hW=>q6s s W hW (by omega)
   rw[<-hq]at RW
   have HRW:=hZq RW
   rw[hL]at eL
   clear RW hq hL eD eQ
   obtain ⟨k,t,n,p,m,hv⟩:=q2P Q
   rw[hv]at HRW ⊢
   clear hv
   go_enter Tryz.func50,Tryz.ntmps50
   go_wp2_with fail
   refine (uQ HSO _ (hT.alloc _)).mono ?_
   rintro e w1 ⟨rfl,rfl⟩
   go_wp2_with fail
   refine (uQ HRW _ (hT.alloc _)).mono ?_
   rintro e w1 ⟨rfl,hb⟩
   obtain ⟨hb0,q⟩:=q3v hb
   have q0:=CBox.cell (i:=0) (v:= .int .i64 0) q rfl
   have q1:=CBox.cell (i:=1) (v:= .string ⟨#[]⟩) q rfl
   have q2:=CBox.cell (i:=2) (v:= .int .i64 0) q rfl
   have q3:=CBox.cell (i:=3) (v:= .int .i64 0) q rfl
   have f0:=CBox.froz q 0
   have f1:=CBox.froz q 1
   have f2:=CBox.froz q 2
   have f3:=CBox.froz q 3
   have HB0:=hZq hb0
   clear hb hb0 q
   go_wp2
   exact bodyPost_ret (v:= .tuple #[.agg #[.int .i64 k, .string t, .int .i64 n, .int .i64 p], .int .i64 m]) (by simp[results,Tryz.results50,go_sem,q0,q1,q2,q3]) rfl ⟨rfl,((((uQ HB0).setCell (zM _) _).setCell (zM _) _).setCell (zM _) _).setCell (zM _) _⟩
  ·rw[if_neg hL]at hq
   rw[Bool.eq_false_iff.2 hL]at eL
   by_cases hD:q07 s[0]=true
   ·rw[if_pos hD]at hq
    have RW:=fun W hW=>q4I s W hW h0 hs hD
    rw[<-hq]at RW
    have HRW:=hZq RW
    rw[hD]at eD
    clear RW hq hL hD eQ
    obtain ⟨k,t,n,p,m,hv⟩:=q2P Q
    rw[hv]at HRW ⊢
    clear hv
    go_enter Tryz.func50,Tryz.ntmps50
    go_wp2_with fail
    refine (uQ HSO _ (hT.alloc _)).mono ?_
    rintro e w1 ⟨rfl,rfl⟩
    go_wp2_with fail
    refine (uQ HRW _ (hT.alloc _)).mono ?_
    rintro e w1 ⟨rfl,hb⟩
    obtain ⟨hb0,q⟩:=q3v hb
    have q0:=CBox.cell (i:=0) (v:= .int .i64 0) q rfl
    have q1:=CBox.cell (i:=1) (v:= .string ⟨#[]⟩) q rfl
    have q2:=CBox.cell (i:=2) (v:= .int .i64 0) q rfl
    have q3:=CBox.cell (i:=3) (v:= .int .i64 0) q rfl
    have f0:=CBox.froz q 0
    have f1:=CBox.froz q 1
    have f2:=CBox.froz q 2
    have f3:=CBox.froz q 3
    have HB0:=hZq hb0
    clear hb hb0 q
    go_wp2
    exact bodyPost_ret (v:= .tuple #[.agg #[.int .i64 k, .string t, .int .i64 n, .int .i64 p], .int .i64 m]) (by simp[results,Tryz.results50,go_sem,q0,q1,q2,q3]) rfl ⟨rfl,((((uQ HB0).setCell (zM _) _).setCell (zM _) _).setCell (zM _) _).setCell (zM _) _⟩
   ·rw[if_neg hD]at hq
    rw[Bool.eq_false_iff.2 hD]at eD
    by_cases hT39:s[0].toNat=39
    ·rw[if_pos hT39]at hq
     have RW:=fun W hW=>q6r s W hW h0 hs
     rw[<-hq]at RW
     have HRW:=hZq RW
     rw[decide_eq_true hT39]at eQ
     clear RW hq hL hD hT39
     obtain ⟨k,t,n,p,m,hv⟩:=q2P Q
     rw[hv]at HRW ⊢
     clear hv
     go_enter Tryz.func50,Tryz.ntmps50
     go_wp2_with fail
     refine (uQ HSO _ (hT.alloc _)).mono ?_
     rintro e w1 ⟨rfl,rfl⟩
     go_wp2_with fail
     refine (uQ HRW _ (hT.alloc _)).mono ?_
     rintro e w1 ⟨rfl,hb⟩
     obtain ⟨hb0,q⟩:=q3v hb
     have q0:=CBox.cell (i:=0) (v:= .int .i64 0) q rfl
     have q1:=CBox.cell (i:=1) (v:= .string ⟨#[]⟩) q rfl
     have q2:=CBox.cell (i:=2) (v:= .int .i64 0) q rfl
     have q3:=CBox.cell (i:=3) (v:= .int .i64 0) q rfl
     have f0:=CBox.froz q 0
     have f1:=CBox.froz q 1
     have f2:=CBox.froz q 2
     have f3:=CBox.froz q 3
     have HB0:=hZq hb0
     clear hb hb0 q
     go_wp2
     exact bodyPost_ret (v:= .tuple #[.agg #[.int .i64 k, .string t, .int .i64 n, .int .i64 p], .int .i64 m]) (by simp[results,Tryz.results50,go_sem,q0,q1,q2,q3]) rfl ⟨rfl,((((uQ HB0).setCell (zM _) _).setCell (zM _) _).setCell (zM _) _).setCell (zM _) _⟩
    ·rw[if_neg hT39]at hq
     have RW:=fun W hW=>q6q s W hW h0 hs
     rw[<-hq]at RW
     have HRW:=hZq RW
     rw[zK hT39]at eQ
     clear RW hq hL hD hT39
     obtain ⟨k,t,n,p,m,hv⟩:=q2P Q
     rw[hv]at HRW ⊢
     clear hv
     go_enter Tryz.func50,Tryz.ntmps50
     go_wp2_with fail
     refine (uQ HSO _ (hT.alloc _)).mono ?_
     rintro e w1 ⟨rfl,rfl⟩
     go_wp2_with fail
     refine (uQ HRW _ (hT.alloc _)).mono ?_
     rintro e w1 ⟨rfl,hb⟩
     obtain ⟨hb0,q⟩:=q3v hb
     have q0:=CBox.cell (i:=0) (v:= .int .i64 0) q rfl
     have q1:=CBox.cell (i:=1) (v:= .string ⟨#[]⟩) q rfl
     have q2:=CBox.cell (i:=2) (v:= .int .i64 0) q rfl
     have q3:=CBox.cell (i:=3) (v:= .int .i64 0) q rfl
     have f0:=CBox.froz q 0
     have f1:=CBox.froz q 1
     have f2:=CBox.froz q 2
     have f3:=CBox.froz q 3
     have HB0:=hZq hb0
     clear hb hb0 q
     go_wp2
     exact bodyPost_ret (v:= .tuple #[.agg #[.int .i64 k, .string t, .int .i64 n, .int .i64 p], .int .i64 m]) (by simp[results,Tryz.results50,go_sem,q0,q1,q2,q3]) rfl ⟨rfl,((((uQ HB0).setCell (zM _) _).setCell (zM _) _).setCell (zM _) _).setCell (zM _) _⟩
def FBox (k:Nat)(w:World):Prop:=w.heap[k]?=some (.cells #[.int .i64 0, .int .i64 0] 47 (0,0))
theorem FBox.cells {k:Nat}{w:World}(h:FBox k w):w.cell? ⟨k,0,none⟩=some (.int .i64 0)/\w.cell? ⟨k,1,none⟩=some (.int .i64 0)/\w.frozen? ⟨k,0,none⟩=false/\w.frozen? ⟨k,1,none⟩=false:=by
 unfold FBox at h
 simp[World.cell?,World.frozen?,h]
theorem FBox.lt {k:Nat}{w:World}(h:FBox k w):k<w.heap.size:=by
 unfold FBox at h
 rcases Nat.lt_or_ge k w.heap.size with h1|h1
 ·exact h1
 ·rw[Array.getElem?_eq_none h1]at h;cases h
theorem FBox.below {k B:Nat}{w w':World}(h:FBox k w)(hb:Below B w w')(hB:k<B):FBox k w':=by unfold FBox;rw[hb.block k hB];exact h
def Tk.c (t:Tk):Array Value:=#[.int .i64 t.kd, .string t.s, .int .i64 t.n, .int .i64 t.pl]
def tkC (l:List Tk):List Value:=l.flatMap fun t=>[.int .i64 t.kd, .string t.s, .int .i64 t.n, .int .i64 t.pl]
theorem q4m (a b:List Tk):tkC (a++b)=tkC a++tkC b:=by unfold tkC;exact List.flatMap_append
theorem q7N:(Tryz.prog.info? 98).map (fun i=>(i.zero,i.size,i.bytes))=some (some (.agg #[.int .i64 0, .string ⟨#[]⟩, .int .i64 0, .int .i64 0]),4,40):=by kernel_rfl
def OwnsK (B:Nat)(w:World)(v:Value)(l:List Tk):Prop:=w.ownsRow B 98 4 v l.length (tkC l)
theorem OwnsK.nil (B:Nat)(w:World):OwnsK B w (.slice none 0 0) []:=World.ownsRow_nil _ _ _ _
theorem OwnsK.alloc {B:Nat}{w:World}{v:Value}{l:List Tk}(h:OwnsK B w v l)(o:Obj):OwnsK B (w.alloc o) v l:=World.ownsRow.alloc h o
theorem OwnsK.drew {B:Nat}{w:World}{v:Value}{l:List Tk}(h:OwnsK B w v l):OwnsK B w.drew v l:=h
theorem OwnsK.form {B:Nat}{w:World}{v:Value}{l:List Tk}(h:OwnsK B w v l): ∃ad cp,v= .slice ad l.length cp:=by
 obtain ⟨_,⟨rfl,h0⟩|⟨g,cp,cur,rfl,_⟩⟩:=h
 ·exact ⟨_,_,by rw[h0]⟩
 ·exact ⟨_,_,rfl⟩
theorem OwnsK.below {B B':Nat}{w w':World}{v:Value}{l:List Tk}(h:OwnsK B w v l)(hb:Below B' w w')(hB:w.heap.size<=B'):OwnsK B w' v l:=by
 refine World.ownsRow.kept (row:=none) h ⟨hb.os,hb.tape,hb.output,hb.size,fun k hk _=>hb.block k (by omega)⟩ ?_
 cases v.ownBlock
 ·exact Or.inl rfl
 ·exact Or.inr (by simp)
theorem OwnsK.fault {k B:Nat}{w:World}{v:Value}{l:List Tk}(h:OwnsK B w v l)(hf:FBox k w)(a b:Value):OwnsK B ((w.setCell ⟨k,0,none⟩ a).setCell ⟨k,1,none⟩ b) v l:=by
 refine World.ownsRow.kept (row:=some k) h ⟨rfl,rfl,rfl,by simp,fun j hj hne=>?_⟩ ?_
 ·rw[Below.heap_setCell _ _ _ _ (fun e=>hne (by rw[e])),Below.heap_setCell _ _ _ _ (fun e=>hne (by rw[e]))]
 ·obtain ⟨_,⟨rfl,_⟩|⟨g,cp,cur,rfl,_,hh,_⟩⟩:=h
  ·exact Or.inl rfl
  ·refine Or.inr fun e=>?_
   simp[Value.ownBlock]at e
   subst e
   unfold FBox at hf
   rw[hh]at hf
   simp at hf
theorem q42 (g:Nat)(t:Tk)(w:World)(h:CBox g t.c 98 w): ∀(j:Nat) (u:Value),[Value.int .i64 t.kd, .string t.s, .int .i64 t.n, .int .i64 t.pl][j]?=some u->w.cell? ((⟨g,0,none⟩:Addr).add j)=some u:=fun j u hj=>by
 match j,hj with
 |0,hj=>simp at hj;subst hj;simpa [Addr.add] using h.cell (i:=0) (v:= .int .i64 t.kd) rfl
 |1,hj=>simp at hj;subst hj;simpa [Addr.add] using h.cell (i:=1) (v:= .string t.s) rfl
 |2,hj=>simp at hj;subst hj;simpa [Addr.add] using h.cell (i:=2) (v:= .int .i64 t.n) rfl
 |3,hj=>simp at hj;subst hj;simpa [Addr.add] using h.cell (i:=3) (v:= .int .i64 t.pl) rfl
theorem qc {ops:Array Oper}{o:Oper}{a:Act}{w:World}{K:Act->World->Prop}{Q:Exit->Act->World->Prop}{E:Prop}
  (hg:o.guard=none) (s x:Operand) (hop:o.op=Op.call { callee:=Callee.builtin Builtin.append,args:=#[s,x],argTypes:=#[70,70] })
  (B:Nat) (v:Value) (l:List Tk) (t:Tk) (hs:a.eval s=v) (ho:OwnsK B w v l) (g:Nat) (hx:a.eval x= .slice (some ⟨g,0,none⟩) 1 1) (hc:CBox g t.c 98 w)
  (hl:l.length<=1000000) (hb:B<=w.heap.size)
  (hK: ∀v' w',OwnsK B w' v' (l++[t])->Fr B 98 w w'->w.grownBy w' v.ownBlock->K (a.put o.dst v') w'):
  if Region.wanted o (yielded ops a.tmps)=true then Oper.wp Tryz.prog o a w K Q else E:=by
 obtain ⟨i0,hi,hz0,hz1,hz2⟩:=info_parts q7N
 refine q4k hg s x 70 hop B 98 i0 (.agg #[.int .i64 0, .string ⟨#[]⟩, .int .i64 0, .int .i64 0]) 4 40 Tryz.underlying70 hi hz0 hz1 hz2 rfl (by decide) v l.length (tkC l) hs ho ⟨g,0,none⟩ 1 1 [.int .i64 t.kd, .string t.s, .int .i64 t.n, .int .i64 t.pl] hx rfl (q42 g t w hc) ?_ (by unfold maxLen;omega) (by omega) hb ?_
 ·intro u hu;simp at hu;rcases hu with rfl|rfl|rfl|rfl <;> rfl
 ·intro v' w' h1 h2
  refine hK v' w' ?_ ((Fr.refl _ _ _).grown ho h2 hb) h2
  unfold OwnsK
  rw[q4m,zF]
  exact h1
theorem FBox.put {b:Nat}{w:World}(h:FBox b w)(x y:Value)(o:Obj):(((w.setCell ⟨b,0,none⟩ x).setCell ⟨b,1,none⟩ y).alloc o).cell? ⟨b,0,none⟩=some x/\(((w.setCell ⟨b,0,none⟩ x).setCell ⟨b,1,none⟩ y).alloc o).cell? ⟨b,1,none⟩=some y:=by
 have hl:=h.lt
 have hc:=h.cells
 constructor
 ·rw[World.cell?_alloc_past]
  ·simp[go_sem,hc]
  ·simpa using hl
 ·rw[World.cell?_alloc_past]
  ·simp[go_sem,hc]
  ·simpa using hl
theorem q3y {gb:Nat}{W:World}{a b c d:Value}(h:CBox gb #[a,b,c,d] 98 W):W.cell? ⟨gb,0,none⟩=some a/\W.cell? ⟨gb,1,none⟩=some b/\W.cell? ⟨gb,2,none⟩=some c:=⟨h.cell rfl,h.cell rfl,h.cell rfl⟩
theorem qc8 {gb:Nat}{W w2:World}{a b c d:Value}{o:Obj}(h:CBox gb #[a,b,c,d] 98 W)(hb:Below W.drew.heap.size W.drew w2):(w2.alloc o).cell? ⟨gb,0,none⟩=some a/\(w2.alloc o).cell? ⟨gb,1,none⟩=some b/\(w2.alloc o).cell? ⟨gb,2,none⟩=some c:=
 q3y (CBox.kp (CBox.kp (CBox.kp h (Kp.drew _) (by simp)) (Kp.ofBelow hb) (by simp)) (Kp.alloc _ _) (by simp))
theorem qc7 {gb:Nat}{W w2:World}{a b c d:Value}(h:CBox gb #[a,b,c,d] 98 W)(hb:Below W.drew.heap.size W.drew w2):w2.cell? ⟨gb,0,none⟩=some a/\w2.cell? ⟨gb,1,none⟩=some b/\w2.cell? ⟨gb,2,none⟩=some c:=
 q3y (CBox.kp (CBox.kp h (Kp.drew _) (by simp)) (Kp.ofBelow hb) (by simp))
theorem qc9 {gb:Nat}{W w2 w3:World}{a b c d:Value}{o:Obj}{r:Option Nat}(h:CBox gb #[a,b,c,d] 98 W)(hb:Below W.drew.heap.size W.drew w2)(hg:(w2.alloc o).grownBy w3 r)(hr:r≠some gb):w3.cell? ⟨gb,0,none⟩=some a/\w3.cell? ⟨gb,1,none⟩=some b/\w3.cell? ⟨gb,2,none⟩=some c:=
 q3y (CBox.kp (CBox.kp (CBox.kp (CBox.kp h (Kp.drew _) (by simp)) (Kp.ofBelow hb) (by simp)) (Kp.alloc _ _) (by simp)) (Kp.of hg) (by cases r <;> simp_all;omega))
theorem qfp {B:Nat}{W w2:World}{v:Value}{l:List Tk}{o:Obj}(h:OwnsK B W v l)(hb:Below W.drew.heap.size W.drew w2):Hid (OwnsK B (w2.alloc o) v l):=hZq ((h.drew.below hb (zM _)).alloc _)
theorem qfq {B:Nat}{W w2:World}{o:Obj}(h:B<W.heap.size)(hb:Below W.drew.heap.size W.drew w2):Hid (B<=(w2.alloc o).heap.size):=hZq (by have:=hb.size;simp at this ⊢;omega)
def tsL (n:Nat):TR->List Tk
 | .bad _ _=>[]
 | .good l=>l++[⟨0,⟨#[]⟩,0,(n:Int)⟩]
def tsA:TR->Int
 | .bad k _=>(k:Int)
 | .good _=>0
def tsC:TR->Int
 | .bad _ c=>c
 | .good _=>0
def tsR (s:ByteArray):TR:=if 262144<s.size then .bad 0 2 else toks s.data.toList 0 0
theorem q4o (s:ByteArray)(w:World)(hT:TbW w)(hs:s.size<=9223372036854775807):
  Calls Tryz.prog 29 #[.string s] w fun e w'=> ∃v,e= .returned (.tuple #[v, .agg #[.int .i64 (tsA (tsR s)), .int .i64 (tsC (tsR s))]])/\OwnsK w.heap.size w' v (tsL s.size (tsR s))/\Below w.heap.size w w':=by
 generalize hR:tsR s=R
 unfold tsR at hR
 have hlow:=hT.low
 by_cases hbig:262144<s.size
 ·rw[if_pos hbig]at hR
  subst hR
  go_enter Tryz.func29,Tryz.ntmps29
  go_wp2
  exact bodyPost_ret (v:= .tuple #[.slice none 0 0, .agg #[.int .i64 0, .int .i64 2]]) (by simp[results,Tryz.results29,go_sem]) rfl ⟨_,rfl,OwnsK.nil _ _,(Below.refl _ _).alloc (zM _) _⟩
 ·rw[if_neg hbig]at hR
  have HR:=hZq hR
  clear hR
  obtain ⟨i0,hi,hz0,hz1,hz2⟩:=info_parts q7N
  have hsp:=q19 q09 s.data.toList
  rw[q0e]at hsp
  have HG:=hZq (q6J s.data.toList 0 0)
  have HG2:=hZq (q3T (p:=q09) (l:=s.data.toList))
  have SP:=fun W hW=>q24 s 1 q09 q7x W hW (by omega)
  generalize spn q09 s.data.toList=k0 at *
  rw[Nat.zero_add]at HG
  have HSP:=hZq SP
  clear SP
  go_enter Tryz.func29,Tryz.ntmps29
  go_wp2_with fail
  refine (uQ HSP _ (hT.alloc _)).mono ?_
  rintro e w1 ⟨rfl,rfl⟩
  go_wp2_with fail
  go_loopw [4,5] (fun v p wr=> ∃(k:Nat) (acc:List Tk),k<=s.size/\p= .int .i64 (k:Int)/\OwnsK w.heap.size wr v acc/\Below w.heap.size w wr/\FBox w.heap.size wr/\acc.length<=4096/\Hid (spn q09 (s.data.toList.drop k)=0/\(toks (s.data.toList.drop k) k acc.length).pre acc=R)) (fun _ p _=>s.size-(intOf p).toNat)
  case atStart=>exact ⟨k0,[],hsp,rfl,OwnsK.nil _ _,(Below.refl _ _).alloc (zM _) _,heap_alloc_new _ _,by simp,hZq ⟨uQ HG2,by rw[TR.pre_nil, <-uQ HR,uQ HG];rfl⟩⟩
  case round=>
   obtain ⟨k,acc,hk,rfl,hown,hbel,hfb,hacc,HD⟩:=hrel
   obtain ⟨av,cv,rfl⟩:=hown.form
   have hfl:=hfb.lt
   have hTr:TbW wr:=hT.below hbel (by omega)
   clear HR HG HG2 HSP hsp
   by_cases hlt:k<s.size
   ·have hne:s.data.toList.drop k≠[]:=fun e=>by
     have:=congrArg List.length e
     rw[List.length_drop,q0e]at this
     simp at this
     omega
    have RD:=q6t (s.extract k s.size) wr hTr (by rw[ByteArray.size_extract];omega)
    rw[show (s.extract k s.size).data.toList=s.data.toList.drop k by rw[q3F];rfl]at RD
    cases hQ:tkR (s.data.toList.drop k)with
    |none=>
     rw[hQ]at RD
     have hd:=(uQ HD).2
     rw[q1n hQ hne (uQ HD).1]at hd
     subst hd
     have HRD:Hid (Calls Tryz.prog 50 #[.string (s.extract k s.size)] wr fun e w'=>e= .returned (.tuple #[.agg #[.int .i64 0, .string ⟨#[]⟩, .int .i64 0, .int .i64 0], .int .i64 0])/\Below wr.heap.size wr w'):=hZq RD
     clear RD hQ HD hne
     go_wp2_with fail
     refine (uQ HRD).mono ?_
     rintro e w1 ⟨rfl,hb1⟩
     have hfb1:=hfb.below hb1 hfl
     have hfc1:=hfb1.cells
     have hfl1:=hfb1.lt
     have HBE:Hid (Below w.heap.size w w1):=hZq (hbel.trans (hb1.mono (Nat.le_of_lt hfl)))
     clear hfb hown hbel hb1
     go_wp2
     obtain ⟨z0,z1⟩:=hfb1.put (.int .i64 (k:Int)) (.int .i64 100) (.cells #[.int .i64 0, .string ⟨#[]⟩, .int .i64 0, .int .i64 0] 98)
     exact bodyPost_ret (v:= .tuple #[.slice none 0 0, .agg #[.int .i64 (k:Int), .int .i64 100]]) (by simp[results,Tryz.results29,go_sem,z0,z1]) rfl ⟨_,rfl,OwnsK.nil _ _,(((uQ HBE).setCell (zM _) _).setCell (zM _) _).alloc (by simp;omega) _⟩
    |some q=>
     obtain ⟨⟨tk,tt,tn,tp⟩,n⟩:=q
     rw[hQ]at RD
     have HRD:Hid (Calls Tryz.prog 50 #[.string (s.extract k s.size)] wr fun e w'=>e= .returned (.tuple #[.agg #[.int .i64 tk, .string tt, .int .i64 tn, .int .i64 tp], .int .i64 (n:Int)])/\Below wr.heap.size wr w'):=hZq RD
     clear RD
     have hX:=q0o hQ
     have hn0:=hX.1
     have hnl:=hX.2.1
     have hpl:tp=0:=hX.2.2.2.1
     have hts:tt.size<=256:=hX.2.2.2.2.2.2.1
     clear hX
     subst hpl
     rw[List.length_drop,q0e]at hnl
     have g0:((n:Int)==0)=false:=by simp;omega
     by_cases hful:acc.length=4096
     ·have hd:=(uQ HD).2
      rw[hful,q1m hQ]at hd
      subst hd
      have g1:((acc.length:Int)==4096)=true:=by simp;omega
      clear hQ HD hne hful
      go_wp2_with fail
      refine (uQ HRD).mono ?_
      rintro e w1 ⟨rfl,hb1⟩
      have hfb1:=hfb.below hb1 hfl
      have hfc1:=hfb1.cells
      have hfl1:=hfb1.lt
      have HBE:Hid (Below w.heap.size w w1):=hZq (hbel.trans (hb1.mono (Nat.le_of_lt hfl)))
      clear hfb hown hbel hb1
      go_wp2
      obtain ⟨z0,z1⟩:=hfb1.put (.int .i64 (k:Int)) (.int .i64 2) (.cells #[.int .i64 tk, .string tt, .int .i64 tn, .int .i64 0] 98)
      exact bodyPost_ret (v:= .tuple #[.slice none 0 0, .agg #[.int .i64 (k:Int), .int .i64 2]]) (by simp[results,Tryz.results29,go_sem,z0,z1]) rfl ⟨_,rfl,OwnsK.nil _ _,(((uQ HBE).setCell (zM _) _).setCell (zM _) _).alloc (by simp;omega) _⟩
     ·have hd:=(uQ HD).2
      rw[q13 hQ hful,TR.pre_pre,List.drop_drop,q6J]at hd
      have g1:((acc.length:Int)==4096)=false:=by simp;omega
      have hsp2:=q19 q09 (s.data.toList.drop (k+n))
      rw[List.length_drop,q0e]at hsp2
      have SP2:=fun W hW=>q24 (s.extract (k+n) s.size) 1 q09 q7x W hW (by rw[ByteArray.size_extract];omega)
      rw[show (s.extract (k+n) s.size).data.toList=s.data.toList.drop (k+n) by rw[q3F];rfl]at SP2
      have hz:=q3T (p:=q09) (l:=s.data.toList.drop (k+n))
      generalize spn q09 (s.data.toList.drop (k+n))=m at *
      rw[List.drop_drop]at hd hz
      have HD2:Hid (spn q09 (s.data.toList.drop (k+n+m))=0/\(toks (s.data.toList.drop (k+n+m)) (k+n+m) (acc.length+1)).pre (acc++[⟨tk,tt,tn,(k:Int)⟩])=R):=hZq ⟨hz,hd⟩
      have HSP2:=hZq SP2
      clear hQ HD hne hd hz SP2
      have hacc2:acc.length<4096:=by omega
      clear hful
      go_wp2_with fail
      refine (uQ HRD).mono ?_
      rintro e w1 ⟨rfl,hb1⟩
      have hfb1:=hfb.below hb1 hfl
      have hfl1:=hfb1.lt
      have hbel1:Below w.heap.size w w1:=hbel.trans (hb1.mono (Nat.le_of_lt hfl))
      have hown1:=hown.below hb1 (zM _)
      clear hfb hown hbel hb1 hTr
      go_wp2_with fail
      have hbx:CBox w1.heap.size #[.int .i64 tk, .string tt, .int .i64 tn, .int .i64 0] 98 (w1.alloc (.cells #[.int .i64 tk, .string tt, .int .i64 tn, .int .i64 0] 98)):=CBox.new w1 _ _
      have HNE:Hid ((Value.slice av acc.length cv).ownBlock≠some w1.heap.size):=hZq (fun e=>by have:=(World.ownsRow.lt hown1 _ e).2;omega)
      have hown2:OwnsK w.heap.size (w1.alloc (.cells #[.int .i64 tk, .string tt, .int .i64 tn, .int .i64 0] 98)) (.slice av acc.length cv) acc:=hown1.alloc _
      have hfb2:FBox w.heap.size (w1.alloc (.cells #[.int .i64 tk, .string tt, .int .i64 tn, .int .i64 0] 98)):=CBox.kp hfb1 (Kp.alloc _ _) (by simp)
      have hbel2:Below w.heap.size w (w1.alloc (.cells #[.int .i64 tk, .string tt, .int .i64 tn, .int .i64 0] 98)):=hbel1.alloc (Nat.le_of_lt hfl1) _
      have hfl2:=hfb2.lt
      clear hown1 hfb1 hbel1
      generalize w1.alloc (.cells #[.int .i64 tk, .string tt, .int .i64 tn, .int .i64 0] 98)=W at *
      generalize w1.heap.size=gb at *
      have CL:=q1H tt W.drew (by omega)
      have HCL:=hZq CL
      have HOW:=hZq hown2
      clear CL hown2
      go_region_held3 (fun w'=>w'.cell? ⟨gb,0,none⟩=some (.int .i64 tk)/\w'.cell? ⟨gb,1,none⟩=some (.string tt)/\w'.cell? ⟨gb,2,none⟩=some (.int .i64 tn)) (first|with_reducible exact qc9 hbx (uQ HB2) (uQ HG3) (uQ HNE)|with_reducible exact qc8 hbx (uQ HB2)|with_reducible exact qc7 hbx (uQ HB2)|with_reducible exact q3y hbx)
       (first
        |(refine qc rfl (.tmp 34) (.tmp 44) rfl w.heap.size (.slice av acc.length cv) acc ⟨tk,tt,tn,(k:Int)⟩ rfl (uQ HO2) w2.heap.size rfl (CBox.new w2 _ _) (by omega) (uQ HS2) ?_;intro v3 w3 ho3 fr3 hg3;have HG3:=hZq hg3)
        |(go_at_call 15;refine (uQ HCL).mono ?_;rintro e w2 ⟨rfl,hb2⟩;have HB2:=hZq hb2;have HO2:Hid (OwnsK w.heap.size (w2.alloc (.cells #[.int .i64 tk, .string tt, .int .i64 tn, .int .i64 (k:Int)] 98)) (.slice av acc.length cv) acc):=qfp (uQ HOW) hb2;have HS2:Hid (w.heap.size<=(w2.alloc (.cells #[.int .i64 tk, .string tt, .int .i64 tn, .int .i64 (k:Int)] 98)).heap.size):=qfq hfl2 hb2))
      have hb3:Below w.heap.size w w3:=(((hbel2.drew).trans ((uQ HB2).mono (Nat.le_of_lt hfl2))).alloc (by have:=uQ HS2;have:=(uQ HB2).size;simp at this;omega) _).trans fr3.below
      have hfb3:FBox w.heap.size w3:=fr3.keep (CBox.kp (CBox.kp (CBox.kp hfb2 (Kp.drew _) (by simp)) (Kp.ofBelow (uQ HB2)) (by simp)) (Kp.alloc _ _) (by simp)) (by decide)
      have hT3:TbW w3:=hT.below hb3 (by omega)
      have hown3:=ho3
      clear ho3 fr3 hg3 HG3 HO2 HS2 HB2 HOW HCL hbx hfb2 hbel2 hb2 HNE HRD
      go_wp2_with fail
      refine (uQ HSP2 _ hT3).mono ?_
      rintro e w4 ⟨rfl,rfl⟩
      go_wp2
      go_roundw
      case rel=>exact ⟨k+n+m,acc++[⟨tk,tt,tn,(k:Int)⟩],by omega,by go_num,hown3,hb3,hfb3,by simp;omega,by rw[zF];exact HD2⟩
      case measure=>simp[intOf];omega
   ·have hd:=(uQ HD).2
    rw[List.drop_of_length_le (by rw[q0e];omega),q1D]at hd
    subst hd
    clear HD
    have HFB:=hZq hfb
    have hfc:=hfb.cells
    clear hfb hTr
    go_wp2_with (at_builtin;refine wpList_append_own _ rfl _ _ 70 rfl w.heap.size 98 i0 (.agg #[.int .i64 0, .string ⟨#[]⟩, .int .i64 0, .int .i64 0]) 4 40 Tryz.underlying70 hi hz0 hz1 hz2 rfl (by decide) _ _ _ rfl (hown.alloc _) ⟨wr.heap.size,0,none⟩ 1 1 [.int .i64 0, .string ⟨#[]⟩, .int .i64 0, .int .i64 (s.size:Int)] rfl rfl (q42 _ ⟨0,⟨#[]⟩,0,(s.size:Int)⟩ _ (CBox.new wr _ _)) ?c2 ?c3 ?c4 ?c5 ?_)
    case c2=>intro u hu;simp at hu;rcases hu with rfl|rfl|rfl|rfl <;> rfl
    case c3=>unfold maxLen;omega
    case c4=>omega
    case c5=>simp;omega
    intro v' w2 hown2 hgrow _
    have hfr:Fr w.heap.size 98 wr w2:=((Fr.refl _ _ wr).alloc (Nat.le_of_lt hfl) _).grown (hown.alloc _) hgrow (by simp;omega)
    have hfb2:FBox w.heap.size w2:=hfr.keep (uQ HFB) (by decide)
    have hfc2:=hfb2.cells
    have hown3:OwnsK w.heap.size w2 v' (acc++[⟨0,⟨#[]⟩,0,(s.size:Int)⟩]):=by
     unfold OwnsK
     rw[q4m,zF]
     exact hown2
    have HB2:Hid (OwnsK w.heap.size w2 v' (acc++[⟨0,⟨#[]⟩,0,(s.size:Int)⟩])/\FBox w.heap.size w2/\Below w.heap.size w w2):=hZq ⟨hown3,hfb2,hbel.trans hfr.below⟩
    obtain ⟨a3,c3,rfl⟩:=hown3.form
    clear hown2 hgrow hown hfr hbel HFB hfb2 hown3 hfc
    go_wp2
    obtain ⟨o1,o2,o3⟩:=uQ HB2
    exact bodyPost_ret (v:= .tuple #[.slice a3 (acc++[(⟨0,⟨#[]⟩,0,(s.size:Int)⟩:Tk)]).length c3, .agg #[.int .i64 0, .int .i64 0]]) (by simp[results,Tryz.results29,go_sem,hfc2]) rfl ⟨_,rfl,by simpa [tsL,TR.pre] using o1.fault o2 _ _,(o3.setCell (zM _) _).setCell (zM _) _⟩
theorem eqT (d:Nat)(a b:Tk)(w:World):(Op.equalIn (d+2) 98 a.v b.v).run Tryz.prog w= .ok (tkEq a b) w:=by
 obtain ⟨k,s,n,p⟩:=a
 obtain ⟨k',s',n',p'⟩:=b
 have hi:=fun (a b:Int) (w:World)=>run_equalIn_int (P:=Tryz.prog) w d 3 .i64 .i64 a b Tryz.underlying3
 have hi6:=fun (a b:Int) (w:World)=>run_equalIn_int (P:=Tryz.prog) w d 2 .i64 .i64 a b Tryz.underlying2
 have hs:=fun (a b:ByteArray) (w:World)=>run_equalIn_string (P:=Tryz.prog) w d 9 a b Tryz.underlying9
 unfold Op.equalIn Tk.v tkEq
 simp only[Sem.run_bind,run_underlying Tryz.underlying98,Result.andThen_ok]
 simp[part,Tryz.sizeOf3,Tryz.sizeOf2,Tryz.sizeOf9,go_sem,hi,hi6,hs,ByteArray.toList_eq]
 by_cases h0:k=k' <;> by_cases h1:s.data=s'.data <;> by_cases h2:n=n' <;> by_cases h3:p=p' <;> simp[h0,h1,h2,h3]
theorem qbK (s:ByteArray):(⟨#[39]⟩++s++⟨#[39]⟩:ByteArray)=txt (39::(s.data.toList++[39])):=by
 apply ByteArray.ext
 apply Array.ext'
 simp[txt]
theorem q8s (n:Int)(h0: -9223372036854775808<=n)(h1:n<=9223372036854775807)(w:World)(hT:TbW w):
  Calls Tryz.prog 200 #[.int .i64 n, .int .i64 10] w fun e w'=>e= .returned (.string (txt (Lib.itoa n)))/\Below w.heap.size w w':=by
 refine (Tryz.strconv_FormatInt_10 n h0 h1 w hT.pow).mono ?_
 rintro e w1 ⟨rfl,kk,os,rfl⟩
 exact ⟨rfl,Lib.below_grow _ _ (zM _) _ _⟩
def stgA (out:List ByteArray)(p:Pt):List ByteArray:=if q05 p.st||hasN out p.st then out else out++[p.st]
def stgL (x:List Pt):List ByteArray:=x.foldl stgA []
theorem qal (x:List Pt)(k:Nat)(h:k<x.length):stgL (x.take (k+1))=stgA (stgL (x.take k)) x[k]:=by
 unfold stgL
 rw[List.take_succ_eq_append_getElem h,List.foldl_append]
 rfl
theorem qc0 (out:List ByteArray)(p:Pt):(stgA out p).length<=out.length+1:=by
 unfold stgA
 split
 ·omega
 ·simp
theorem q5g (x:List Pt): ∀out:List ByteArray,(x.foldl stgA out).length<=out.length+x.length:=by
 induction x with
 |nil=>intro out;simp
 |cons p r ih=>
  intro out
  have h1:=ih (stgA out p)
  have h2:=qc0 out p
  rw[List.foldl_cons,List.length_cons]
  omega
theorem q6G (x:List Pt):(stgL x).length<=x.length:=by
 have:=q5g x []
 simpa [stgL] using this
theorem Ex.fine_st (t:Ex)(h:t.fine): ∀q∈t.flat,q05 q.st=true\/isSg q.st=true:=by
 induction t with
 |lf p=>
  intro q hq
  simp only[Ex.flat,zD]at hq
  subst hq
  rcases q9K h with ⟨_,_,e⟩|⟨_,_,e⟩|⟨_,_,_,e,_⟩
  ·rw[e];exact Or.inl rfl
  ·rw[e];exact Or.inl rfl
  ·rcases e with e|e
   ·rw[e];exact Or.inl rfl
   ·exact Or.inr e
 |un p a ih=>
  intro q hq
  simp only[Ex.flat,zH]at hq
  rcases hq with rfl|hq
  ·rw[h.2.1];exact Or.inl rfl
  ·exact ih h.2.2 q hq
 |bi p a b iha ihb=>
  intro q hq
  simp only[Ex.flat,zH,zG]at hq
  rcases hq with rfl|hq|hq
  ·rw[h.2.2.1];exact Or.inl rfl
  ·exact iha h.2.2.2.1 q hq
  ·exact ihb h.2.2.2.2 q hq
theorem q3c {s:ByteArray}(h:isSg s=true):0<s.size/\s.size<=32:=by
 unfold isSg at h
 simp only[Bool.and_eq_true,decide_eq_true_eq]at h
 exact ⟨h.1.1.1.1,h.1.1.1.2⟩
theorem qf0 {x:List Pt}(h:ckK x≠0): ∀q∈x,(q05 q.st=true\/isSg q.st=true)/\q.st.size<=32:=by
 obtain ⟨t,_,h2,h3,_⟩:=q1q h
 intro q hq
 rw[h3]at hq
 have:=t.fine_st h2 q hq
 refine ⟨this,?_⟩
 rcases this with e|e
 ·unfold q05 at e;have:q.st.size=0:=by simpa using e
  omega
 ·exact (q3c e).2
def stgS (x:List Pt):List ByteArray:=if ckK x=0 then [] else stgL x
theorem q3V (x:List Pt):(stgS x).length<=200:=by
 unfold stgS
 split
 ·simp
 ·rename_i h
  obtain ⟨_,_,_,_,_,h5,_⟩:=q1q h
  have:=q6G x
  omega
def nmC (l:List ByteArray):List Value:=l.map Value.string
def OwnsW (B:Nat)(w:World)(v:Value)(l:List ByteArray):Prop:=w.ownsRow B 9 1 v l.length (nmC l)
theorem q5V:(Tryz.prog.info? 9).map (fun i=>(i.zero,i.size,i.bytes))=some (some (.string ⟨#[]⟩),1,16):=by kernel_rfl
theorem OwnsW.nil (B:Nat)(w:World):OwnsW B w (.slice none 0 0) []:=World.ownsRow_nil _ _ _ _
theorem OwnsW.kp {B:Nat}{w w':World}{v:Value}{l:List ByteArray}(h:OwnsW B w v l)(hk:Kp [] w w'):OwnsW B w' v l:=q03 h hk (by simp)
theorem OwnsW.at {B:Nat}{w:World}{v:Value}{l:List ByteArray}(h:OwnsW B w v l): ∃ad cp,v= .slice ad l.length cp/\NmsAt w ad l/\l.length<=cp:=by
 obtain ⟨_,⟨rfl,h0⟩|⟨g,cp,cur,rfl,_,_,hcap,_⟩⟩:=id h
 ·refine ⟨none,0,by rw[h0],fun hne=>?_,by omega⟩
  exact absurd (List.eq_nil_of_length_eq_zero h0) hne
 ·have hl:=World.ownsRow.lt h g rfl
  refine ⟨_,_,rfl,fun _=>⟨g,0,rfl,hl.2,fun i hi=>?_⟩,hcap⟩
  rw[Nat.zero_add,World.ownsRow.cellAt h i (by omega)]
  unfold nmC
  rw[List.getElem?_map,zE hi]
  rfl
theorem OwnsW.app {B:Nat}{w:World}{v:Value}{l:List ByteArray}(ho:OwnsW B w v l)(hB:B<=w.heap.size)(s:ByteArray){g c:Nat}(hc:w.cell? ⟨g,0,none⟩=some (.string s))(hl:l.length+1<=1000000)(ty:TypeId):
  ∃g' cap w',(Builtin.append_ #[102,102] ty #[v, .slice (some ⟨g,0,none⟩) 1 c]).run Tryz.prog w= .ok (.slice (some ⟨g',0,none⟩) (l.length+1) cap) w'/\OwnsW B w' (.slice (some ⟨g',0,none⟩) (l.length+1) cap) (l++[s])/\Below B w w'/\w.grownBy w' v.ownBlock:=by
 obtain ⟨i0,hi,hz0,hz1,hz2⟩:=info_parts q5V
 obtain ⟨g',cap,w',hrun,r1,r2,_⟩:=run_append_lies (P:=Tryz.prog) (w:=w) 102 ty B 9 i0 (.string ⟨#[]⟩) 1 16 Tryz.underlying102 hi hz0 hz1 hz2 rfl (by decide) v l.length (nmC l) ho ⟨g,0,none⟩ 1 c [.string s] rfl (fun j u hj=>by
  match j,hj with
  |0,hj=>simp at hj;subst hj;exact hc) (by intro u hu;simp at hu;subst hu;rfl) (by omega) (by unfold maxLen;omega) (by omega) hB _ rfl
 refine ⟨g',cap,w',hrun,?_,(Kp.of r2).below hB (fun k hk=>?_),r2⟩
 ·unfold OwnsW nmC
  rw[zF,List.map_append]
  exact r1
 ·have:v.ownBlock=some k:=by simpa using hk
  exact (World.ownsRow.lt ho k this).1
def evW (e:Ev):List Value:=[.string e.k, .string e.t, .int .i64 e.n0, .int .i64 e.n1, .int .i64 e.n2, .int .i64 e.n3, .string e.x]
theorem q1i (e:Ev):(evW e).length=7:=rfl
theorem q3H:(Tryz.prog.info? 30).map (fun i=>(i.zero,i.size,i.bytes))=some (some (.agg #[.string ⟨#[]⟩, .string ⟨#[]⟩, .int .i64 0, .int .i64 0, .int .i64 0, .int .i64 0, .string ⟨#[]⟩]),7,80):=by kernel_rfl
def OwnsX (B:Nat)(w:World)(v:Value)(l:List Ev):Prop:=w.ownsRow B 30 7 v l.length (l.flatMap evW)
theorem OwnsX.nil (B:Nat)(w:World):OwnsX B w (.slice none 0 0) []:=World.ownsRow_nil _ _ _ _
theorem OwnsX.at {B:Nat}{w:World}{v:Value}{l:List Ev}(h:OwnsX B w v l): ∃ad cp,v= .slice ad l.length cp/\EvsAt w ad l:=by
 obtain ⟨_,⟨rfl,h0⟩|⟨g,cp,cur,rfl,_,_,hcap,_⟩⟩:=id h
 ·refine ⟨none,0,by rw[h0],fun hne=>?_⟩
  exact absurd (List.eq_nil_of_length_eq_zero h0) hne
 ·have hl:=World.ownsRow.lt h g rfl
  refine ⟨_,_,rfl,fun _=>⟨g,0,rfl,hl.2,fun i e hi j u hu=>?_⟩⟩
  obtain ⟨hil,rfl⟩:=zC.1 hi
  have hj:j<7:=by
   have:=(zB.1 hu).1
   simpa [Ev.c] using this
  have c:=q0t q1i h i j hil hj
  rw[Nat.zero_add,c, <-hu]
  unfold evW Ev.c
  simp
theorem OwnsX.app {B:Nat}{w:World}{v:Value}{l:List Ev}(ho:OwnsX B w v l)(hB:B<=w.heap.size)(e:Ev){g c:Nat}(hc:CBox g e.c 30 w)(hl:l.length+1<=1000000)(ty:TypeId):
  ∃g' cap w',(Builtin.append_ #[25,25] ty #[v, .slice (some ⟨g,0,none⟩) 1 c]).run Tryz.prog w= .ok (.slice (some ⟨g',0,none⟩) (l.length+1) cap) w'/\OwnsX B w' (.slice (some ⟨g',0,none⟩) (l.length+1) cap) (l++[e])/\Below B w w'/\w.grownBy w' v.ownBlock:=by
 obtain ⟨i0,hi,hz0,hz1,hz2⟩:=info_parts q3H
 obtain ⟨g',cap,w',hrun,r1,r2,_⟩:=run_append_lies (P:=Tryz.prog) (w:=w) 25 ty B 30 i0 _ 7 80 Tryz.underlying25 hi hz0 hz1 hz2 rfl (by decide) v l.length (l.flatMap evW) ho ⟨g,0,none⟩ 1 c (evW e) rfl (fun j u hj=>by
  have:e.c[j]?=some u:=by
   rw[<-hj]
   unfold evW Ev.c
   simp
  rw[Go.WideShapes.add_plain,Nat.zero_add]
  exact hc.cell this) (by
   intro u hu
   unfold evW at hu
   simp only[zH,List.not_mem_nil,or_false]at hu
   rcases hu with rfl|rfl|rfl|rfl|rfl|rfl|rfl <;> rfl) (by omega) (by unfold maxLen;omega) (by omega) hB _ rfl
 refine ⟨g',cap,w',hrun,?_,(Kp.of r2).below hB (fun k hk=>?_),r2⟩
 ·unfold OwnsX
  rw[zF,List.flatMap_append]
  simpa using r1
 ·have:v.ownBlock=some k:=by simpa using hk
  exact (World.ownsRow.lt ho k this).1
theorem q2B {W:World}{B B' e e' sz sz' n n':Nat}{v v':Value}{xs xs':List Value}(h:W.ownsRow B e sz v n xs)(h':W.ownsRow B' e' sz' v' n' xs')(hne:e'≠e): ∀g,v.ownBlock=some g->g∉v'.ownBlock.toList:=by
 intro g hg hm
 have hg':v'.ownBlock=some g:=by simpa using hm
 obtain ⟨_,⟨rfl,_⟩|⟨g',cap,cur,rfl,_,h4,_⟩⟩:=h'
 ·cases hg'
 ·simp[Value.ownBlock]at hg'
  subst hg'
  exact q0d h (show CBox g' cur e' W from h4) hne hg
theorem q5h (x:List Pt): ∀out:List ByteArray,(∀q∈out,q∈x.foldl stgA out)/\ ∀p∈x,q05 p.st=true\/p.st∈x.foldl stgA out:=by
 induction x with
 |nil=>intro out;simp
 |cons p r ih=>
  intro out
  obtain ⟨h1,h2⟩:=ih (stgA out p)
  rw[List.foldl_cons]
  have hs:(∀q∈out,q∈stgA out p)/\(q05 p.st=true\/p.st∈stgA out p):=by
   unfold stgA
   split
   ·rename_i h
    refine ⟨fun q hq=>hq,?_⟩
    rcases Bool.or_eq_true_iff.1 h with h|h
    ·exact Or.inl h
    ·exact Or.inr ((q1z _ _).1 h)
   ·exact ⟨fun q hq=>zG.2 (Or.inl hq),Or.inr (by simp)⟩
  refine ⟨fun q hq=>h1 q (hs.1 q hq),fun q hq=>?_⟩
  rcases zH.1 hq with rfl|hq
  ·rcases hs.2 with h|h
   ·exact Or.inl h
   ·exact Or.inr (h1 _ h)
  ·exact h2 q hq
theorem qan {α:Type}{f g:Pt->List α->α}(x:List Pt)(h: ∀p∈x, ∀l,f p l=g p l):stk f x=stk g x:=by
 induction x with
 |nil=>rfl
 |cons p r ih=>
  rw[stk,stk,ih (fun q hq=>h q (by simp[hq]))]
  cases stk g r with
  |none=>rfl
  |some l=>
   dsimp only
   split
   ·rfl
   ·rw[h p (by simp)]
theorem q9j {α:Type}{f g:Pt->List α->α}(x:List Pt)(h: ∀p∈x, ∀l,f p l=g p l):fdX f x=fdX g x:=by
 unfold fdX
 rw[qan x h]
theorem qdO {x:List Pt}(h:ckK x=3):stgS x=x.foldl stgA []:=by unfold stgS;rw[if_neg (by rw[h];decide)];rfl
attribute [local irreducible] opsV
def rdC (lv tk:Value)(k d:Nat)(pv:Value):Array Value:=#[lv]++opsV++#[tk, .int .i64 (k:Int), .int .i64 (d:Int),pv]
theorem q4c (lv tk:Value)(k d:Nat)(pv:Value)(j:Nat):(rdC lv tk k d pv)[71+j]?=(#[tk, .int .i64 (k:Int), .int .i64 (d:Int),pv]:Array Value)[j]?:=by
 unfold rdC
 rw[Array.getElem?_append_right (by rw[Array.size_append,q0x];simp),Array.size_append,q0x]
 congr 1
 simp
theorem qct (lv tk:Value)(k d:Nat)(pv:Value):(rdC lv tk k d pv)[0]?=some lv:=by
 unfold rdC
 rw[Array.getElem?_append_left (by rw[Array.size_append,q0x];simp),Array.getElem?_append_left (by simp)]
 rfl
theorem qeI (lv tk:Value)(k d:Nat)(pv:Value)(j:Nat)(h:j<70):(rdC lv tk k d pv)[1+j]?=opsV[j]?:=by
 unfold rdC
 rw[Array.getElem?_append_left (by rw[Array.size_append,q0x];simp;omega),Array.getElem?_append_right (by simp)]
 congr 1
 simp
theorem qa5 (lv tk:Value)(k d:Nat)(pv:Value):(rdC lv tk k d pv)[71]?=some tk:=q4c lv tk k d pv 0
theorem q4b (lv tk:Value)(k d:Nat)(pv:Value):(rdC lv tk k d pv)[72]?=some (.int .i64 (k:Int)):=q4c lv tk k d pv 1
theorem qeH (lv tk:Value)(k d:Nat)(pv:Value):(rdC lv tk k d pv)[73]?=some (.int .i64 (d:Int)):=q4c lv tk k d pv 2
theorem q21 (lv tk:Value)(k d:Nat)(pv:Value):(rdC lv tk k d pv)[74]?=some pv:=q4c lv tk k d pv 3
theorem q6h:opsV.toList.length=70:=by rw[Array.length_toList];exact q0x
theorem q4H (lv tk:Value)(k d:Nat)(pv v:Value)(j:Nat):(rdC lv tk k d pv).setIfInBounds (71+j) v=#[lv]++opsV++(#[tk, .int .i64 (k:Int), .int .i64 (d:Int),pv]:Array Value).setIfInBounds j v:=by
 apply Array.ext'
 unfold rdC
 rw[Array.toList_setIfInBounds,Array.toList_append,Array.toList_append,Array.toList_append,Array.toList_append,Array.toList_setIfInBounds,List.set_append_right _ _ (by rw[zF,q6h];simp),zF,q6h]
 congr 2
 simp
theorem qfj (lv tk:Value)(k k' d:Nat)(pv:Value):(rdC lv tk k d pv).setIfInBounds 72 (.int .i64 (k':Int))=rdC lv tk k' d pv:=q4H lv tk k d pv _ 1
theorem qfi (lv tk:Value)(k d d':Nat)(pv:Value):(rdC lv tk k d pv).setIfInBounds 73 (.int .i64 (d':Int))=rdC lv tk k d' pv:=q4H lv tk k d pv _ 2
theorem qfk (lv tk:Value)(k d:Nat)(pv pv':Value):(rdC lv tk k d pv).setIfInBounds 74 pv'=rdC lv tk k d pv':=q4H lv tk k d pv _ 3
def TksLow (B:Nat)(W:World)(tk:Value)(l:List Tk):Prop:= ∃b off cap,tk= .slice (some ⟨b,off,none⟩) l.length cap/\b<B/\ ∀i (h:i<l.length),W.cell? ⟨b,off+i * 4,none⟩=some (.int .i64 l[i].kd)/\W.cell? ⟨b,off+i * 4+1,none⟩=some (.string l[i].s)/\W.cell? ⟨b,off+i * 4+2,none⟩=some (.int .i64 l[i].n)/\W.cell? ⟨b,off+i * 4+3,none⟩=some (.int .i64 l[i].pl)
theorem TksLow.below {B:Nat}{W W':World}{tk:Value}{l:List Tk}(h:TksLow B W tk l)(hb:Below B W W'):TksLow B W' tk l:=by
 obtain ⟨b,off,cap,e,hlt,hc⟩:=h
 refine ⟨b,off,cap,e,hlt,fun i hi=>?_⟩
 obtain ⟨c0,c1,c2,c3⟩:=hc i hi
 exact ⟨(hb.cell (p:=⟨b,_,none⟩) hlt).trans c0,(hb.cell (p:=⟨b,_,none⟩) hlt).trans c1,(hb.cell (p:=⟨b,_,none⟩) hlt).trans c2,(hb.cell (p:=⟨b,_,none⟩) hlt).trans c3⟩
def lvF (n:Nat):Nat:=if n=2 then 177 else if n=3 then 178 else if n=6 then 179 else 176
def OpsLow (B:Nat)(W:World)(ov:Value)(os:List Int):Prop:=(os=[]/\ov= .slice none 0 0)\/ ∃b,ov= .slice (some ⟨b,0,none⟩) os.length os.length/\b<B/\ ∀i (h:i<os.length),W.cell? ⟨b,i,none⟩=some (.int .i64 os[i])
theorem OpsLow.below {B:Nat}{W W':World}{ov:Value}{os:List Int}(h:OpsLow B W ov os)(hb:Below B W W'):OpsLow B W' ov os:=by
 rcases h with h|⟨b,e,hlt,hc⟩
 ·exact Or.inl h
 ·exact Or.inr ⟨b,e,hlt,fun i hi=>(hb.cell (p:=⟨b,_,none⟩) hlt).trans (hc i hi)⟩
def LvsLow (B:Nat)(W:World)(lv:Value):Prop:= ∃b,lv= .slice (some ⟨b,0,none⟩) 7 7/\b<B/\ ∀n,n<7->W.cell? ⟨b,n * 2,none⟩=some (.func (.func (lvF n)) #[] #[])/\ ∃ov,W.cell? ⟨b,n * 2+1,none⟩=some ov/\OpsLow B W ov (lvO n)
theorem LvsLow.below {B:Nat}{W W':World}{lv:Value}(h:LvsLow B W lv)(hb:Below B W W'):LvsLow B W' lv:=by
 obtain ⟨b,e,hlt,hc⟩:=h
 refine ⟨b,e,hlt,fun n hn=>?_⟩
 obtain ⟨c0,ov,c1,c2⟩:=hc n hn
 exact ⟨(hb.cell (p:=⟨b,_,none⟩) hlt).trans c0,ov,(hb.cell (p:=⟨b,_,none⟩) hlt).trans c1,c2.below hb⟩
structure Env (gr:Nat)(lv tk:Value)(l:List Tk)(W:World):Prop where
 tks:TksLow gr W tk l
 lvs:LvsLow gr W lv
 tab:TbE W
 low:8<=gr
 len:l.length<=100000
 ok: ∀t∈l,t.s.size<=140737488351232
theorem Env.below {gr:Nat}{lv tk:Value}{l:List Tk}{W W':World}(h:Env gr lv tk l W)(hb:Below gr W W'):Env gr lv tk l W':=⟨h.tks.below hb,h.lvs.below hb,h.tab.below hb h.low,h.low,h.len,h.ok⟩
def ptE (p:Pt):List Value:=[.int .i64 p.kd, .int .i64 p.n, .string p.s, .string p.st, .int .i64 p.fl]
theorem q0T (p:Pt):(ptE p).length=5:=rfl
structure Rd (gr:Nat)(lv tk:Value)(l:List Tk)(k d:Nat)(ps:List Pt)(W:World):Prop where
 env:Env gr lv tk l W
 box: ∃pv,CBox gr (rdC lv tk k d pv) 254 W/\W.ownsRow (gr+1) 178 5 pv ps.length (ps.flatMap ptE)
theorem Rd.below {gr:Nat}{lv tk:Value}{l:List Tk}{k d:Nat}{ps:List Pt}{W W':World}(h:Rd gr lv tk l k d ps W)(hb:Below W.heap.size W W'):Rd gr lv tk l k d ps W':=by
 obtain ⟨pv,h1,h2⟩:=h.box
 have hlt:=(zB.1 h1).1
 have hk:=Kp.ofBelow hb
 exact ⟨h.env.below (hb.mono (by omega)),pv,h1.kp hk (by simp),q03 h2 hk (by simp)⟩
def wdS (t:Tk):ByteArray:=if t.kd=1\/t.kd=4 then t.s else ⟨#[]⟩
theorem q1g (t:Tk):(wdS t).data.toList=wdT t:=by unfold wdS wdT;split <;> rfl
theorem q0f {l:List Tk}{k:Nat}{t:Tk}{r:List Tk}(h:l.drop k=t::r): ∃hk:k<l.length,l[k]=t/\l.drop (k+1)=r:=by
 have hk:k<l.length:=by
  rcases Nat.lt_or_ge k l.length with h1|h1
  ·exact h1
  ·rw[List.drop_eq_nil_of_le h1]at h;cases h
 rw[List.drop_eq_getElem_cons hk]at h
 cases h
 exact ⟨hk,rfl,rfl⟩
theorem q27 {gr:Nat}{lv tk:Value}{l:List Tk}{k d:Nat}{ps:List Pt}{W:World}(h:Rd gr lv tk l k d ps W){t:Tk}{r:List Tk}(ht:l.drop k=t::r):
  Calls Tryz.prog 203 #[.pointer (some ⟨gr,0,none⟩)] W fun e w'=>e= .returned (.string (wdS t))/\Below W.heap.size W w':=by
 obtain ⟨hk,ha,_⟩:=q0f ht
 obtain ⟨pv,hb,_⟩:=h.box
 obtain ⟨b,off,cap,htk,hlt,hc⟩:=h.env.tks
 obtain ⟨c0,c1,c2,c3⟩:=hc k hk
 rw[ha]at c0 c1 c2 c3
 have hlen:=h.env.len
 have hgl:=(zB.1 hb).1
 have e1:=hb.cell (qa5 lv tk k d pv)
 have e2:=hb.cell (q4b lv tk k d pv)
 rw[htk]at e1
 clear h hb hc ha htk ht
 have al: ∀{q:Addr} {v:Value},W.cell? q=some v->q.block<W.heap.size->(W.alloc (.cells #[.int .i64 0, .string { data:=#[] }, .int .i64 0, .int .i64 0] 98)).cell? q=some v:=fun h _=>(Kp.alloc W _).cell h (by simp)
 have d0:=al c0 (by show b<_;omega)
 have d1:=al c1 (by show b<_;omega)
 have d2:=al c2 (by show b<_;omega)
 have d3:=al c3 (by show b<_;omega)
 have g1:=al e1 hgl
 have g2:=al e2 hgl
 clear al
 unfold wdS
 obtain ⟨kd,s,n,pl⟩:=t
 dsimp only at *
 go_enter Tryz.func203,Tryz.ntmps203
 go_wp2
 go_region
 clear c0 c1 c2 c3 d0 d1 d2 d3 e1 e2 g1 g2
 have hb: ∀o,Below W.heap.size W (W.alloc o).drew:=fun o=>((Below.refl _ _).alloc (zM _) _).trans ⟨rfl,rfl,rfl,zM _,fun _ _=>rfl⟩
 by_cases h1:kd=1
 ·subst h1
  go_wp2
  exact bodyPost_ret (results_tmp rfl _ _ _) rfl ⟨rfl,hb _⟩
 ·by_cases h4:kd=4
  ·subst h4
   go_wp2
   exact bodyPost_ret (results_tmp rfl _ _ _) rfl ⟨rfl,hb _⟩
  ·have g1:(kd==1)=false:=beq_eq_false_iff_ne.2 h1
   have g4:(kd==4)=false:=beq_eq_false_iff_ne.2 h4
   go_wp2
   exact bodyPost_ret (results_tmp rfl _ _ _) rfl ⟨by first|rfl|(rw[if_neg (by omega)];rfl),hb _⟩
theorem Rd.next {gr:Nat}{lv tk:Value}{l:List Tk}{k d:Nat}{ps:List Pt}{W:World}(h:Rd gr lv tk l k d ps W):Rd gr lv tk l (k+1) d ps (W.setCell ⟨gr,72,none⟩ (.int .i64 ((k:Int)+1))):=by
 obtain ⟨pv,h1,h2⟩:=h.box
 have hlt:=(zB.1 h1).1
 have e:((k:Int)+1)=((k+1:Nat):Int):=by omega
 rw[e]
 have c:=h1.set 72 (.int .i64 ((k+1:Nat):Int))
 rw[qfj]at c
 exact ⟨h.env.below ((Kp.set W gr 72 _).below (by omega) (by simp)),pv,c,q03 h2 (Kp.set _ _ _ _) (fun g hg=>by have:=(h2.lt g hg).1;simp;omega)⟩
theorem Rd.cells {gr:Nat}{lv tk:Value}{l:List Tk}{k d:Nat}{ps:List Pt}{W:World}(h:Rd gr lv tk l k d ps W):W.cell? ⟨gr,72,none⟩=some (.int .i64 (k:Int))/\W.cell? ⟨gr,73,none⟩=some (.int .i64 (d:Int))/\(∀i,W.frozen? ⟨gr,i,none⟩=false)/\gr<W.heap.size:=by
 obtain ⟨pv,h1,h2⟩:=h.box
 exact ⟨h1.cell (q4b lv tk k d pv),h1.cell (qeH lv tk k d pv),h1.froz,(zB.1 h1).1⟩
theorem q2Q {gr:Nat}{lv tk:Value}{l:List Tk}{k d:Nat}{ps:List Pt}{W:World}(h:Rd gr lv tk l k d ps W){t:Tk}{r:List Tk}(ht:l.drop k=t::r)(sg:ByteArray):
  Calls Tryz.prog 196 #[.pointer (some ⟨gr,0,none⟩), .string sg] W fun e w'=>e= .returned (.bool (decide (wdT t=sg.data.toList)))/\Rd gr lv tk l (if wdT t=sg.data.toList then k+1 else k) d ps w'/\Below gr W w':=by
 have WD:=hZq (q27 h ht)
 have hk:k<=100000:=by obtain ⟨hk,_⟩:=q0f ht;have:=h.env.len;omega
 have HR:=hZq h
 rw[<-q1g]
 clear h ht
 generalize wdS t=S at *
 by_cases he:S.data.toList=sg.data.toList
 ·have heq:(S.toList==sg.toList)=true:=by rw[toList_data,toList_data,he];exact beq_self_eq_true _
  rw[if_pos he,decide_eq_true he]
  clear he
  go_enter Tryz.func196,Tryz.ntmps196
  go_wp2_with fail
  refine (uQ WD).mono ?_
  rintro e w1 ⟨rfl,hb⟩
  have HR1:=hZq ((uQ HR).below hb)
  obtain ⟨c72,_,f72,_⟩:=(uQ HR1).cells
  have HB:=hZq (hb.mono (show gr<=W.heap.size by have:=(uQ HR).cells;omega))
  clear hb HR WD
  go_wp2
  refine bodyPost_ret (results_tmp rfl _ _ _) rfl ⟨rfl,(uQ HR1).next,(uQ HB).setCell (p:=⟨gr,72,none⟩) (zM _) _⟩
 ·have heq:(S.toList==sg.toList)=false:=by rw[toList_data,toList_data];exact beq_eq_false_iff_ne.2 he
  rw[if_neg he,zK he]
  clear he
  go_enter Tryz.func196,Tryz.ntmps196
  go_wp2_with fail
  refine (uQ WD).mono ?_
  rintro e w1 ⟨rfl,hb⟩
  have HR1:=hZq ((uQ HR).below hb)
  have HB:=hZq (hb.mono (show gr<=W.heap.size by have:=(uQ HR).cells;omega))
  clear hb HR WD
  go_wp2
  exact bodyPost_ret (results_tmp rfl _ _ _) rfl ⟨rfl,uQ HR1,uQ HB⟩
end Go.Proofs.YtfgkikeeadlcfaaGreatDoor
namespace Go.Proofs.YtfgkikeeadlcfaaGreatDoor
open Go.RowKit Go.Shelf
theorem q1e {P:Program}(w:World)(dT sT ty elem:TypeId)(sz g o dLen dCap:Nat)(a:Addr)(sLen sCap m:Nat)(cur:Array Value)(t:TypeId)(cs:List Value)
  (hu:P.underlying dT=some (.slice elem)) (hs:(P.info? elem).map (·.size)=some sz)
  (hg:w.heap[g]?=some (.cells cur t (0,0))) (hm:Nat.min sLen dLen=m) (hn:cs.length=m * sz)
  (hsrc: ∀j v,cs[j]?=some v->w.cell? (a.add j)=some v) (hfit:o+cs.length<=cur.size) (h1: ∀v∈cs,v.oneCell'=true):
  (Builtin.copy_ #[dT,sT] ty #[.slice (some ⟨g,o,none⟩) dLen dCap, .slice (some a) sLen sCap]).run P w=
   .ok (goInt m) (w.setRow g (cur.toList.take o++cs++cur.toList.drop (o+cs.length)).toArray):=by
 have hl:=run_loadCells_list (P:=P) w a cs hsrc
 have hst:=run_storeCells_at P g o t cs 0 cur w hg (by simpa using hfit) h1
 cases hq:P.info? elem with
 |none=>simp[hq]at hs
 |some i=>
  have hi:i.size=sz:=by simpa [hq] using hs
  simp[Builtin.copy_,run_underlying hu,Builtin.lenOf,Builtin.firstCells,sizeOf,typeInfo,hq,hi,hm, <-hn,hl,hst]
theorem q2b:(Tryz.prog.info? 178).map (·.size)=some 5:=by kernel_rfl
theorem q2A (xs:List Pt): ∀v∈xs.flatMap ptE,v.oneCell'=true:=by
 intro v hv
 obtain ⟨p,_,hp⟩:=List.mem_flatMap.1 hv
 simp only[ptE,zH,List.not_mem_nil,or_false]at hp
 rcases hp with rfl|rfl|rfl|rfl|rfl <;> rfl
theorem q39 {α:Type}(enc:α->List Value)(sz:Nat)(he: ∀a,(enc a).length=sz)(l:List α)(m:Nat):(l.flatMap enc).drop (m * sz)=(l.drop m).flatMap enc:=by
 induction l generalizing m with
 |nil=>simp
 |cons a r ih=>
  cases m with
  |zero=>simp
  |succ m=>
   rw[List.flatMap_cons,List.drop_succ_cons, <-ih m,List.drop_append,he,List.drop_eq_nil_of_le (by rw[he,Nat.add_mul];omega),List.nil_append,show (m+1) * sz-sz=m * sz by rw[Nat.add_mul];omega]
theorem qbq (A X P D:List Value)(n i c:Nat)(hA:A.length=c * 5)(hX:A.take (n * 5)=X)(hD:D=X.drop (i * 5))(hP:P.length=5)(hi:i<n)(hc:n+1<=c)(A1 A2:List Value)(h1:A1=A.take ((i+1) * 5)++D++A.drop ((i+1) * 5+D.length))(h2:A2=A1.take (i * 5)++P++A1.drop (i * 5+P.length)):
  A1.length=c * 5/\A2.length=c * 5/\A2.take ((n+1) * 5)=X.take (i * 5)++(P++D)/\D.length=(n-i) * 5:=by
 have lX:X.length=n * 5:=by rw[<-hX,zL,hA];omega
 have lD:D.length=(n-i) * 5:=by rw[hD,List.length_drop,lX];omega
 have l1:A1.length=c * 5:=by rw[h1];simp only[zF,zL,List.length_drop,hA,lD];omega
 have t1:A1.take (i * 5)=X.take (i * 5):=by
  rw[h1,List.append_assoc,List.take_append_of_le_length (by rw[zL,hA];omega),List.take_take, <-hX,List.take_take]
  congr 1
  omega
 have d1:A1.drop (i * 5+P.length)=D++A.drop ((i+1) * 5+D.length):=by
  rw[h1,List.append_assoc,List.drop_append_of_le_length (by rw[zL,hA,hP];omega),List.drop_eq_nil_of_le (by rw[zL,hA,hP];omega),List.nil_append]
 have l2:A2.length=c * 5:=by rw[h2];simp only[zF,zL,List.length_drop,l1,hP];omega
 refine ⟨l1,l2,?_,lD⟩
 rw[h2,t1,d1, <-List.append_assoc, <-List.append_assoc,List.take_append_of_le_length (by simp only[zF,zL,lX,hP,lD];omega),List.take_of_length_le (by simp only[zF,zL,lX,hP,lD];omega)]
theorem q3R {w:World}{g n i:Nat}{cur:Array Value}{t:TypeId}{xs:List Pt}(hg:w.heap[g]?=some (.cells cur t (0,0)))(hx:cur.toList.take (n * 5)=xs.flatMap ptE):
  ∀j v,((xs.drop i).flatMap ptE)[j]?=some v->w.cell? ((⟨g,i * 5,none⟩:Addr).add j)=some v:=fun j v hj=>by
 rw[Addr.add_lit]
 rw[<-q39 ptE 5 q0T,List.getElem?_drop, <-hx,List.getElem?_take]at hj
 split at hj
 ·simp only[World.cell?,hg]
  rw[<-Array.getElem?_toList]
  exact hj
 ·cases hj
theorem q5W (g n c i vb vc:Nat)(cur:Array Value)(xs:List Pt)(p:Pt)(w:World)(hn:xs.length=n)(hi:i<n)(hroom:n+1<=c)(hc:c<=maxLen)(hg:w.heap[g]?=some (.cells cur 178 (0,0)))(hcs:cur.size=c * 5)(hx:cur.toList.take (n * 5)=xs.flatMap ptE)(hv:CBox vb (ptE p).toArray 178 w)(hne:vb≠g):
  Calls Tryz.prog 202 #[.slice (some ⟨g,0,none⟩) n c, .int .i64 (i:Int), .slice (some ⟨vb,0,none⟩) 1 vc] w fun e w'=>e= .returned (.slice (some ⟨g,0,none⟩) (n+1) c)/\ ∃cur':Array Value,w'=w.drew.setRow g cur'/\cur'.size=c * 5/\cur'.toList.take ((n+1) * 5)=(xs.take i++p::xs.drop i).flatMap ptE:=by
 have hc63:c<=9223372036854775807:=by unfold maxLen at hc;omega
 have hov: ∀lb cb,(callFunc 212 #[.slice (some ⟨vb,0,none⟩) 1 vc, .slice (some ⟨g,(i+1) * 5,none⟩) lb cb]).run Tryz.prog w= .ok (.value (.bool false)) w:=fun lb cb=>by
  rw[run_callFunc_extern Tryz.func212 (by kernel_rfl) (by kernel_rfl) (by kernel_rfl) (e:=Extern.SlicesOverlaps.overlaps #[86,86] #[4]) (by kernel_rfl),
   Lib.run_overlaps_apart w 86 4 178 Tryz.underlying86 5 Tryz.sizeOf178 ⟨vb,0,none⟩ ⟨g,(i+1) * 5,none⟩ 1 vc lb cb hne 178 178 5 (c * 5) (by unfold CBox at hv;simp[World.shape?,hv,ptE]) (by simp[World.shape?,hg,hcs]) (by omega) (hv.froz 0) (hv.froz 5)]
  rfl
 have hw1:IntKind.i64.wrap ((i:Int)+1)=(i:Int)+1:=by rw[IntKind.wrap_i64];omega
 have hb1:(0:Int)<=(i:Int)+1:=by omega
 have htn:((i:Int)+1).toNat=i+1:=by omega
 have hin:i<=n:=by omega
 have hz2: ¬ ((i:Int)=(n:Int)):=by omega
 have hb2: ¬ (c=i+1):=by omega
 have hb4: ¬ (c=i):=by omega
 have hb3:(i:Int)<=(n:Int)+1:=by omega
 have hlen:cur.toList.length=c * 5:=by rw[Array.length_toList];exact hcs
 obtain ⟨A1,hA1⟩: ∃A1,A1=cur.toList.take ((i+1) * 5)++(xs.drop i).flatMap ptE++cur.toList.drop ((i+1) * 5+((xs.drop i).flatMap ptE).length):=⟨_,rfl⟩
 obtain ⟨A2,hA2⟩: ∃A2,A2=A1.take (i * 5)++ptE p++A1.drop (i * 5+(ptE p).length):=⟨_,rfl⟩
 obtain ⟨l1,l2,l3,l4⟩:=qbq cur.toList (xs.flatMap ptE) (ptE p) ((xs.drop i).flatMap ptE) n i c hlen hx (q39 ptE 5 q0T xs i).symm rfl hi hroom A1 A2 hA1 hA2
 have hcp1: ∀ty dc sc,(Builtin.copy_ #[86,86] ty #[.slice (some ⟨g,(i+1) * 5,none⟩) (n-i) dc, .slice (some ⟨g,i * 5,none⟩) (n+1-i) sc]).run Tryz.prog w.drew= .ok (goInt ((n-i:Nat):Int)) (w.drew.setRow g A1.toArray):=fun ty dc sc=>by
  rw[hA1]
  exact q1e w.drew _ _ ty 178 5 g ((i+1) * 5) (n-i) dc ⟨g,i * 5,none⟩ (n+1-i) sc (n-i) cur 178 _ Tryz.underlying86 q2b hg (by simp only[Nat.min_def];split <;> omega) l4 (q3R (w:=w.drew) hg hx) (by rw[l4,hcs];omega) (q2A _)
 have hg1:(w.drew.setRow g A1.toArray).heap[g]?=some (.cells A1.toArray 178 (0,0)):=setRow_heap w.drew g cur _ _ _ hg
 have hcp2: ∀ty dc,(Builtin.copy_ #[86,86] ty #[.slice (some ⟨g,i * 5,none⟩) (n+1-i) dc, .slice (some ⟨vb,0,none⟩) 1 vc]).run Tryz.prog (w.drew.setRow g A1.toArray)= .ok (goInt 1) (w.drew.setRow g A2.toArray):=fun ty dc=>by
  have:=q1e (P:=Tryz.prog) (w.drew.setRow g A1.toArray) 86 86 ty 178 5 g (i * 5) (n+1-i) dc ⟨vb,0,none⟩ 1 vc 1 A1.toArray 178 (ptE p) Tryz.underlying86 q2b hg1 (by simp only[Nat.min_def];split <;> omega) rfl (fun j v hj=>by
   rw[Addr.add_lit]
   refine (World.cell?_of_block ?_).trans (hv.cell (i:=0+j) (by rw[Nat.zero_add];simpa using hj))
   simp[World.setRow,Array.getElem?_modify,hne.symm]
   rfl) (by rw[q0T];simp[l1];omega) (fun v hv=>q2A [p] v (by simpa using hv))
  rw[this,setRow_setRow,hA2]
  rfl
 have HF:=hZq (And.intro l2 l3)
 have mixed:Tryz.prog.follows .mixedOrders=true:=by kernel_rfl
 clear hA1 hA2 l1 l2 l3 l4 hg1 hlen hx hcs hv hg
 go_enter Tryz.func202,Tryz.ntmps202
 go_wp2_with (simp only[hov])
 go_region_law_o (refine step_copy_runI rfl _ _ 86 86 rfl _ _ (by simp[Act.eval,Act.put]) (by simp[Act.eval,Act.put]) (hcp1 _ _ _) ?_)
 go_wp2_with (at_builtin;refine wpList_copy_runI _ rfl _ _ 86 86 rfl _ _ rfl rfl (hcp2 _ _) ?_)
 go_ret
 obtain ⟨l2,l3⟩:=uQ HF
 refine ⟨rfl,A2.toArray,rfl,by simpa using l2,?_⟩
 rw[List.flatMap_append,List.flatMap_cons, <-q2a ptE 5 q0T]
 exact l3
theorem Kp.setRow (w:World)(g:Nat)(cs:Array Value):Kp [g] w (w.setRow g cs):=⟨rfl,rfl,rfl,by simp[World.setRow],fun j _ hn=>by
 simp only[zD]at hn
 simp[World.setRow,Array.getElem?_modify,show ¬ g=j by omega]⟩
theorem q3l: ∃i0:TypeInfo,Tryz.prog.info? 178=some i0/\i0.zero=some (.agg #[.int .i64 0, .int .i64 0, .string { data:=#[] }, .string { data:=#[] }, .int .i64 0])/\i0.size=5/\i0.bytes=56:=
 info_parts (by kernel_rfl)
theorem q9v (X Z P D R:List Value)(n i G:Nat)(hX:X.length=n * 5)(hR:R=X.take (i * 5)++Z)(hRl:R.length=G * 5)(hD:D=X.drop (i * 5))(hP:P.length=5)(hi:i<n)(hc:n+1<=G)(A1 A2:List Value)(h1:A1=R.take (i * 5)++P++R.drop (i * 5+P.length))(h2:A2=A1.take ((i+1) * 5)++D++A1.drop ((i+1) * 5+D.length)):
  A1.length=G * 5/\A2.length=G * 5/\A2.take ((n+1) * 5)=X.take (i * 5)++(P++D)/\D.length=(n-i) * 5:=by
 have lD:D.length=(n-i) * 5:=by rw[hD,List.length_drop,hX];omega
 have l1:A1.length=G * 5:=by rw[h1];simp only[zF,zL,List.length_drop,hRl,hP];omega
 have l2:A2.length=G * 5:=by rw[h2];simp only[zF,zL,List.length_drop,l1,lD];omega
 have t0:R.take (i * 5)=X.take (i * 5):=by rw[hR,List.take_append_of_le_length (by rw[zL,hX];omega),List.take_take];congr 1;omega
 have t1:A1.take ((i+1) * 5)=X.take (i * 5)++P:=by
  rw[h1,t0,List.take_append_of_le_length (by simp only[zF,zL,hX,hP];omega),List.take_of_length_le (by simp only[zF,zL,hX,hP];omega)]
 refine ⟨l1,l2,?_,lD⟩
 rw[h2,t1,List.take_append_of_le_length (by simp only[zF,zL,hX,hP,lD];omega),List.take_of_length_le (by simp only[zF,zL,hX,hP,lD];omega),List.append_assoc]
theorem q74 (g n c i vb vc:Nat)(cur:Array Value)(xs:List Pt)(p:Pt)(w:World)(hn:xs.length=n)(hi:i<n)(hnc:n<=c)(hroom:c<n+1)(hbig:n<=100000000)(hg:w.heap[g]?=some (.cells cur 178 (0,0)))(hx:cur.toList.take (n * 5)=xs.flatMap ptE)(hv:CBox vb (ptE p).toArray 178 w):
  Calls Tryz.prog 202 #[.slice (some ⟨g,0,none⟩) n c, .int .i64 (i:Int), .slice (some ⟨vb,0,none⟩) 1 vc] w fun e w'=> ∃(G:Nat) (cur':Array Value),e= .returned (.slice (some ⟨w.heap.size,0,none⟩) (n+1) G)/\w'.heap[w.heap.size]?=some (.cells cur' 178 (0,0))/\n+1<=G/\G<=maxLen/\cur'.size=G * 5/\cur'.toList.take ((n+1) * 5)=(xs.take i++p::xs.drop i).flatMap ptE/\Kp [] w w':=by
 obtain ⟨i0,hi0,hz0,hzs,hzb⟩:=q3l
 have hgw:g<w.heap.size:=(zB.1 hg).1
 have hvw:vb<w.heap.size:=(zB.1 hv).1
 have hXl:(xs.flatMap ptE).length=n * 5:=by rw[q1Y ptE 5 q0T,hn]
 have hold:(Builtin.firstCells i0.size i (.slice (some ⟨g,0,none⟩) i c)).run Tryz.prog w.drew= .ok ((xs.flatMap ptE).take (i * 5)).toArray w.drew:=by
  rw[hzs]
  exact run_firstCells_some w.drew 5 i ⟨g,0,none⟩ i c _ (by rw[zL,hXl];omega) (fun j v hj=>by
   rw[List.getElem?_take]at hj
   split at hj
   ·have:=q3R (i:=0) hg hx j v (by simpa using hj)
    rw[Nat.zero_mul]at this
    exact this
   ·cases hj)
 have hik:i+(n+1-i)=n+1:=by omega
 have hkk:(n:Int)+1-(i:Int)=((n+1-i:Nat):Int):=by omega
 obtain ⟨G,hG⟩: ∃G,G=grownCap w (n+1) c 178:=⟨_,rfl⟩
 obtain ⟨Z,hZ⟩: ∃Z:List Value,Z=(Builtin.zeroCells (Value.agg #[.int .i64 0, .int .i64 0, .string { data:=#[] }, .string { data:=#[] }, .int .i64 0]).cells (n+1-i)++Builtin.zeroCells (Value.agg #[.int .i64 0, .int .i64 0, .string { data:=#[] }, .string { data:=#[] }, .int .i64 0]).cells (G-(n+1))).toList:=⟨_,rfl⟩
 have hGn:n+1<=G:=by rw[hG];exact grownCap_ge w _ _ _
 have hGm:G<=maxLen:=by rw[hG];exact grownCap_le_maxLen w (n+1) c _ (by unfold maxLen;omega)
 have hG63:G<=9223372036854775807:=by unfold maxLen at hGm;omega
 obtain ⟨R,hR⟩: ∃R,R=(xs.flatMap ptE).take (i * 5)++Z:=⟨_,rfl⟩
 have hZl:Z.length=(G-i) * 5:=by
  rw[hZ]
  simp[Builtin.zeroCells,Value.cells]
  omega
 have hRl:R.length=G * 5:=by rw[hR,zF,zL,hXl,hZl];omega
 have hrz: ∀ty,(Builtin.append_ #[86,3] ty #[.slice (some ⟨g,0,none⟩) i c, .int .i64 ((n:Int)+1-(i:Int))]).run Tryz.prog w=
   .ok (.slice (some ⟨w.heap.size,0,none⟩) (n+1) G) (w.drew.alloc (.cells R.toArray 178)):=fun ty=>by
  have h:=Lib.run_append_grow_zeros w 86 3 ty 178 i0 _ .i64 .i64 Tryz.underlying86 Tryz.underlying3 hi0 hz0 (some ⟨g,0,none⟩) i c _ hold (n+1-i) (by omega) (by omega) (by omega) (by omega) (by rw[hzb];omega) (by rw[hzb,hik];exact growslice_fits hroom (by omega))
  rw[hik, <-hG]at h
  rw[hkk,h,hR,hZ]
  congr 4
  simp
 obtain ⟨A1,hA1⟩: ∃A1,A1=R.take (i * 5)++ptE p++R.drop (i * 5+(ptE p).length):=⟨_,rfl⟩
 obtain ⟨A2,hA2⟩: ∃A2,A2=A1.take ((i+1) * 5)++(xs.drop i).flatMap ptE++A1.drop ((i+1) * 5+((xs.drop i).flatMap ptE).length):=⟨_,rfl⟩
 obtain ⟨l1,l2,l3,l4⟩:=q9v (xs.flatMap ptE) Z (ptE p) ((xs.drop i).flatMap ptE) R n i G hXl hR hRl (q39 ptE 5 q0T xs i).symm rfl hi hGn A1 A2 hA1 hA2
 have hcpA: ∀(W:World),W.heap=(w.alloc (.cells R.toArray 178)).heap-> ∀ty dc,(Builtin.copy_ #[86,86] ty #[.slice (some ⟨w.heap.size,i * 5,none⟩) (n+1-i) dc, .slice (some ⟨vb,0,none⟩) 1 vc]).run Tryz.prog W= .ok (goInt 1) (W.setRow w.heap.size A1.toArray):=fun W hW ty dc=>by
  have:=q1e (P:=Tryz.prog) W 86 86 ty 178 5 w.heap.size (i * 5) (n+1-i) dc ⟨vb,0,none⟩ 1 vc 1 R.toArray 178 (ptE p) Tryz.underlying86 q2b (by rw[hW];exact heap_alloc_new w _) (by simp only[Nat.min_def];split <;> omega) rfl (fun j v hj=>by
   rw[Addr.add_lit]
   refine (World.cell?_of_block ?_).trans (hv.cell (i:=0+j) (by rw[Nat.zero_add];simpa using hj))
   rw[hW]
   exact Below.heap_alloc _ _ _ hvw) (by rw[q0T];simp[hRl];omega) (fun v hv=>q2A [p] v (by simpa using hv))
  rw[this,hA1]
  rfl
 have hg2: ∀(W:World),W.heap=((w.alloc (.cells R.toArray 178)).setRow w.heap.size A1.toArray).heap->W.heap[w.heap.size]?=some (.cells A1.toArray 178 (0,0)):=fun W hW=>by rw[hW];exact setRow_heap _ _ _ _ _ _ (heap_alloc_new w _)
 have hgo: ∀(W:World),W.heap=((w.alloc (.cells R.toArray 178)).setRow w.heap.size A1.toArray).heap->W.heap[g]?=some (.cells cur 178 (0,0)):=fun W hW=>by
  rw[hW, <-hg, <-Below.heap_alloc w (.cells R.toArray 178) g hgw]
  simp[World.setRow,Array.getElem?_modify,show ¬ w.heap.size=g by omega]
 have hcpB: ∀(W:World),W.heap=((w.alloc (.cells R.toArray 178)).setRow w.heap.size A1.toArray).heap-> ∀ty dc sc,(Builtin.copy_ #[86,86] ty #[.slice (some ⟨w.heap.size,(i+1) * 5,none⟩) (n-i) dc, .slice (some ⟨g,i * 5,none⟩) (n-i) sc]).run Tryz.prog W= .ok (goInt ((n-i:Nat):Int)) (W.setRow w.heap.size A2.toArray):=fun W hW ty dc sc=>by
  have:=q1e (P:=Tryz.prog) W 86 86 ty 178 5 w.heap.size ((i+1) * 5) (n-i) dc ⟨g,i * 5,none⟩ (n-i) sc (n-i) A1.toArray 178 ((xs.drop i).flatMap ptE) Tryz.underlying86 q2b (hg2 W hW) (by simp only[Nat.min_def];split <;> omega) l4 (q3R (hgo W hW) hx) (by rw[l4];simp[l1];omega) (q2A _)
  rw[this,hA2]
 have HF:=hZq (And.intro l2 (And.intro l3 (And.intro hGn hGm)))
 have HG2:=hZq hg2
 have mixed:Tryz.prog.follows .mixedOrders=true:=by kernel_rfl
 have hz2: ¬ ((i:Int)=(n:Int)):=by omega
 have hz3:(c:Int)<(n:Int)+1:=by omega
 have hGi: ¬ (G=i):=by omega
 have hGim: ¬ (G=i+1):=by omega
 have hci: ¬ (c=i):=by omega
 have hw1:IntKind.i64.wrap ((i:Int)+1)=(i:Int)+1:=by rw[IntKind.wrap_i64];omega
 have hb1:(0:Int)<=(i:Int)+1:=by omega
 have hin:i<=n:=by omega
 have htn:((i:Int)+1).toNat=i+1:=by omega
 have hb3:(i:Int)<=(n:Int):=by omega
 have hb5:(i:Int)<=(n:Int)+1:=by omega
 clear hA1 hA2 l1 l2 l3 l4 hg2 hgo hG hZ hR hRl hZl hkk hik hold hx hXl hv hg hz0 hzs hzb hi0
 go_enter Tryz.func202,Tryz.ntmps202
 go_wp2_with (at_builtin;refine Lib.wpList_append_run _ rfl _ _ _ _ rfl _ _ rfl rfl _ _ (hrz _) ?_)
 rw[hcpA (w.alloc (.cells R.toArray 178)).drew rfl]
 simp only[Result.andThen_ok]
 rw[Oper.upon_value]
 go_wp2
 go_region_law_o (refine step_copy_runI rfl _ _ 86 86 rfl (.slice (some ⟨w.heap.size,(i+1) * 5,none⟩) (n-i) (G-(i+1))) (.slice (some ⟨g,i * 5,none⟩) (n-i) (c-i)) (by simp[Act.eval,Act.put]) (by simp[Act.eval,Act.put]) (hcpB ((w.alloc (.cells R.toArray 178)).drew.setRow w.heap.size A1.toArray).drew rfl 3 (G-(i+1)) (c-i)) ?_)
 go_wp2
 go_ret
 obtain ⟨l2,l3,q1,q2⟩:=uQ HF
 refine ⟨G,A2.toArray,rfl,setRow_heap _ _ A1.toArray _ _ _ (uQ HG2 _ rfl),q1,q2,by simpa using l2,?_,?_⟩
 ·rw[List.flatMap_append,List.flatMap_cons, <-q2a ptE 5 q0T]
  exact l3
 ·exact ((((Kp.alloc w _).trans (Kp.drew _) (by simp)).trans (Kp.setRow _ _ _) (by simp)).trans (Kp.drew _) (by simp)).trans (Kp.setRow _ _ _) (by simp)
theorem q8x (B:Nat)(v:Value)(xs:List Pt)(p:Pt)(vb vc:Nat)(w:World)(hown:w.ownsRow B 178 5 v xs.length (xs.flatMap ptE))(hbig:xs.length<=100000000)(hv:CBox vb (ptE p).toArray 178 w)(hB:B<=w.heap.size):
  Calls Tryz.prog 202 #[v, .int .i64 (xs.length:Int), .slice (some ⟨vb,0,none⟩) 1 vc] w fun e w'=> ∃v',e= .returned v'/\w'.ownsRow B 178 5 v' (xs.length+1) ((xs++[p]).flatMap ptE)/\Kp v.ownBlock.toList w w':=by
 obtain ⟨i0,hi0,hz0,hzs,hzb⟩:=q3l
 obtain ⟨g,cap,w',hr,r1,r2,_,_⟩:=run_append_lies (P:=Tryz.prog) (w:=w) 86 86 B 178 i0 _ 5 56 Tryz.underlying86 hi0 hz0 hzs hzb rfl (by decide) v xs.length _ hown ⟨vb,0,none⟩ 1 vc (ptE p) rfl (fun j u hj=>by
  rw[Addr.add_lit]
  exact hv.cell (i:=0+j) (by rw[Nat.zero_add];simpa using hj)) (fun u hu=>q2A [p] u (by simpa using hu)) (by decide) (by unfold maxLen;omega) (by omega) hB _ rfl
 have HE:Hid (w'.ownsRow B 178 5 (.slice (some ⟨g,0,none⟩) (xs.length+1) cap) (xs.length+1) ((xs++[p]).flatMap ptE)/\Kp v.ownBlock.toList w w'):=hZq ⟨by rw[List.flatMap_append];simpa using r1,Kp.of r2⟩
 have hform:v= .slice none 0 0/\xs.length=0\/ ∃g cap,v= .slice (some ⟨g,0,none⟩) xs.length cap/\xs.length<=cap/\cap<=9223372036854775807:=by
  obtain ⟨_,⟨e,h0⟩|⟨g,cap,cur,e,_,_,h5,h6,_⟩⟩:=hown
  ·exact Or.inl ⟨e,h0⟩
  ·exact Or.inr ⟨g,cap,e,h5,by unfold maxLen at h6;omega⟩
 clear r1 r2 hown hv hi0 hz0 hzs hzb
 generalize xs.length=n at *
 generalize (xs++[p]).flatMap ptE=Y at *
 generalize v.ownBlock.toList=F at *
 rcases hform with ⟨rfl,rfl⟩|⟨g0,c0,rfl,h5,h6⟩
 ·go_enter Tryz.func202,Tryz.ntmps202
  go_wp2_with (at_builtin;refine Lib.wpList_append_run _ rfl _ _ _ _ rfl _ _ rfl rfl _ _ hr ?_)
  go_ret
  exact ⟨_,rfl,uQ HE⟩
 ·go_enter Tryz.func202,Tryz.ntmps202
  go_wp2_with (at_builtin;refine Lib.wpList_append_run _ rfl _ _ _ _ rfl _ _ rfl rfl _ _ hr ?_)
  all_goals (go_ret;exact ⟨_,rfl,uQ HE⟩)
theorem q8w (B:Nat)(v:Value)(xs:List Pt)(i:Nat)(p:Pt)(vb vc:Nat)(w:World)(hown:w.ownsRow B 178 5 v xs.length (xs.flatMap ptE))(hi:i<=xs.length)(hbig:xs.length<=100000000)(hv:CBox vb (ptE p).toArray 178 w)(hne:v.ownBlock≠some vb)(hB:B<=w.heap.size):
  Calls Tryz.prog 202 #[v, .int .i64 (i:Int), .slice (some ⟨vb,0,none⟩) 1 vc] w fun e w'=> ∃v',e= .returned v'/\w'.ownsRow B 178 5 v' (xs.length+1) ((xs.take i++p::xs.drop i).flatMap ptE)/\Kp v.ownBlock.toList w w':=by
 rcases Nat.lt_or_ge i xs.length with h|h
 ·have hl:((xs.take i++p::xs.drop i).flatMap ptE).length=(xs.length+1) * 5:=by
   rw[q1Y ptE 5 q0T]
   simp
   omega
  obtain ⟨_,⟨_,h0⟩|⟨g,cap,cur,rfl,h3,h4,h5,h6,h7,h8⟩⟩:=hown
  ·omega
  ·rcases Nat.lt_or_ge xs.length cap with hr|hr
   ·refine (q5W g xs.length cap i vb vc cur xs p w rfl h hr h6 h4 h7 h8 hv (fun e=>hne (by rw[e];rfl))).mono ?_
    rintro e w' ⟨rfl,cur',rfl,q1,q2⟩
    exact ⟨_,rfl,⟨hl,Or.inr ⟨g,cap,cur',rfl,h3,setRow_heap _ _ cur _ _ _ h4,hr,h6,q1,q2⟩⟩,((Kp.drew w).mono (by simp)).trans (Kp.setRow _ _ _) (by simp[Value.ownBlock])⟩
   ·refine (q74 g xs.length cap i vb vc cur xs p w rfl h h5 (by omega) hbig h4 h8 hv).mono ?_
    rintro e w' ⟨G,cur',rfl,q0,q1,q2,q3,q4,q5⟩
    exact ⟨_,rfl,⟨hl,Or.inr ⟨w.heap.size,G,cur',rfl,hB,q0,q1,q2,q3,q4⟩⟩,q5.mono (by simp)⟩
 ·obtain rfl:i=xs.length:=by omega
  rw[List.take_of_length_le (zM _),List.drop_eq_nil_of_le (zM _)]
  exact q8x B v xs p vb vc w hown hbig hv hB
end Go.Proofs.YtfgkikeeadlcfaaGreatDoor
