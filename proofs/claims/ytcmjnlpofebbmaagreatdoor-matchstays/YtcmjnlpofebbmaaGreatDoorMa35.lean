/-
  Walks and plain facts, made small.
-/
import Derived.Test.YtcmjnlpofebbmaaGreatDoorMa34
set_option maxRecDepth 100000
set_option maxHeartbeats 8000000
set_option linter.unusedSimpArgs false
namespace Go.Proofs.YtcmjnlpofebbmaaGreatDoor
open Go.RowKit Go.Shelf
def fnF (P:Mt.Pm)(wi x:Nat):List (List (List Nat)):=if P.H 0 [] x=true then Mt.all P (min (x+wi) P.len) [[x]] else []
def fnK (P:Mt.Pm)(wi k:Nat):List (List (List Nat)):=(List.range k).reverse.flatMap (fnF P wi)
theorem qcu (P:Mt.Pm)(wi:Nat):Mt.fnd P wi=fnK P wi P.len:=Mt.fnd_all P wi
theorem qaD (P:Mt.Pm)(wi k:Nat):fnK P wi (k+1)=fnF P wi k++fnK P wi k:=by
 unfold fnK
 rw[List.range_succ,List.reverse_append]
 rfl
def AllE (c:SC)(w:World)(e:Ending)(w':World):Prop:=(∃v,e= .returned v)/\ ∃go ys en,St c go [] en ys w'/\KT w w'/\PrT go ys (Mt.fnd c.x.k.P c.x.W)
structure AlS (c:SC)(w:World)(k:Nat)(ys:List Cp)(en:Nat)(pv lv:Value)(vs:List Value)(D:List (Option Nat))(wr:World):Prop where
 st:StE c true [] en ys.length ys pv lv vs D wr
 dd:(∀q b:Nat,D[q]?≠some (some b))\/(en=min (k+c.x.W) c.x.k.es.length)
 kt:KT w wr
 pr:Mt.fnd c.x.k.P c.x.W=ys.map (·.T)++fnK c.x.k.P c.x.W k
theorem AlS.cells {c:SC}(hI:ScI c){k:Nat}{ys:List Cp}{en:Nat}{pv lv:Value}{vs:List Value}{D:List (Option Nat)}{wr:World}(h:StE c true [] en k ys pv lv vs D wr):wr.cell? ⟨c.gs,0,none⟩=some (.pointer (some ⟨c.x.k.gt,0,none⟩))/\wr.cell? ⟨c.x.k.gt,1,none⟩=some (.int .i64 (c.x.W:Int))/\wr.cell? ⟨c.x.k.gt,2,none⟩=some (.slice c.x.k.ea c.x.k.es.length c.x.k.ec)/\wr.cell? ⟨c.gs,4,none⟩=some (.int .i64 (en:Int))/\wr.cell? ⟨c.gs,3,none⟩=some (.slice (some ⟨c.gd,0,none⟩) c.x.k.es.length c.x.k.es.length)/\wr.cell? ⟨c.gs,1,none⟩=some (.pointer (some ⟨c.x.gx,0,none⟩)):=by
 refine ⟨h.bx.cell rfl,?_,h.hk.box.cell rfl,h.bx.cell rfl,h.bx.cell rfl,h.bx.cell rfl⟩
 rw[<-hI.hX.wi]
 exact h.hk.box.cell rfl
theorem qbY (c:SC)(hI:ScI c)(l:Nat)(hY:Ylds c l)(hN:0<c.x.k.l.length)(hW:c.x.W<=100000000000)(pv lv:Value)(vs:List Value)(D:List (Option Nat))(w:World)(h:StE c true [] 0 0 [] pv lv vs D w)(hD: ∀q b:Nat,D[q]?≠some (some b)):
  Calls Tryz.prog 26 #[.pointer (some ⟨c.gs,0,none⟩), .func (.yield l) #[] #[]] w (AllE c w):=by
 have hel:=hI.hX.hI.el
 have hw1:=hI.w1
 obtain ⟨a0,a1,a2, -⟩:=AlS.cells hI h
 have H0:Hid (∃ys en pv lv vs D,AlS c w c.x.k.es.length ys en pv lv vs D w):=hZq ⟨[],0,pv,lv,vs,D,h,Or.inl hD,KT.refl _,qcu _ _⟩
 have HIN:=hZq (fun (q:Nat) (hq:q<c.x.k.es.length)=>q8g c hI l hY (min (q+c.x.W) c.x.k.es.length) q (by omega) (by omega) (by omega) hN)
 have HAK:=hZq (fun (go:Bool) (en:Nat) (ys:List Cp) (W:World) (hs:St c go [] en ys W) (q:Nat) (hq:q<c.x.k.es.length)=>hs.ask0 hI hN hq)
 have HI:=hZq hI
 have HCE:=hZq (fun (k en:Nat) (ys:List Cp) (pv lv:Value) (vs:List Value) (D:List (Option Nat)) (wr:World) (h:StE c true [] en k ys pv lv vs D wr)=>AlS.cells hI h)
 clear hI hY h hD
 obtain ⟨EL,hEL⟩: ∃EL,c.x.k.es.length=EL:=⟨_,rfl⟩
 obtain ⟨WI,hWI⟩: ∃WI,c.x.W=WI:=⟨_,rfl⟩
 rw[hEL]at hel a2
 rw[hWI]at hw1 hW a1
 have HEL:=hZq hEL
 have HWI:=hZq hWI
 clear hEL hWI
 have hlw:IntKind.i64.wrap ((EL:Int)-1)=(EL:Int)-1:=by simp only[IntKind.wrap_i64];omega
 go_enter Tryz.func26,Tryz.ntmps26
 go_wp2_with fail
 go_loopw [4] (fun fv wr=> ∃k:Nat,k<=EL/\fv= .int .i64 ((k:Int)-1)/\Hid (∃ys en pv lv vs D,AlS c w k ys en pv lv vs D wr)) (fun fv _=>(intOf fv+1).toNat)
 case atStart=>exact ⟨EL,Nat.le_refl _,rfl,by rw[uQ HEL]at H0;exact H0⟩
 case round=>
  obtain ⟨k,hk,rfl,HR⟩:=hrel
  clear H0 a0 a1 a2
  obtain ⟨ys,en,pv,lv,vs,D,hA⟩:=uQ HR
  clear HR
  cases k with
  |zero=>
   have HF:Hid (∃go ys en,St c go [] en ys wr/\KT w wr/\PrT go ys (Mt.fnd c.x.k.P c.x.W)):=hZq ⟨true,ys,en,⟨pv,lv,vs,D,hA.st⟩,hA.kt,Or.inl ⟨rfl,by rw[hA.pr];exact (List.append_nil _).symm⟩⟩
   have hz: ¬ (0:Int)<=((0:Nat):Int)-1:=by omega
   clear hA HIN HAK HCE
   go_wp2
   go_end0
   exact ⟨⟨_,rfl⟩,uQ HF⟩
  |succ k=>
   have e1:((k+1:Nat):Int)-1=(k:Int):=by omega
   rw[e1]
   have hki:(0:Int)<=(k:Int):=by omega
   have hkw:IntKind.i64.wrap ((k:Int)+(WI:Int))=(k:Int)+(WI:Int):=by simp only[IntKind.wrap_i64];omega
   obtain ⟨V,hV⟩: ∃V,V=wr.drew:=⟨_,rfl⟩
   have kV:Kp [] wr V:=by rw[hV];exact Kp.drew _
   have hSV:=hA.st.al (uQ HI) kV
   obtain ⟨b0,b1,b2,b4,b3, -⟩:=uQ HCE _ _ _ _ _ _ _ _ hSV
   rw[uQ HEL]at b2 b3
   rw[uQ HWI]at b1
   obtain ⟨E,hE⟩: ∃E,E=min (k+WI) EL:=⟨_,rfl⟩
   have hmin:min ((k:Int)+(WI:Int)) (EL:Int)=(E:Int):=by omega
   obtain ⟨hS4,kt4⟩:=hSV.fall (uQ HI) (en':=E) (hA.dd.imp id (fun e=>by rw[uQ HEL,uQ HWI]at e;rw[uQ HEL];omega))
   have HE:=hZq hE
   have hEk:k<E:=by omega
   have hEL2:E<=EL:=by omega
   clear hE
   obtain ⟨d0,d1,d2,d4,d3,dx⟩:=uQ HCE _ _ _ _ _ _ _ _ hS4
   rw[uQ HEL]at d2 d3
   rw[uQ HWI]at d1
   have f4:=hSV.bx.froz 4
   have HS3:=And.intro d0 (And.intro d1 d2)
   have HS4:=hZq hS4
   go_upto_region 3 with fail
   refine wp_region_held_drew (S:=fun W=>W.cell? ⟨c.gs,0,none⟩=some (.pointer (some ⟨c.x.k.gt,0,none⟩))/\W.cell? ⟨c.x.k.gt,1,none⟩=some (.int .i64 (WI:Int))/\W.cell? ⟨c.x.k.gt,2,none⟩=some (.slice c.x.k.ea EL c.x.k.ec)) (by kernel_rfl) (by rw[<-hV];exact ⟨b0,b1,b2⟩) (fun hHeld=>?_)
   rw[<-hV]at hHeld ⊢
   clear hV
   show wpAnyH _ _ _ _ _ 23 (Array.replicate 23 false) _ _
   refine wpAnyH_take (i:=0) (oi:=⟨some 18,Op.move (.tmp 0),70,"search.go:50",#[],none⟩) (v:=?_) rfl (by kernel_rfl) (by kernel_rfl) (by kernel_rfl) (fun _ _ _ h=>h) (Or.inl ⟨by rfl,?_⟩) (by assumption) ?_
   rotate_left 1
   ·intro w0 hSw
    (try dsimp only at hSw)
    go_simp
    (try with_reducible rfl)
   try simp only[Act.put,zz1,zz2,zz3]
   refine wpAnyH_take (i:=1) (oi:=⟨some 19,Op.move (.tmp 4),3,"search.go:50",#[],none⟩) (v:=?_) rfl (by kernel_rfl) (by kernel_rfl) (by kernel_rfl) (fun _ _ _ h=>h) (Or.inl ⟨by rfl,?_⟩) (by assumption) ?_
   rotate_left 1
   ·intro w0 hSw
    (try dsimp only at hSw)
    go_simp
    (try with_reducible rfl)
   try simp only[Act.put,zz1,zz2,zz3]
   refine wpAnyH_take (i:=2) (oi:=⟨some 20,Op.move (.tmp 0),70,"search.go:50",#[],none⟩) (v:=?_) rfl (by kernel_rfl) (by kernel_rfl) (by kernel_rfl) (fun _ _ _ h=>h) (Or.inl ⟨by rfl,?_⟩) (by assumption) ?_
   rotate_left 1
   ·intro w0 hSw
    (try dsimp only at hSw)
    go_simp
    (try with_reducible rfl)
   try simp only[Act.put,zz1,zz2,zz3]
   refine wpAnyH_take (i:=3) (oi:=⟨some 21,Op.nilCheck (.tmp 20),0,"search.go:50",#[⟨2, .data⟩],none⟩) (v:=?_) rfl (by kernel_rfl) (by kernel_rfl) (by kernel_rfl) (fun _ _ _ h=>h) (Or.inl ⟨by rfl,?_⟩) (by assumption) ?_
   rotate_left 1
   ·intro w0 hSw
    (try dsimp only at hSw)
    go_simp
    (try with_reducible rfl)
   try simp only[Act.put,zz1,zz2,zz3]
   refine wpAnyH_take (i:=4) (oi:=⟨some 22,Op.fieldAddr 97 (.tmp 21) 0,0,"search.go:50",#[⟨3, .data⟩],none⟩) (v:=?_) rfl (by kernel_rfl) (by kernel_rfl) (by kernel_rfl) (fun _ _ _ h=>h) (Or.inl ⟨by rfl,?_⟩) (by assumption) ?_
   rotate_left 1
   ·intro w0 hSw
    (try dsimp only at hSw)
    go_simp
    (try with_reducible rfl)
   try simp only[Act.put,zz1,zz2,zz3]
   refine wpAnyH_take (i:=5) (oi:=⟨some 23,Op.load 89 (.tmp 22),89,"search.go:50",#[⟨4, .data⟩],none⟩) (v:=?_) rfl (by kernel_rfl) (by kernel_rfl) (by kernel_rfl) (fun _ _ _ h=>h) (Or.inl ⟨by rfl,?_⟩) (by assumption) ?_
   rotate_left 1
   ·intro w0 hSw
    (try dsimp only at hSw)
    go_simp
    (try with_reducible rfl)
   try simp only[Act.put,zz1,zz2,zz3]
   refine wpAnyH_take (i:=6) (oi:=⟨some 24,Op.nilCheck (.tmp 23),0,"search.go:50",#[⟨5, .data⟩],none⟩) (v:=?_) rfl (by kernel_rfl) (by kernel_rfl) (by kernel_rfl) (fun _ _ _ h=>h) (Or.inl ⟨by rfl,?_⟩) (by assumption) ?_
   rotate_left 1
   ·intro w0 hSw
    (try dsimp only at hSw)
    go_simp
    (try with_reducible rfl)
   try simp only[Act.put,zz1,zz2,zz3]
   refine wpAnyH_take (i:=7) (oi:=⟨some 25,Op.fieldAddr 99 (.tmp 24) 0,0,"search.go:50",#[⟨6, .data⟩],none⟩) (v:=?_) rfl (by kernel_rfl) (by kernel_rfl) (by kernel_rfl) (fun _ _ _ h=>h) (Or.inl ⟨by rfl,?_⟩) (by assumption) ?_
   rotate_left 1
   ·intro w0 hSw
    (try dsimp only at hSw)
    go_simp
    (try with_reducible rfl)
   try simp only[Act.put,zz1,zz2,zz3]
   refine wpAnyH_take (i:=8) (oi:=⟨some 26,Op.fieldAddr 24 (.tmp 25) 1,0,"search.go:50",#[⟨7, .data⟩],none⟩) (v:=?_) rfl (by kernel_rfl) (by kernel_rfl) (by kernel_rfl) (fun _ _ _ h=>h) (Or.inl ⟨by rfl,?_⟩) (by assumption) ?_
   rotate_left 1
   ·intro w0 hSw
    (try dsimp only at hSw)
    go_simp
    (try with_reducible rfl)
   try simp only[Act.put,zz1,zz2,zz3]
   refine wpAnyH_take (i:=9) (oi:=⟨some 27,Op.load 3 (.tmp 26),3,"search.go:50",#[⟨8, .data⟩],none⟩) (v:=?_) rfl (by kernel_rfl) (by kernel_rfl) (by kernel_rfl) (fun _ _ _ h=>h) (Or.inl ⟨by rfl,?_⟩) (by assumption) ?_
   rotate_left 1
   ·intro w0 hSw
    (try dsimp only at hSw)
    go_simp
    (try with_reducible rfl)
   try simp only[Act.put,zz1,zz2,zz3]
   refine wpAnyH_take (i:=10) (oi:=⟨some 28,Op.binOp BinOp.add 3 (.tmp 19) (.tmp 27) 3,3,"search.go:50",#[⟨1, .data⟩,⟨9, .data⟩],none⟩) (v:=?_) rfl (by kernel_rfl) (by kernel_rfl) (by kernel_rfl) (fun _ _ _ h=>h) (Or.inl ⟨by rfl,?_⟩) (by assumption) ?_
   rotate_left 1
   ·intro w0 hSw
    (try dsimp only at hSw)
    go_simp
    (try with_reducible rfl)
   try simp only[Act.put,zz1,zz2,zz3]
   refine wpAnyH_take (i:=11) (oi:=⟨some 29,Op.move (.tmp 0),70,"search.go:50",#[],none⟩) (v:=?_) rfl (by kernel_rfl) (by kernel_rfl) (by kernel_rfl) (fun _ _ _ h=>h) (Or.inl ⟨by rfl,?_⟩) (by assumption) ?_
   rotate_left 1
   ·intro w0 hSw
    (try dsimp only at hSw)
    go_simp
    (try with_reducible rfl)
   try simp only[Act.put,zz1,zz2,zz3]
   refine wpAnyH_take (i:=12) (oi:=⟨some 30,Op.nilCheck (.tmp 29),0,"search.go:50",#[⟨11, .data⟩],none⟩) (v:=?_) rfl (by kernel_rfl) (by kernel_rfl) (by kernel_rfl) (fun _ _ _ h=>h) (Or.inl ⟨by rfl,?_⟩) (by assumption) ?_
   rotate_left 1
   ·intro w0 hSw
    (try dsimp only at hSw)
    go_simp
    (try with_reducible rfl)
   try simp only[Act.put,zz1,zz2,zz3]
   refine wpAnyH_take (i:=13) (oi:=⟨some 31,Op.fieldAddr 97 (.tmp 30) 0,0,"search.go:50",#[⟨12, .data⟩],none⟩) (v:=?_) rfl (by kernel_rfl) (by kernel_rfl) (by kernel_rfl) (fun _ _ _ h=>h) (Or.inl ⟨by rfl,?_⟩) (by assumption) ?_
   rotate_left 1
   ·intro w0 hSw
    (try dsimp only at hSw)
    go_simp
    (try with_reducible rfl)
   try simp only[Act.put,zz1,zz2,zz3]
   refine wpAnyH_take (i:=14) (oi:=⟨some 32,Op.load 89 (.tmp 31),89,"search.go:50",#[⟨13, .data⟩],none⟩) (v:=?_) rfl (by kernel_rfl) (by kernel_rfl) (by kernel_rfl) (fun _ _ _ h=>h) (Or.inl ⟨by rfl,?_⟩) (by assumption) ?_
   rotate_left 1
   ·intro w0 hSw
    (try dsimp only at hSw)
    go_simp
    (try with_reducible rfl)
   try simp only[Act.put,zz1,zz2,zz3]
   refine wpAnyH_take (i:=15) (oi:=⟨some 33,Op.nilCheck (.tmp 32),0,"search.go:50",#[⟨14, .data⟩],none⟩) (v:=?_) rfl (by kernel_rfl) (by kernel_rfl) (by kernel_rfl) (fun _ _ _ h=>h) (Or.inl ⟨by rfl,?_⟩) (by assumption) ?_
   rotate_left 1
   ·intro w0 hSw
    (try dsimp only at hSw)
    go_simp
    (try with_reducible rfl)
   try simp only[Act.put,zz1,zz2,zz3]
   refine wpAnyH_take (i:=16) (oi:=⟨some 34,Op.fieldAddr 99 (.tmp 33) 1,0,"search.go:50",#[⟨15, .data⟩],none⟩) (v:=?_) rfl (by kernel_rfl) (by kernel_rfl) (by kernel_rfl) (fun _ _ _ h=>h) (Or.inl ⟨by rfl,?_⟩) (by assumption) ?_
   rotate_left 1
   ·intro w0 hSw
    (try dsimp only at hSw)
    go_simp
    (try with_reducible rfl)
   try simp only[Act.put,zz1,zz2,zz3]
   refine wpAnyH_take (i:=17) (oi:=⟨some 35,Op.load 25 (.tmp 34),25,"search.go:50",#[⟨16, .data⟩],none⟩) (v:=?_) rfl (by kernel_rfl) (by kernel_rfl) (by kernel_rfl) (fun _ _ _ h=>h) (Or.inl ⟨by rfl,?_⟩) (by assumption) ?_
   rotate_left 1
   ·intro w0 hSw
    (try dsimp only at hSw)
    go_simp
    (try with_reducible rfl)
   try simp only[Act.put,zz1,zz2,zz3]
   refine wpAnyH_take (i:=18) (oi:=⟨some 36,Op.call { callee:= .builtin Builtin.len,args:=#[.tmp 35],argTypes:=#[25] },3,"search.go:50",#[⟨17, .data⟩],none⟩) (v:=?_) rfl (by kernel_rfl) (by kernel_rfl) (by kernel_rfl) (fun _ _ _ h=>h) (Or.inl ⟨by rfl,?_⟩) (by assumption) ?_
   rotate_left 1
   ·intro w0 hSw
    (try dsimp only at hSw)
    go_simp
    (try with_reducible rfl)
   try simp only[Act.put,zz1,zz2,zz3]
   refine wpAnyH_take (i:=19) (oi:=⟨some 37,Op.call { callee:= .builtin Builtin.min,args:=#[.tmp 28, .tmp 36],argTypes:=#[3,3] },3,"search.go:50",#[⟨10, .data⟩,⟨18, .data⟩],none⟩) (v:=?_) rfl (by kernel_rfl) (by kernel_rfl) (by kernel_rfl) (fun _ _ _ h=>h) (Or.inl ⟨by rfl,?_⟩) (by assumption) ?_
   rotate_left 1
   ·intro w0 hSw
    (try dsimp only at hSw)
    go_simp
    (try with_reducible rfl)
   try simp only[Act.put,zz1,zz2,zz3]
   refine wpAnyH_take (i:=20) (oi:=⟨some 38,Op.nilCheck (.tmp 18),0,"search.go:50",#[⟨0, .data⟩,⟨0, .phase⟩,⟨1, .phase⟩,⟨2, .phase⟩,⟨3, .phase⟩,⟨4, .phase⟩,⟨5, .phase⟩,⟨6, .phase⟩,⟨7, .phase⟩,⟨8, .phase⟩,⟨9, .phase⟩,⟨10, .phase⟩,⟨11, .phase⟩,⟨12, .phase⟩,⟨13, .phase⟩,⟨14, .phase⟩,⟨15, .phase⟩,⟨16, .phase⟩,⟨17, .phase⟩,⟨18, .phase⟩,⟨19, .phase⟩],none⟩) (v:=?_) rfl (by kernel_rfl) (by kernel_rfl) (by kernel_rfl) (fun _ _ _ h=>h) (Or.inl ⟨by rfl,?_⟩) (by assumption) ?_
   rotate_left 1
   ·intro w0 hSw
    (try dsimp only at hSw)
    go_simp
    (try with_reducible rfl)
   try simp only[Act.put,zz1,zz2,zz3]
   refine wpAnyH_take (i:=21) (oi:=⟨some 39,Op.fieldAddr 97 (.tmp 38) 4,0,"search.go:50",#[⟨20, .data⟩,⟨0, .phase⟩,⟨1, .phase⟩,⟨2, .phase⟩,⟨3, .phase⟩,⟨4, .phase⟩,⟨5, .phase⟩,⟨6, .phase⟩,⟨7, .phase⟩,⟨8, .phase⟩,⟨9, .phase⟩,⟨10, .phase⟩,⟨11, .phase⟩,⟨12, .phase⟩,⟨13, .phase⟩,⟨14, .phase⟩,⟨15, .phase⟩,⟨16, .phase⟩,⟨17, .phase⟩,⟨18, .phase⟩,⟨19, .phase⟩],none⟩) (v:=?_) rfl (by kernel_rfl) (by kernel_rfl) (by kernel_rfl) (fun _ _ _ h=>h) (Or.inl ⟨by rfl,?_⟩) (by assumption) ?_
   rotate_left 1
   ·intro w0 hSw
    (try dsimp only at hSw)
    go_simp
    (try with_reducible rfl)
   try simp only[Act.put,zz1,zz2,zz3]
   refine wpAnyH_ready (rs:=[22]) (by kernel_rfl) (by simp) ?_
   refine AllReadyH.cons (o:=⟨none,Op.store 3 (.tmp 39) (.tmp 37),0,"search.go:50",#[⟨21, .data⟩,⟨19, .data⟩,⟨0, .phase⟩,⟨1, .phase⟩,⟨2, .phase⟩,⟨3, .phase⟩,⟨4, .phase⟩,⟨5, .phase⟩,⟨6, .phase⟩,⟨7, .phase⟩,⟨8, .phase⟩,⟨9, .phase⟩,⟨10, .phase⟩,⟨11, .phase⟩,⟨12, .phase⟩,⟨13, .phase⟩,⟨14, .phase⟩,⟨15, .phase⟩,⟨16, .phase⟩,⟨17, .phase⟩,⟨18, .phase⟩,⟨19, .phase⟩],none⟩) rfl (fun K hK=>?_) AllReadyH.nil
   go_simp
   skip
   refine hK.out _ _ ?_ (fun hHeld=>?_)
   ·exact HS3
   clear hK K
   try simp only[Act.put,zz1,zz2,zz3]
   refine wpAnyH_done (by kernel_rfl) ?_ _
   obtain ⟨W4,hW4⟩: ∃W4,W4=V.setCell ⟨c.gs,4,none⟩ (.int .i64 (E:Int)):=⟨_,rfl⟩
   rw[<-hW4]at HS4 kt4 ⊢
   have HA:=hZq hA
   have HKR:Hid (KT wr W4):=hZq ((KT.own kV (by simp)).trans kt4)
   clear hW4 hS4 kt4 hSV kV HS3 b0 b1 b2 b3 b4 d0 d1 d2 d3 d4 dx f4 hA hHeld hmin
   obtain ⟨V5,hV5⟩: ∃V5,V5=W4.drew:=⟨_,rfl⟩
   have k5:Kp [] W4 V5:=by rw[hV5];exact Kp.drew _
   have hS5:=(uQ HS4).al (uQ HI) k5
   obtain ⟨b0,b1,b2,b4,b3, -⟩:=uQ HCE _ _ _ _ _ _ _ _ hS5
   rw[uQ HEL]at b2 b3
   have HK5:Hid (KT wr V5):=hZq ((uQ HKR).trans (KT.own k5 (by simp)))
   have HS5:=hZq hS5
   clear HS4 HKR k5
   go_upto_region 4 with fail
   refine wp_region_held_drew (S:=fun W=>W.cell? ⟨c.gs,0,none⟩=some (.pointer (some ⟨c.x.k.gt,0,none⟩))/\W.cell? ⟨c.gs,4,none⟩=some (.int .i64 (E:Int))/\W.cell? ⟨c.x.k.gt,2,none⟩=some (.slice c.x.k.ea EL c.x.k.ec)) (by kernel_rfl) (by rw[<-hV5];exact ⟨b0,b4,b2⟩) (fun hHeld=>?_)
   rw[<-hV5]at hHeld ⊢
   clear hV5
   show wpAnyH _ _ _ _ _ 13 (Array.replicate 13 false) _ _
   refine wpAnyH_take (i:=0) (oi:=⟨some 40,Op.move (.tmp 0),70,"search.go:51",#[],none⟩) (v:=?_) rfl (by kernel_rfl) (by kernel_rfl) (by kernel_rfl) (fun _ _ _ h=>h) (Or.inl ⟨by rfl,?_⟩) (by assumption) ?_
   rotate_left 1
   ·intro w0 hSw
    (try dsimp only at hSw)
    go_simp
    (try with_reducible rfl)
   try simp only[Act.put,zz1,zz2,zz3]
   refine wpAnyH_take (i:=1) (oi:=⟨some 41,Op.nilCheck (.tmp 40),0,"search.go:51",#[⟨0, .data⟩],none⟩) (v:=?_) rfl (by kernel_rfl) (by kernel_rfl) (by kernel_rfl) (fun _ _ _ h=>h) (Or.inl ⟨by rfl,?_⟩) (by assumption) ?_
   rotate_left 1
   ·intro w0 hSw
    (try dsimp only at hSw)
    go_simp
    (try with_reducible rfl)
   try simp only[Act.put,zz1,zz2,zz3]
   refine wpAnyH_take (i:=2) (oi:=⟨some 42,Op.fieldAddr 97 (.tmp 41) 4,0,"search.go:51",#[⟨1, .data⟩],none⟩) (v:=?_) rfl (by kernel_rfl) (by kernel_rfl) (by kernel_rfl) (fun _ _ _ h=>h) (Or.inl ⟨by rfl,?_⟩) (by assumption) ?_
   rotate_left 1
   ·intro w0 hSw
    (try dsimp only at hSw)
    go_simp
    (try with_reducible rfl)
   try simp only[Act.put,zz1,zz2,zz3]
   refine wpAnyH_take (i:=3) (oi:=⟨some 43,Op.load 3 (.tmp 42),3,"search.go:51",#[⟨2, .data⟩],none⟩) (v:=?_) rfl (by kernel_rfl) (by kernel_rfl) (by kernel_rfl) (fun _ _ _ h=>h) (Or.inl ⟨by rfl,?_⟩) (by assumption) ?_
   rotate_left 1
   ·intro w0 hSw
    (try dsimp only at hSw)
    go_simp
    (try with_reducible rfl)
   try simp only[Act.put,zz1,zz2,zz3]
   refine wpAnyH_take (i:=4) (oi:=⟨some 44,Op.move (.tmp 0),70,"search.go:51",#[],none⟩) (v:=?_) rfl (by kernel_rfl) (by kernel_rfl) (by kernel_rfl) (fun _ _ _ h=>h) (Or.inl ⟨by rfl,?_⟩) (by assumption) ?_
   rotate_left 1
   ·intro w0 hSw
    (try dsimp only at hSw)
    go_simp
    (try with_reducible rfl)
   try simp only[Act.put,zz1,zz2,zz3]
   refine wpAnyH_take (i:=5) (oi:=⟨some 45,Op.nilCheck (.tmp 44),0,"search.go:51",#[⟨4, .data⟩],none⟩) (v:=?_) rfl (by kernel_rfl) (by kernel_rfl) (by kernel_rfl) (fun _ _ _ h=>h) (Or.inl ⟨by rfl,?_⟩) (by assumption) ?_
   rotate_left 1
   ·intro w0 hSw
    (try dsimp only at hSw)
    go_simp
    (try with_reducible rfl)
   try simp only[Act.put,zz1,zz2,zz3]
   refine wpAnyH_take (i:=6) (oi:=⟨some 46,Op.fieldAddr 97 (.tmp 45) 0,0,"search.go:51",#[⟨5, .data⟩],none⟩) (v:=?_) rfl (by kernel_rfl) (by kernel_rfl) (by kernel_rfl) (fun _ _ _ h=>h) (Or.inl ⟨by rfl,?_⟩) (by assumption) ?_
   rotate_left 1
   ·intro w0 hSw
    (try dsimp only at hSw)
    go_simp
    (try with_reducible rfl)
   try simp only[Act.put,zz1,zz2,zz3]
   refine wpAnyH_take (i:=7) (oi:=⟨some 47,Op.load 89 (.tmp 46),89,"search.go:51",#[⟨6, .data⟩],none⟩) (v:=?_) rfl (by kernel_rfl) (by kernel_rfl) (by kernel_rfl) (fun _ _ _ h=>h) (Or.inl ⟨by rfl,?_⟩) (by assumption) ?_
   rotate_left 1
   ·intro w0 hSw
    (try dsimp only at hSw)
    go_simp
    (try with_reducible rfl)
   try simp only[Act.put,zz1,zz2,zz3]
   refine wpAnyH_take (i:=8) (oi:=⟨some 48,Op.nilCheck (.tmp 47),0,"search.go:51",#[⟨7, .data⟩],none⟩) (v:=?_) rfl (by kernel_rfl) (by kernel_rfl) (by kernel_rfl) (fun _ _ _ h=>h) (Or.inl ⟨by rfl,?_⟩) (by assumption) ?_
   rotate_left 1
   ·intro w0 hSw
    (try dsimp only at hSw)
    go_simp
    (try with_reducible rfl)
   try simp only[Act.put,zz1,zz2,zz3]
   refine wpAnyH_take (i:=9) (oi:=⟨some 49,Op.fieldAddr 99 (.tmp 48) 1,0,"search.go:51",#[⟨8, .data⟩],none⟩) (v:=?_) rfl (by kernel_rfl) (by kernel_rfl) (by kernel_rfl) (fun _ _ _ h=>h) (Or.inl ⟨by rfl,?_⟩) (by assumption) ?_
   rotate_left 1
   ·intro w0 hSw
    (try dsimp only at hSw)
    go_simp
    (try with_reducible rfl)
   try simp only[Act.put,zz1,zz2,zz3]
   refine wpAnyH_take (i:=10) (oi:=⟨some 50,Op.load 25 (.tmp 49),25,"search.go:51",#[⟨9, .data⟩],none⟩) (v:=?_) rfl (by kernel_rfl) (by kernel_rfl) (by kernel_rfl) (fun _ _ _ h=>h) (Or.inl ⟨by rfl,?_⟩) (by assumption) ?_
   rotate_left 1
   ·intro w0 hSw
    (try dsimp only at hSw)
    go_simp
    (try with_reducible rfl)
   try simp only[Act.put,zz1,zz2,zz3]
   refine wpAnyH_take (i:=11) (oi:=⟨some 51,Op.call { callee:= .builtin Builtin.len,args:=#[.tmp 50],argTypes:=#[25] },3,"search.go:51",#[⟨10, .data⟩],none⟩) (v:=?_) rfl (by kernel_rfl) (by kernel_rfl) (by kernel_rfl) (fun _ _ _ h=>h) (Or.inl ⟨by rfl,?_⟩) (by assumption) ?_
   rotate_left 1
   ·intro w0 hSw
    (try dsimp only at hSw)
    go_simp
    (try with_reducible rfl)
   try simp only[Act.put,zz1,zz2,zz3]
   refine wpAnyH_take (i:=12) (oi:=⟨some 52,Op.binOp BinOp.lss 3 (.tmp 43) (.tmp 51) 3,4,"search.go:51",#[⟨3, .data⟩,⟨11, .data⟩],none⟩) (v:=?_) rfl (by kernel_rfl) (by kernel_rfl) (by kernel_rfl) (fun _ _ _ h=>h) (Or.inl ⟨by rfl,?_⟩) (by assumption) ?_
   rotate_left 1
   ·intro w0 hSw
    (try dsimp only at hSw)
    go_simp
    (try with_reducible rfl)
   try simp only[Act.put,zz1,zz2,zz3]
   refine wpAnyH_done (by kernel_rfl) ?_ _
   clear hHeld b0 b1 b2 b3 b4
   go_upto_if 52 with fail
   go_cut [] (fun wc=> ∃D',Hid (StE c true [] E ys.length ys pv lv vs D' wc/\KT wr wc))
   case first=>
    by_cases hlt:E<EL
    ·have hli:(E:Int)<(EL:Int):=by omega
     obtain ⟨V6,hV6⟩: ∃V6,V6=V5.drew:=⟨_,rfl⟩
     have k6:Kp [] V5 V6:=by rw[hV6];exact Kp.drew _
     have hS6:=(uQ HS5).al (uQ HI) k6
     obtain ⟨b0,b1,b2,b4,b3, -⟩:=uQ HCE _ _ _ _ _ _ _ _ hS6
     rw[uQ HEL]at b3
     obtain ⟨hS7,kt7⟩:=hS6.drop (uQ HI) E
     obtain ⟨d0,d1,d2,d4,d3,dx⟩:=uQ HCE _ _ _ _ _ _ _ _ hS7
     rw[uQ HEL]at d3
     obtain ⟨o,ho⟩: ∃o,D[E]?=some o:=⟨_,List.getElem?_eq_getElem (by rw[hS6.dd.len,uQ HEL];exact hlt)⟩
     have fc:=hS6.dd.at ho
     have fz:=hS6.dd.row.froz E
     have HS5:=And.intro d3 d4
     have HF:Hid (StE c true [] E ys.length ys pv lv vs (D.set E none) (V6.setCell ⟨c.gd,E,none⟩ (.map none))/\KT wr (V6.setCell ⟨c.gd,E,none⟩ (.map none))):=hZq ⟨hS7,((uQ HK5).trans (KT.own k6 (by simp))).trans kt7⟩
     go_upto_region 5 with fail
     refine wp_region_held_drew (S:=fun W=>W.cell? ⟨c.gs,3,none⟩=some (.slice (some ⟨c.gd,0,none⟩) EL EL)/\W.cell? ⟨c.gs,4,none⟩=some (.int .i64 (E:Int))) (by kernel_rfl) (by rw[<-hV6];exact ⟨b3,b4⟩) (fun hHeld=>?_)
     rw[<-hV6]at hHeld ⊢
     clear hV6
     show wpAnyH _ _ _ _ _ 10 (Array.replicate 10 false) _ _
     refine wpAnyH_take (i:=0) (oi:=⟨some 53,Op.move (.tmp 0),70,"search.go:52",#[],none⟩) (v:=?_) rfl (by kernel_rfl) (by kernel_rfl) (by kernel_rfl) (fun _ _ _ h=>h) (Or.inl ⟨by rfl,?_⟩) (by assumption) ?_
     rotate_left 1
     ·intro w0 hSw
      (try dsimp only at hSw)
      go_simp
      (try with_reducible rfl)
     try simp only[Act.put,zz1,zz2,zz3]
     refine wpAnyH_take (i:=1) (oi:=⟨some 54,Op.nilCheck (.tmp 53),0,"search.go:52",#[⟨0, .data⟩],none⟩) (v:=?_) rfl (by kernel_rfl) (by kernel_rfl) (by kernel_rfl) (fun _ _ _ h=>h) (Or.inl ⟨by rfl,?_⟩) (by assumption) ?_
     rotate_left 1
     ·intro w0 hSw
      (try dsimp only at hSw)
      go_simp
      (try with_reducible rfl)
     try simp only[Act.put,zz1,zz2,zz3]
     refine wpAnyH_take (i:=2) (oi:=⟨some 55,Op.fieldAddr 97 (.tmp 54) 3,0,"search.go:52",#[⟨1, .data⟩],none⟩) (v:=?_) rfl (by kernel_rfl) (by kernel_rfl) (by kernel_rfl) (fun _ _ _ h=>h) (Or.inl ⟨by rfl,?_⟩) (by assumption) ?_
     rotate_left 1
     ·intro w0 hSw
      (try dsimp only at hSw)
      go_simp
      (try with_reducible rfl)
     try simp only[Act.put,zz1,zz2,zz3]
     refine wpAnyH_take (i:=3) (oi:=⟨some 56,Op.load 95 (.tmp 55),95,"search.go:52",#[⟨2, .data⟩],none⟩) (v:=?_) rfl (by kernel_rfl) (by kernel_rfl) (by kernel_rfl) (fun _ _ _ h=>h) (Or.inl ⟨by rfl,?_⟩) (by assumption) ?_
     rotate_left 1
     ·intro w0 hSw
      (try dsimp only at hSw)
      go_simp
      (try with_reducible rfl)
     try simp only[Act.put,zz1,zz2,zz3]
     refine wpAnyH_take (i:=4) (oi:=⟨some 57,Op.move (.tmp 0),70,"search.go:52",#[],none⟩) (v:=?_) rfl (by kernel_rfl) (by kernel_rfl) (by kernel_rfl) (fun _ _ _ h=>h) (Or.inl ⟨by rfl,?_⟩) (by assumption) ?_
     rotate_left 1
     ·intro w0 hSw
      (try dsimp only at hSw)
      go_simp
      (try with_reducible rfl)
     try simp only[Act.put,zz1,zz2,zz3]
     refine wpAnyH_take (i:=5) (oi:=⟨some 58,Op.nilCheck (.tmp 57),0,"search.go:52",#[⟨4, .data⟩],none⟩) (v:=?_) rfl (by kernel_rfl) (by kernel_rfl) (by kernel_rfl) (fun _ _ _ h=>h) (Or.inl ⟨by rfl,?_⟩) (by assumption) ?_
     rotate_left 1
     ·intro w0 hSw
      (try dsimp only at hSw)
      go_simp
      (try with_reducible rfl)
     try simp only[Act.put,zz1,zz2,zz3]
     refine wpAnyH_take (i:=6) (oi:=⟨some 59,Op.fieldAddr 97 (.tmp 58) 4,0,"search.go:52",#[⟨5, .data⟩],none⟩) (v:=?_) rfl (by kernel_rfl) (by kernel_rfl) (by kernel_rfl) (fun _ _ _ h=>h) (Or.inl ⟨by rfl,?_⟩) (by assumption) ?_
     rotate_left 1
     ·intro w0 hSw
      (try dsimp only at hSw)
      go_simp
      (try with_reducible rfl)
     try simp only[Act.put,zz1,zz2,zz3]
     refine wpAnyH_take (i:=7) (oi:=⟨some 60,Op.load 3 (.tmp 59),3,"search.go:52",#[⟨6, .data⟩],none⟩) (v:=?_) rfl (by kernel_rfl) (by kernel_rfl) (by kernel_rfl) (fun _ _ _ h=>h) (Or.inl ⟨by rfl,?_⟩) (by assumption) ?_
     rotate_left 1
     ·intro w0 hSw
      (try dsimp only at hSw)
      go_simp
      (try with_reducible rfl)
     try simp only[Act.put,zz1,zz2,zz3]
     refine wpAnyH_take (i:=8) (oi:=⟨some 61,Op.indexAddr 95 (.tmp 56) (.tmp 60),0,"search.go:52",#[⟨3, .data⟩,⟨7, .data⟩,⟨0, .phase⟩,⟨1, .phase⟩,⟨2, .phase⟩,⟨3, .phase⟩,⟨4, .phase⟩,⟨5, .phase⟩,⟨6, .phase⟩,⟨7, .phase⟩],none⟩) (v:=?_) rfl (by kernel_rfl) (by kernel_rfl) (by kernel_rfl) (fun _ _ _ h=>h) (Or.inl ⟨by rfl,?_⟩) (by assumption) ?_
     rotate_left 1
     ·intro w0 hSw
      (try dsimp only at hSw)
      go_simp
      (try with_reducible rfl)
     try simp only[Act.put,zz1,zz2,zz3]
     refine wpAnyH_ready (rs:=[9]) (by kernel_rfl) (by simp) ?_
     refine AllReadyH.cons (o:=⟨none,Op.store 100 (.tmp 61) (.const (Value.map none)),0,"search.go:52",#[⟨8, .data⟩,⟨0, .phase⟩,⟨1, .phase⟩,⟨2, .phase⟩,⟨3, .phase⟩,⟨4, .phase⟩,⟨5, .phase⟩,⟨6, .phase⟩,⟨7, .phase⟩],none⟩) rfl (fun K hK=>?_) AllReadyH.nil
     go_simp
     skip
     refine hK.out _ _ ?_ (fun hHeld=>?_)
     ·exact HS5
     clear hK K
     try simp only[Act.put,zz1,zz2,zz3]
     refine wpAnyH_done (by kernel_rfl) ?_ _
     clear hHeld b0 b1 b2 b3 b4 hS6 hS7 k6 kt7 d0 d1 d2 d3 d4 dx fc fz ho HS5
     go_wp2
     go_meet
     exact ⟨_,HF⟩
    ·have hli: ¬ (E:Int)<(EL:Int):=by omega
     have HF:Hid (StE c true [] E ys.length ys pv lv vs D V5/\KT wr V5):=hZq ⟨uQ HS5,uQ HK5⟩
     clear HS5 HK5
     go_wp2
     go_meet
     exact ⟨_,HF⟩
   case rest=>
   obtain ⟨D',HC⟩:=hcut
   clear HS5 HK5
   obtain ⟨hSc,hkc⟩:=uQ HC
   have g1:=hSc.bx.cell (i:=1) (v:= .pointer (some ⟨c.x.gx,0,none⟩)) rfl
   have hkl:k<c.x.k.es.length:=by rw[uQ HEL];omega
   have XH:=hZq (uQ HAK true E ys wc ⟨pv,lv,vs,D',hSc⟩ k hkl)
   have HKC:Hid (KT w wc):=hZq ((uQ HA).kt.trans hkc)
   have HPR:Hid (Mt.fnd c.x.k.P c.x.W=ys.map (·.T)++(fnF c.x.k.P c.x.W k++fnK c.x.k.P c.x.W k)):=hZq (by rw[<-qaD];exact (uQ HA).pr)
   have HEM:Hid (E=min (k+c.x.W) c.x.k.es.length):=hZq (by rw[uQ HWI,uQ HEL];exact uQ HE)
   have HIC:Hid (∀W,St c true [] E ys W->Calls Tryz.prog 43 #[.pointer (some ⟨c.gs,0,none⟩), .int .i64 0, .int .i64 (k:Int), .func (.yield l) #[] #[]] W (EndS c [] E ys W (Mt.all c.x.k.P E [[k]]))):=hZq (fun W hs=>by
    have:=uQ HIN k hkl
    rw[<-uQ HEM]at this
    exact this ys W hs)
   clear HC hSc hkc HA HIN HAK
   have hkm:IntKind.i64.wrap ((k:Int)-1)=(k:Int)-1:=by simp only[IntKind.wrap_i64];omega
   go_wp2_with fail
   refine (uQ XH).mono ?_
   rintro e w6 ⟨rfl,hs6,hk6⟩
   have HIW:=hZq (uQ HIC w6 hs6)
   have HS6:=hZq hs6
   have HK6:=hZq ((uQ HKC).trans hk6)
   clear XH hs6 hk6 HKC HIC g1
   cases hH:c.x.k.P.H 0 [] k with
   |false=>
    have HN:Hid (∃ys en pv lv vs D,AlS c w k ys en pv lv vs D w6):=hZq (by
     obtain ⟨pv,lv,vs,D,hS⟩:=uQ HS6
     refine ⟨ys,E,pv,lv,vs,D,hS,Or.inr (uQ HEM),uQ HK6,?_⟩
     rw[uQ HPR]
     unfold fnF
     rw[if_neg (by rw[hH];simp)]
     rfl)
    clear HIW HS6 HK6 HPR HEM
    go_wp2
    go_roundw
    case rel=>exact ⟨k,by omega,by go_num,HN⟩
    case measure=>simp[intOf]
   |true=>
    have HFN:Hid (Mt.fnd c.x.k.P c.x.W=ys.map (·.T)++(Mt.all c.x.k.P E [[k]]++fnK c.x.k.P c.x.W k)):=hZq (by
     rw[uQ HPR]
     unfold fnF
     rw[if_pos hH,uQ HEM]
     rfl)
    clear HPR
    go_wp2_with fail
    refine (uQ HIW).mono ?_
    rintro e w7 ⟨go,zs,rfl,hs7,hk7,hp7⟩
    have HS7:=hZq hs7
    have HK7:=hZq ((uQ HK6).trans hk7)
    have HP7:=hZq hp7
    clear HIW hs7 hk7 hp7 HS6 HK6
    cases go with
    |false=>
     have HF:Hid (∃go ys en,St c go [] en ys w7/\KT w w7/\PrT go ys (Mt.fnd c.x.k.P c.x.W)):=hZq ⟨false,ys++zs,E,uQ HS7,uQ HK7,by
      rw[uQ HFN, <-List.append_assoc]
      exact PrT.stop (PrT.app (Or.inl ⟨rfl,rfl⟩) (uQ HP7)) _⟩
     clear HS7 HK7 HP7 HFN HEM
     go_wp2
     go_end0
     exact ⟨⟨_,rfl⟩,uQ HF⟩
    |true=>
     have HN:Hid (∃ys en pv lv vs D,AlS c w k ys en pv lv vs D w7):=hZq (by
      obtain ⟨pv,lv,vs,D,hS⟩:=uQ HS7
      refine ⟨ys++zs,E,pv,lv,vs,D,hS,Or.inr (uQ HEM),uQ HK7,?_⟩
      rw[uQ HFN,List.map_append]
      rcases uQ HP7 with ⟨_,e⟩|⟨e,_⟩
      ·rw[e,List.append_assoc]
      ·cases e)
     clear HS7 HK7 HP7 HFN HEM
     go_wp2
     go_roundw
     case rel=>exact ⟨k,by omega,by go_num,HN⟩
     case measure=>simp[intOf]
end Go.Proofs.YtcmjnlpofebbmaaGreatDoor
