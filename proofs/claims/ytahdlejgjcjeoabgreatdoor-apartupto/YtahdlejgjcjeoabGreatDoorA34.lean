/- Walk of the document's made. -/
import Derived.Test.YtahdlejgjcjeoabGreatDoorA31
import Derived.Deep.Cut
namespace Go.Proofs.YtahdlejgjcjeoabGreatDoor
set_option maxHeartbeats 8000000
open Go.RowKit
theorem zdk {w:World}{q:Nat}{a b c d e:Value}{t:TypeId}{fz:Nat × Nat}(h:w.heap[q]? = some (.cells #[a,b,c,d,e] t fz)):w.cell? ⟨q,0,none⟩=some a∧w.cell? ⟨q,1,none⟩=some b∧w.cell? ⟨q,2,none⟩=some c∧w.cell? ⟨q,3,none⟩=some d∧w.cell? ⟨q,4,none⟩=some e:=⟨zaX h 0,zaX h 1,zaX h 2,zaX h 3,zaX h 4⟩
theorem zlw {w:World}{q:Nat}{a b c d e f:Value}{t:TypeId}{fz:Nat × Nat}(h:w.heap[q]? = some (.cells #[a,b,c,d,e,f] t fz)):w.cell? ⟨q,0,none⟩=some a∧w.cell? ⟨q,1,none⟩=some b∧w.cell? ⟨q,2,none⟩=some c∧w.cell? ⟨q,3,none⟩=some d∧w.cell? ⟨q,4,none⟩=some e∧w.cell? ⟨q,5,none⟩=some f:=⟨zaX h 0,zaX h 1,zaX h 2,zaX h 3,zaX h 4,zaX h 5⟩
def zVal:Value := .agg #[.int .i64 0,.string ⟨#[]⟩,.int .i64 0,.int .i64 0,.string ⟨#[]⟩,.int .i64 0]
theorem zlk {w wr:World}{q:Nat}{x0 x1 x2 x3 x4 x5:Value}{t:TypeId}(h:wr.heap[q]? = some (.cells #[x0,x1,x2,x3,x4,x5] t (0,0)))(hq:w.heap.size≤q)(hb:Below w.heap.size w wr)(a b c d e f:Value) :
  (set6 wr q a b c d e f).heap[q]? = some (.cells #[a,b,c,d,e,f] t (0,0))∧Below w.heap.size w (set6 wr q a b c d e f) :=
 ⟨zeJ (o:=5) (zeJ (o:=4) (zeJ (o:=3) (zeJ (o:=2) (zeJ (o:=1) (zeJ (o:=0) h a) b) c) d) e) f,(((((hb.setCell hq _).setCell hq _).setCell hq _).setCell hq _).setCell hq _).setCell hq _⟩
theorem zlj {w wr:World}{q:Nat}{x0 x1 x2 x3 x4 x5:Value}{t:TypeId}(h:wr.heap[q]? = some (.cells #[x0,x1,x2,x3,x4,x5] t (0,0)))(hq:w.heap.size≤q)(hb:Below w.heap.size w wr)(ob:Obj)(a b c d e f:Value) :
  ((set6 wr q a b c d e f).alloc ob).heap[q]? = some (.cells #[a,b,c,d,e,f] t (0,0))∧Below w.heap.size w ((set6 wr q a b c d e f).alloc ob):=by
 obtain ⟨h1,h2⟩:=zlk h hq hb a b c d e f
 exact ⟨(Below.heap_alloc _ ob q (zaY h1)).trans h1,h2.alloc h2.size ob⟩
structure MadeInv (w:World)(q:Nat)(a:At)(wc:World):Prop where
 atom:wc.heap[q]? = some (.cells #[.int .i64 a.ty,.string a.key,.int .i64 a.side,.int .i64 a.who,.string a.elem,.int .i64 a.n] 76 (0,0))
 res:wc.heap[w.heap.size+1]? = some (.cells #[.int .i64 0,.string ⟨#[]⟩,.int .i64 0,.int .i64 0,.string ⟨#[]⟩,.int .i64 0] 76 (0,0))
 bel:Below w.heap.size w wc
set_option maxRecDepth 100000 in
theorem zkc {w:World}{col:Col}{o x N:Nat}{U:List At}{K:RefC}{c:Clu}(h:RefAt w col o x K c)(hok:c.ok U N)(hL:Lim U N)(r:Int)(op:OpV)(hop:op.short) :
  Calls Tryz.prog 63 #[.pointer (some ⟨x,0,none⟩),.int .i64 r,op.val] w fun e w' => ∃ a:At,e = .returned (.tuple #[a.val,.int .i64 (c.opErr r op)])∧Hid (c.opErr r op=0→a=opAtom (c.rep r.toNat).atoms r.toNat op)∧Below w.heap.size w w' := by
 have HW:Hid (∀ W,Below w.heap.size w W→Calls Tryz.prog 70 #[.pointer (some ⟨x,0,none⟩),.int .i64 r] W fun e w' => e = .returned (.int .i64 (c.works r))∧w' = W):=fun W hW=>zkv (h.same hW) hok.n6 r
 have HF:Hid (∀ W,Calls Tryz.prog 112 #[op.val] W fun e w' => e = .returned (.bool (fineOp op))∧Below W.heap.size W w'):=fun W=>zj7 op W hop
 obtain ⟨E,HE⟩:∃ E,Hid (c.opErr r op=E):=⟨_,rfl⟩
 obtain ⟨AT,HAT⟩:∃ AT,Hid (opAtom (c.rep r.toNat).atoms r.toNat op=AT):=⟨_,rfl⟩
 rw [HE.out,HAT.out]
 by_cases hw:c.works r=0
 ·obtain ⟨⟨h0,hr⟩,hd⟩:=znz hw
  obtain ⟨m,rfl⟩:∃ m:Nat,r=m:=⟨r.toNat,by omega⟩
  simp only [Int.toNat_natCast] at hr hd ⊢
  have HE1:Hid (fineOp op=false→E=6):=fun hf=>by rw [← HE.out];unfold Clu.opErr;rw [if_neg (by rw [hw];simp),if_pos hf]
  have HE2:Hid (fineOp op=true→E=if 2147483647<AT.n then 2 else 0):=fun hf=>by rw [← HE.out,← HAT.out];unfold Clu.opErr;rw [if_neg (by rw [hw];simp),if_neg (by rw [hf];simp)]
  rw [Int.toNat_natCast] at HAT
  rw [hw] at HW
  clear HE
  obtain ⟨g,cap,D,hv,hc,hD,hp,hR⟩:=h.ptr hr
  have c5:=h.cells.2.2.2.2.2.1
  rw [hv] at c5
  have hx:=zaY h.blk
  have hg:g<w.heap.size:=World.block_lt_of_cell? w ⟨g,m,none⟩ hp
  have hn6:=hok.n6
  have hrep:=hok.rep hr
  have hlA:(c.rep m).atoms.length≤274878038016:=Nat.le_trans hrep.alen hL.prod
  have hmA:=hrep.may hok.may
  have HH:Hid (∀ a,fits a→∀ W,Below w.heap.size w W→Calls Tryz.prog 113 #[.pointer (some ⟨D.ρ,0,none⟩),a.val] W fun e w' => e = .returned (.int .i64 (hadN (c.rep m).atoms a))∧Below W.heap.size W w'):=fun a ha W hW=>refHad (hR.below hW (0,0)) hmA hlA a ha
  have HB:Hid (∀ a,hadN (c.rep m).atoms a≤2147483647∧0≤hadN (c.rep m).atoms a):=fun a=>⟨zey (fun y hy=>(zgq (hmA y hy)).1) (by decide),zez _ _⟩
  clear h hok hL hR hD hv hrep hlA hmA hw
  generalize D.ρ=ρ at *
  generalize (c.rep m).atoms=A at *
  generalize c.reps.length=L at *
  have q1:(m:Int)<(L:Int):=by omega
  obtain ⟨ty,key,side,elem,n⟩:=op
  obtain ⟨OP,hOP⟩:∃ OP:OpV,OP=⟨ty,key,side,elem,n⟩:=⟨_,rfl⟩
  have HOV:Hid (OP.val = .agg #[.int .i64 ty,.string key,.int .i64 side,.string elem,.int .i64 n]):=by rw [hOP];rfl
  rw [← hOP] at HF hop HE1 HE2 HAT ⊢
  rw [HOV.out] at HF ⊢
  cases hfine:fineOp OP
  ·rw [hfine] at HF
   obtain rfl:=HE1.out hfine
   go_enter Tryz.func63,Tryz.ntmps63
   go_wp2_with fail
   refine (HW.out _ (zaO (zaO (Below.refl _ _) _) _)).mono ?_
   rintro e w1 ⟨rfl,rfl⟩
   go_wp2_with fail
   refine (HF.out _).mono ?_
   rintro e w2 ⟨rfl,hb2⟩
   have hbw:Below w.heap.size w w2:=(zaO (zaO (Below.refl _ _) _) _).trans (hb2.mono (by simp;omega))
   have hrb:w2.heap[w.heap.size+1]? = some (.cells #[.int .i64 0,.string ⟨#[]⟩,.int .i64 0,.int .i64 0,.string ⟨#[]⟩,.int .i64 0] 76 (0,0)):=(hb2.block _ (by simp)).trans (zm0 w _ _).1
   obtain ⟨r0,r1,r2,r3,r4,r5⟩:=zlw hrb
   have rf:=zaZ hrb
   clear HF HW HH hb2
   go_wp2
   refine bodyPost_ret (v := .tuple #[zVal,.int .i64 6]) ?_ rfl ⟨⟨0,⟨#[]⟩,0,0,⟨#[]⟩,0⟩,rfl,(fun e=>by cases e),?_⟩
   ·simp [results,Tryz.results63,go_sem,zVal,r0,r1,r2,r3,r4,r5]
   ·exact (((((hbw.setCell (by simp) _).setCell (by simp) _).setCell (by simp) _).setCell (by simp) _).setCell (by simp) _).setCell (by simp) _
  ·rw [hfine] at HF
   have HE3:=Hid.mk (HE2.out hfine)
   clear HE1 HE2
   have hcase:(ty=1∧1≤n∧n≤1000)∨(ty=2 ∧ -1000≤n∧n<0)∨(ty=2∧0<n∧n≤1000)∨(ty=3∧n=0)∨(ty=4∧n=0)∨(ty=5∧n=0):=by
    rw [hOP] at hfine
    simp only [fineOp,decide_eq_true_eq] at hfine
    omega
   have hsizes:key.size≤4∧elem.size≤8∧(side=0∨side=1):=by
    rw [hOP] at hfine
    simp only [fineOp,decide_eq_true_eq] at hfine
    omega
   rcases hcase with ⟨rfl,n1,n2⟩ | ⟨rfl,n1,n2⟩ | ⟨rfl,n1,n2⟩ | ⟨rfl,rfl⟩ | ⟨rfl,rfl⟩ | ⟨rfl,rfl⟩
   ·obtain rfl:side=0:=by
     rw [hOP] at hfine
     simp only [fineOp,decide_eq_true_eq] at hfine
     omega
    have HAT' : Hid (AT=⟨1,key,0,m,elem,hadN A ⟨1,key,0,m,elem,0⟩+n⟩):=by rw [Hid,← HAT.out,hOP];rfl
    go_enter Tryz.func63,Tryz.ntmps63
    go_wp2_with fail
    refine (HW.out _ (zaO (zaO (Below.refl _ _) _) _)).mono ?_
    rintro e w1 ⟨rfl,rfl⟩
    go_wp2_with fail
    refine (HF.out _).mono ?_
    rintro e w2 ⟨rfl,hb2⟩
    have hbw:Below w.heap.size w w2:=(zaO (zaO (Below.refl _ _) _) _).trans (hb2.mono (by simp;omega))
    have hrb:w2.heap[w.heap.size+1]? = some (.cells #[.int .i64 0,.string ⟨#[]⟩,.int .i64 0,.int .i64 0,.string ⟨#[]⟩,.int .i64 0] 76 (0,0)):=(hb2.block _ (by simp)).trans (zm0 w _ _).1
    have hob:w2.heap[w.heap.size]? = some (.cells #[.int .i64 1,.string key,.int .i64 0,.string elem,.int .i64 n] 31 (0,0)):=(hb2.block _ (by simp;omega)).trans (zm0 w _ _).2
    obtain ⟨o0,o1,o2,o3,o4⟩:=zdk hob
    have hs2:=zaY hrb
    have hs1:w.heap.size<w2.heap.size:=by omega
    have hx2:x<w2.heap.size:=by omega
    have hg2:g<w2.heap.size:=by omega
    have c52:w2.cell? ⟨x,5,none⟩=some (.slice (some ⟨g,0,none⟩) L cap):=by rw [hbw.cell (p:=⟨x,5,none⟩) hx];exact c5
    have hp2:w2.cell? ⟨g,m,none⟩=some (.pointer (some ⟨ρ,0,none⟩)):=by rw [hbw.cell (p:=⟨g,m,none⟩) hg];exact hp
    have HRB:=Hid.mk hrb
    clear HF HW hb2 hrb hob
    go_wp2_with fail
    have hab:=heap_alloc_new w2 (.cells #[.int .i64 1,.string key,.int .i64 0,.int .i64 m,.string elem,.int .i64 0] 76)
    have hb3:=zaO (Below.refl _ w2) (.cells #[.int .i64 1,.string key,.int .i64 0,.int .i64 m,.string elem,.int .i64 0] 76)
    generalize w2.alloc (.cells #[.int .i64 1,.string key,.int .i64 0,.int .i64 m,.string elem,.int .i64 0] 76)=w3 at *
    obtain ⟨a0,a1,a2,a3,a4,a5⟩:=zlw hab
    have c53:w3.cell? ⟨x,5,none⟩=some (.slice (some ⟨g,0,none⟩) L cap):=by rw [hb3.cell (p:=⟨x,5,none⟩) hx2];exact c52
    have hp3:w3.cell? ⟨g,m,none⟩=some (.pointer (some ⟨ρ,0,none⟩)):=by rw [hb3.cell (p:=⟨g,m,none⟩) hg2];exact hp2
    have HAD:Hid (∀ W,Below w3.heap.size w3 W→Calls Tryz.prog 113 #[.pointer (some ⟨ρ,0,none⟩),.agg #[.int .i64 1,.string key,.int .i64 0,.int .i64 m,.string elem,.int .i64 0]] W fun e w' => e = .returned (.int .i64 (hadN A ⟨1,key,0,m,elem,0⟩))∧Below W.heap.size W w'):=fun W hW=>HH.out ⟨1,key,0,m,elem,0⟩ (by unfold fits;simp only;omega) W ((hbw.trans (hb3.mono hbw.size)).trans (hW.mono (by have:=hb3.size;omega)))
    have hhb:=HB.out ⟨1,key,0,m,elem,0⟩
    generalize hadN A ⟨1,key,0,m,elem,0⟩=hv at *
    have HAB:=Hid.mk hab
    have hwl:=zaY hab
    have HB3:=Hid.mk hb3
    have HFX:Hid (∀ wN,Below w3.heap.size w3 wN→(wN.cell? ⟨w2.heap.size,5,none⟩=some (.int .i64 0)∧wN.frozen? ⟨w2.heap.size,5,none⟩=false)∧MadeInv w w2.heap.size ⟨1,key,0,m,elem,hv+n⟩ (wN.setCell ⟨w2.heap.size,5,none⟩ (.int .i64 (hv+n)))):=fun wN hN=>by
     have hh:=(hN.block w2.heap.size hwl).trans HAB.out
     refine ⟨⟨zaX hh 5,zaZ hh 5⟩,⟨zeJ (o:=5) hh _,?_,?_⟩⟩
     ·exact (Below.heap_setCell _ _ _ _ (by simp only;omega)).trans ((hN.block _ (by have:=HB3.out.size;omega)).trans ((HB3.out.block _ hs2).trans HRB.out))
     ·exact ((hbw.trans (HB3.out.mono hbw.size)).trans (hN.mono (by have:=HB3.out.size;omega))).setCell (by simp only;omega) _
    have hwr:IntKind.i64.wrap (hv+n)=hv+n:=by
     rw [show hv+n=((hv+n).toNat:Int) by omega]
     exact znO (by omega) (by omega)
    clear HH hab c52 hp2 c5 hp HB hb3 o0 o1 o2 o3 o4
    go_cut [] from 12 (fun wc=>Hid (MadeInv w w2.heap.size ⟨1,key,0,m,elem,hv+n⟩ wc))
    case first =>
     go_region_with (go_at_call 113;refine (HAD.out _ (Below.refl _ _).drew).mono ?_;rintro e w4 ⟨rfl,hb4⟩;obtain ⟨⟨t5,t5f⟩,hfin⟩:=HFX.out w4 ((Below.refl _ w3).drew.trans hb4))
     all_goals go_wp2
     all_goals go_meet
     all_goals (case rel=>first | exact hfin | (rw [hwr];exact hfin))
    case rest =>
     clear HAD HFX a0 a1 a2 a3 a4 a5 c53 hp3 hwl HAB HB3 HRB
     have HAT2:Hid (AT=⟨1,key,0,m,elem,hv+n⟩):=HAT'
     have hmi:=hcut.out
     obtain ⟨e0,e1,e2,e3,e4,e5⟩:=zlw hmi.atom
     obtain ⟨r0,r1,r2,r3,r4,r5⟩:=zlw hmi.res
     have rf:=zaZ hmi.res
     by_cases hbig:2147483647<hv+n
     ·have hd:=zlk hmi.res (by omega) hmi.bel (.int .i64 0) (.string ⟨#[]⟩) (.int .i64 0) (.int .i64 0) (.string ⟨#[]⟩) (.int .i64 0)
      have hE:E=2:=by rw [HE3.out,HAT2.out,if_pos hbig]
      unfold set6 at hd
      have HD:=Hid.mk hd
      subst hE
      clear hd hmi hcut
      go_wp2
      obtain ⟨hB,hW⟩:=HD.out
      clear r0 r1 r2 r3 r4 r5
      refine bodyPost_ret (v := .tuple #[zVal,.int .i64 2]) ?_ rfl ⟨⟨⟨0,⟨#[]⟩,0,0,⟨#[]⟩,0⟩,rfl⟩,trivial,hW⟩
      obtain ⟨r0,r1,r2,r3,r4,r5⟩:=zlw hB
      simp [results,Tryz.results63,go_sem,zVal,r0,r1,r2,r3,r4,r5]
     ·have hd:=zlk hmi.res (by omega) hmi.bel (.int .i64 1) (.string key) (.int .i64 0) (.int .i64 m) (.string elem) (.int .i64 (hv+n))
      have hE:E=0:=by rw [HE3.out,HAT2.out,if_neg hbig]
      have hbig' : hv+n≤2147483647:=by omega
      unfold set6 at hd
      have HD:=Hid.mk hd
      subst hE
      clear hd hmi hcut
      go_wp2
      obtain ⟨hB,hW⟩:=HD.out
      clear r0 r1 r2 r3 r4 r5
      refine bodyPost_ret (v := .tuple #[.agg #[.int .i64 1,.string key,.int .i64 0,.int .i64 m,.string elem,.int .i64 (hv+n)],.int .i64 0]) ?_ rfl ⟨⟨1,key,0,m,elem,hv+n⟩,rfl,HAT2.out.symm,hW⟩
      obtain ⟨r0,r1,r2,r3,r4,r5⟩:=zlw hB
      simp [results,Tryz.results63,go_sem,r0,r1,r2,r3,r4,r5]
   ·obtain rfl:side=0:=by
     rw [hOP] at hfine
     simp only [fineOp,decide_eq_true_eq] at hfine
     omega
    have HAT' : Hid (AT=⟨2,key,1,m,elem,hadN A ⟨2,key,1,m,elem,0⟩ + -n⟩):=by rw [Hid,← HAT.out,hOP];unfold opAtom;rw [if_neg (by simp),if_pos rfl,if_pos n2]
    go_enter Tryz.func63,Tryz.ntmps63
    go_wp2_with fail
    refine (HW.out _ (zaO (zaO (Below.refl _ _) _) _)).mono ?_
    rintro e w1 ⟨rfl,rfl⟩
    go_wp2_with fail
    refine (HF.out _).mono ?_
    rintro e w2 ⟨rfl,hb2⟩
    have hbw:Below w.heap.size w w2:=(zaO (zaO (Below.refl _ _) _) _).trans (hb2.mono (by simp;omega))
    have hrb:w2.heap[w.heap.size+1]? = some (.cells #[.int .i64 0,.string ⟨#[]⟩,.int .i64 0,.int .i64 0,.string ⟨#[]⟩,.int .i64 0] 76 (0,0)):=(hb2.block _ (by simp)).trans (zm0 w _ _).1
    have hob:w2.heap[w.heap.size]? = some (.cells #[.int .i64 2,.string key,.int .i64 0,.string elem,.int .i64 n] 31 (0,0)):=(hb2.block _ (by simp;omega)).trans (zm0 w _ _).2
    obtain ⟨o0,o1,o2,o3,o4⟩:=zdk hob
    have hs2:=zaY hrb
    have hs1:w.heap.size<w2.heap.size:=by omega
    have hx2:x<w2.heap.size:=by omega
    have hg2:g<w2.heap.size:=by omega
    have c52:w2.cell? ⟨x,5,none⟩=some (.slice (some ⟨g,0,none⟩) L cap):=by rw [hbw.cell (p:=⟨x,5,none⟩) hx];exact c5
    have hp2:w2.cell? ⟨g,m,none⟩=some (.pointer (some ⟨ρ,0,none⟩)):=by rw [hbw.cell (p:=⟨g,m,none⟩) hg];exact hp
    have HRB:=Hid.mk hrb
    clear HF HW hb2 hrb hob
    go_wp2_with fail
    have hab:=heap_alloc_new w2 (.cells #[.int .i64 2,.string key,.int .i64 1,.int .i64 m,.string elem,.int .i64 0] 76)
    have hb3:=zaO (Below.refl _ w2) (.cells #[.int .i64 2,.string key,.int .i64 1,.int .i64 m,.string elem,.int .i64 0] 76)
    generalize w2.alloc (.cells #[.int .i64 2,.string key,.int .i64 1,.int .i64 m,.string elem,.int .i64 0] 76)=w3 at *
    obtain ⟨a0,a1,a2,a3,a4,a5⟩:=zlw hab
    have c53:w3.cell? ⟨x,5,none⟩=some (.slice (some ⟨g,0,none⟩) L cap):=by rw [hb3.cell (p:=⟨x,5,none⟩) hx2];exact c52
    have hp3:w3.cell? ⟨g,m,none⟩=some (.pointer (some ⟨ρ,0,none⟩)):=by rw [hb3.cell (p:=⟨g,m,none⟩) hg2];exact hp2
    have HAD:Hid (∀ W,Below w3.heap.size w3 W→Calls Tryz.prog 113 #[.pointer (some ⟨ρ,0,none⟩),.agg #[.int .i64 2,.string key,.int .i64 1,.int .i64 m,.string elem,.int .i64 0]] W fun e w' => e = .returned (.int .i64 (hadN A ⟨2,key,1,m,elem,0⟩))∧Below W.heap.size W w'):=fun W hW=>HH.out ⟨2,key,1,m,elem,0⟩ (by unfold fits;simp only;omega) W ((hbw.trans (hb3.mono hbw.size)).trans (hW.mono (by have:=hb3.size;omega)))
    have hhb:=HB.out ⟨2,key,1,m,elem,0⟩
    generalize hadN A ⟨2,key,1,m,elem,0⟩=hv at *
    have HAB:=Hid.mk hab
    have hwl:=zaY hab
    have HB3:=Hid.mk hb3
    have HFX:Hid (∀ wN,Below w3.heap.size w3 wN→(wN.cell? ⟨w2.heap.size,5,none⟩=some (.int .i64 0)∧wN.frozen? ⟨w2.heap.size,5,none⟩=false)∧MadeInv w w2.heap.size ⟨2,key,1,m,elem,hv + -n⟩ (wN.setCell ⟨w2.heap.size,5,none⟩ (.int .i64 (hv + -n)))):=fun wN hN=>by
     have hh:=(hN.block w2.heap.size hwl).trans HAB.out
     refine ⟨⟨zaX hh 5,zaZ hh 5⟩,⟨zeJ (o:=5) hh _,?_,?_⟩⟩
     ·exact (Below.heap_setCell _ _ _ _ (by simp only;omega)).trans ((hN.block _ (by have:=HB3.out.size;omega)).trans ((HB3.out.block _ hs2).trans HRB.out))
     ·exact ((hbw.trans (HB3.out.mono hbw.size)).trans (hN.mono (by have:=HB3.out.size;omega))).setCell (by simp only;omega) _
    have hwr:IntKind.i64.wrap (hv + -n)=hv + -n:=by
     rw [show hv + -n=((hv + -n).toNat:Int) by omega]
     exact znO (by omega) (by omega)
    clear HH hab c52 hp2 c5 hp HB hb3 o0 o1 o2 o3 o4
    go_cut [] from 12 (fun wc=>Hid (MadeInv w w2.heap.size ⟨2,key,1,m,elem,hv + -n⟩ wc))
    case first =>
     go_region_with (go_at_call 113;refine (HAD.out _ (Below.refl _ _).drew).mono ?_;rintro e w4 ⟨rfl,hb4⟩;obtain ⟨⟨t5,t5f⟩,hfin⟩:=HFX.out w4 ((Below.refl _ w3).drew.trans hb4))
     all_goals go_wp2
     all_goals go_meet
     all_goals (case rel=>first | exact hfin | (rw [hwr];exact hfin))
    case rest =>
     clear HAD HFX a0 a1 a2 a3 a4 a5 c53 hp3 hwl HAB HB3 HRB
     have HAT2:Hid (AT=⟨2,key,1,m,elem,hv + -n⟩):=HAT'
     have hmi:=hcut.out
     obtain ⟨e0,e1,e2,e3,e4,e5⟩:=zlw hmi.atom
     obtain ⟨r0,r1,r2,r3,r4,r5⟩:=zlw hmi.res
     have rf:=zaZ hmi.res
     by_cases hbig:2147483647<hv + -n
     ·have hd:=zlk hmi.res (by omega) hmi.bel (.int .i64 0) (.string ⟨#[]⟩) (.int .i64 0) (.int .i64 0) (.string ⟨#[]⟩) (.int .i64 0)
      have hE:E=2:=by rw [HE3.out,HAT2.out,if_pos hbig]
      unfold set6 at hd
      have HD:=Hid.mk hd
      subst hE
      clear hd hmi hcut
      go_wp2
      obtain ⟨hB,hW⟩:=HD.out
      clear r0 r1 r2 r3 r4 r5
      refine bodyPost_ret (v := .tuple #[zVal,.int .i64 2]) ?_ rfl ⟨⟨⟨0,⟨#[]⟩,0,0,⟨#[]⟩,0⟩,rfl⟩,trivial,hW⟩
      obtain ⟨r0,r1,r2,r3,r4,r5⟩:=zlw hB
      simp [results,Tryz.results63,go_sem,zVal,r0,r1,r2,r3,r4,r5]
     ·have hd:=zlk hmi.res (by omega) hmi.bel (.int .i64 2) (.string key) (.int .i64 1) (.int .i64 m) (.string elem) (.int .i64 (hv + -n))
      have hE:E=0:=by rw [HE3.out,HAT2.out,if_neg hbig]
      have hbig' : hv + -n≤2147483647:=by omega
      unfold set6 at hd
      have HD:=Hid.mk hd
      subst hE
      clear hd hmi hcut
      go_wp2
      obtain ⟨hB,hW⟩:=HD.out
      clear r0 r1 r2 r3 r4 r5
      refine bodyPost_ret (v := .tuple #[.agg #[.int .i64 2,.string key,.int .i64 1,.int .i64 m,.string elem,.int .i64 (hv + -n)],.int .i64 0]) ?_ rfl ⟨⟨2,key,1,m,elem,hv + -n⟩,rfl,HAT2.out.symm,hW⟩
      obtain ⟨r0,r1,r2,r3,r4,r5⟩:=zlw hB
      simp [results,Tryz.results63,go_sem,r0,r1,r2,r3,r4,r5]
   ·obtain rfl:side=0:=by
     rw [hOP] at hfine
     simp only [fineOp,decide_eq_true_eq] at hfine
     omega
    have HAT' : Hid (AT=⟨2,key,0,m,elem,hadN A ⟨2,key,0,m,elem,0⟩+n⟩):=by rw [Hid,← HAT.out,hOP];unfold opAtom;rw [if_neg (by simp),if_pos rfl,if_neg (by simp only;omega)]
    go_enter Tryz.func63,Tryz.ntmps63
    go_wp2_with fail
    refine (HW.out _ (zaO (zaO (Below.refl _ _) _) _)).mono ?_
    rintro e w1 ⟨rfl,rfl⟩
    go_wp2_with fail
    refine (HF.out _).mono ?_
    rintro e w2 ⟨rfl,hb2⟩
    have hbw:Below w.heap.size w w2:=(zaO (zaO (Below.refl _ _) _) _).trans (hb2.mono (by simp;omega))
    have hrb:w2.heap[w.heap.size+1]? = some (.cells #[.int .i64 0,.string ⟨#[]⟩,.int .i64 0,.int .i64 0,.string ⟨#[]⟩,.int .i64 0] 76 (0,0)):=(hb2.block _ (by simp)).trans (zm0 w _ _).1
    have hob:w2.heap[w.heap.size]? = some (.cells #[.int .i64 2,.string key,.int .i64 0,.string elem,.int .i64 n] 31 (0,0)):=(hb2.block _ (by simp;omega)).trans (zm0 w _ _).2
    obtain ⟨o0,o1,o2,o3,o4⟩:=zdk hob
    have hs2:=zaY hrb
    have hs1:w.heap.size<w2.heap.size:=by omega
    have hx2:x<w2.heap.size:=by omega
    have hg2:g<w2.heap.size:=by omega
    have c52:w2.cell? ⟨x,5,none⟩=some (.slice (some ⟨g,0,none⟩) L cap):=by rw [hbw.cell (p:=⟨x,5,none⟩) hx];exact c5
    have hp2:w2.cell? ⟨g,m,none⟩=some (.pointer (some ⟨ρ,0,none⟩)):=by rw [hbw.cell (p:=⟨g,m,none⟩) hg];exact hp
    have HRB:=Hid.mk hrb
    clear HF HW hb2 hrb hob
    go_wp2_with fail
    have hab:=heap_alloc_new w2 (.cells #[.int .i64 2,.string key,.int .i64 0,.int .i64 m,.string elem,.int .i64 0] 76)
    have hb3:=zaO (Below.refl _ w2) (.cells #[.int .i64 2,.string key,.int .i64 0,.int .i64 m,.string elem,.int .i64 0] 76)
    generalize w2.alloc (.cells #[.int .i64 2,.string key,.int .i64 0,.int .i64 m,.string elem,.int .i64 0] 76)=w3 at *
    obtain ⟨a0,a1,a2,a3,a4,a5⟩:=zlw hab
    have c53:w3.cell? ⟨x,5,none⟩=some (.slice (some ⟨g,0,none⟩) L cap):=by rw [hb3.cell (p:=⟨x,5,none⟩) hx2];exact c52
    have hp3:w3.cell? ⟨g,m,none⟩=some (.pointer (some ⟨ρ,0,none⟩)):=by rw [hb3.cell (p:=⟨g,m,none⟩) hg2];exact hp2
    have HAD:Hid (∀ W,Below w3.heap.size w3 W→Calls Tryz.prog 113 #[.pointer (some ⟨ρ,0,none⟩),.agg #[.int .i64 2,.string key,.int .i64 0,.int .i64 m,.string elem,.int .i64 0]] W fun e w' => e = .returned (.int .i64 (hadN A ⟨2,key,0,m,elem,0⟩))∧Below W.heap.size W w'):=fun W hW=>HH.out ⟨2,key,0,m,elem,0⟩ (by unfold fits;simp only;omega) W ((hbw.trans (hb3.mono hbw.size)).trans (hW.mono (by have:=hb3.size;omega)))
    have hhb:=HB.out ⟨2,key,0,m,elem,0⟩
    generalize hadN A ⟨2,key,0,m,elem,0⟩=hv at *
    have HAB:=Hid.mk hab
    have hwl:=zaY hab
    have HB3:=Hid.mk hb3
    have HFX:Hid (∀ wN,Below w3.heap.size w3 wN→(wN.cell? ⟨w2.heap.size,5,none⟩=some (.int .i64 0)∧wN.frozen? ⟨w2.heap.size,5,none⟩=false)∧MadeInv w w2.heap.size ⟨2,key,0,m,elem,hv+n⟩ (wN.setCell ⟨w2.heap.size,5,none⟩ (.int .i64 (hv+n)))):=fun wN hN=>by
     have hh:=(hN.block w2.heap.size hwl).trans HAB.out
     refine ⟨⟨zaX hh 5,zaZ hh 5⟩,⟨zeJ (o:=5) hh _,?_,?_⟩⟩
     ·exact (Below.heap_setCell _ _ _ _ (by simp only;omega)).trans ((hN.block _ (by have:=HB3.out.size;omega)).trans ((HB3.out.block _ hs2).trans HRB.out))
     ·exact ((hbw.trans (HB3.out.mono hbw.size)).trans (hN.mono (by have:=HB3.out.size;omega))).setCell (by simp only;omega) _
    have hwr:IntKind.i64.wrap (hv+n)=hv+n:=by
     rw [show hv+n=((hv+n).toNat:Int) by omega]
     exact znO (by omega) (by omega)
    clear HH hab c52 hp2 c5 hp HB hb3 o0 o1 o2 o3 o4
    go_cut [] from 12 (fun wc=>Hid (MadeInv w w2.heap.size ⟨2,key,0,m,elem,hv+n⟩ wc))
    case first =>
     go_region_with (go_at_call 113;refine (HAD.out _ (Below.refl _ _).drew).mono ?_;rintro e w4 ⟨rfl,hb4⟩;obtain ⟨⟨t5,t5f⟩,hfin⟩:=HFX.out w4 ((Below.refl _ w3).drew.trans hb4))
     all_goals go_wp2
     all_goals go_meet
     all_goals (case rel=>first | exact hfin | (rw [hwr];exact hfin))
    case rest =>
     clear HAD HFX a0 a1 a2 a3 a4 a5 c53 hp3 hwl HAB HB3 HRB
     have HAT2:Hid (AT=⟨2,key,0,m,elem,hv+n⟩):=HAT'
     have hmi:=hcut.out
     obtain ⟨e0,e1,e2,e3,e4,e5⟩:=zlw hmi.atom
     obtain ⟨r0,r1,r2,r3,r4,r5⟩:=zlw hmi.res
     have rf:=zaZ hmi.res
     by_cases hbig:2147483647<hv+n
     ·have hd:=zlk hmi.res (by omega) hmi.bel (.int .i64 0) (.string ⟨#[]⟩) (.int .i64 0) (.int .i64 0) (.string ⟨#[]⟩) (.int .i64 0)
      have hE:E=2:=by rw [HE3.out,HAT2.out,if_pos hbig]
      unfold set6 at hd
      have HD:=Hid.mk hd
      subst hE
      clear hd hmi hcut
      go_wp2
      obtain ⟨hB,hW⟩:=HD.out
      clear r0 r1 r2 r3 r4 r5
      refine bodyPost_ret (v := .tuple #[zVal,.int .i64 2]) ?_ rfl ⟨⟨⟨0,⟨#[]⟩,0,0,⟨#[]⟩,0⟩,rfl⟩,trivial,hW⟩
      obtain ⟨r0,r1,r2,r3,r4,r5⟩:=zlw hB
      simp [results,Tryz.results63,go_sem,zVal,r0,r1,r2,r3,r4,r5]
     ·have hd:=zlk hmi.res (by omega) hmi.bel (.int .i64 2) (.string key) (.int .i64 0) (.int .i64 m) (.string elem) (.int .i64 (hv+n))
      have hE:E=0:=by rw [HE3.out,HAT2.out,if_neg hbig]
      have hbig' : hv+n≤2147483647:=by omega
      unfold set6 at hd
      have HD:=Hid.mk hd
      subst hE
      clear hd hmi hcut
      go_wp2
      obtain ⟨hB,hW⟩:=HD.out
      clear r0 r1 r2 r3 r4 r5
      refine bodyPost_ret (v := .tuple #[.agg #[.int .i64 2,.string key,.int .i64 0,.int .i64 m,.string elem,.int .i64 (hv+n)],.int .i64 0]) ?_ rfl ⟨⟨2,key,0,m,elem,hv+n⟩,rfl,HAT2.out.symm,hW⟩
      obtain ⟨r0,r1,r2,r3,r4,r5⟩:=zlw hB
      simp [results,Tryz.results63,go_sem,r0,r1,r2,r3,r4,r5]
   ·have HAT' : Hid (AT=⟨3,key,side,0,elem,0⟩):=by rw [Hid,← HAT.out,hOP];rfl
    go_enter Tryz.func63,Tryz.ntmps63
    go_wp2_with fail
    refine (HW.out _ (zaO (zaO (Below.refl _ _) _) _)).mono ?_
    rintro e w1 ⟨rfl,rfl⟩
    go_wp2_with fail
    refine (HF.out _).mono ?_
    rintro e w2 ⟨rfl,hb2⟩
    have hbw:Below w.heap.size w w2:=(zaO (zaO (Below.refl _ _) _) _).trans (hb2.mono (by simp;omega))
    have hrb:w2.heap[w.heap.size+1]? = some (.cells #[.int .i64 0,.string ⟨#[]⟩,.int .i64 0,.int .i64 0,.string ⟨#[]⟩,.int .i64 0] 76 (0,0)):=(hb2.block _ (by simp)).trans (zm0 w _ _).1
    have hob:w2.heap[w.heap.size]? = some (.cells #[.int .i64 3,.string key,.int .i64 side,.string elem,.int .i64 0] 31 (0,0)):=(hb2.block _ (by simp;omega)).trans (zm0 w _ _).2
    obtain ⟨o0,o1,o2,o3,o4⟩:=zdk hob
    have hs2:=zaY hrb
    have hs1:w.heap.size<w2.heap.size:=by omega
    have hx2:x<w2.heap.size:=by omega
    have hg2:g<w2.heap.size:=by omega
    have c52:w2.cell? ⟨x,5,none⟩=some (.slice (some ⟨g,0,none⟩) L cap):=by rw [hbw.cell (p:=⟨x,5,none⟩) hx];exact c5
    have hp2:w2.cell? ⟨g,m,none⟩=some (.pointer (some ⟨ρ,0,none⟩)):=by rw [hbw.cell (p:=⟨g,m,none⟩) hg];exact hp
    have HRB:=Hid.mk hrb
    clear HF HW hb2 hrb hob
    obtain ⟨r0,r1,r2,r3,r4,r5⟩:=zlw HRB.out
    have rf:=zaZ HRB.out
    have hd:=zlj (w:=w) HRB.out (by omega) hbw (.cells #[.int .i64 3,.string key,.int .i64 side,.int .i64 0,.string elem,.int .i64 0] 76) (.int .i64 3) (.string key) (.int .i64 side) (.int .i64 0) (.string elem) (.int .i64 0)
    have hE:E=0:=by rw [HE3.out,HAT'.out,if_neg (by simp only;omega)]
    unfold set6 at hd
    have HD:=Hid.mk hd
    subst hE
    clear hd HRB HH HB
    go_wp2
    obtain ⟨hB,hW⟩:=HD.out
    clear r0 r1 r2 r3 r4 r5
    refine bodyPost_ret (v := .tuple #[.agg #[.int .i64 3,.string key,.int .i64 side,.int .i64 0,.string elem,.int .i64 0],.int .i64 0]) ?_ rfl ⟨⟨3,key,side,0,elem,0⟩,rfl,HAT'.out.symm,hW⟩
    obtain ⟨r0,r1,r2,r3,r4,r5⟩:=zlw hB
    simp [results,Tryz.results63,go_sem,r0,r1,r2,r3,r4,r5]
   ·have HAT' : Hid (AT=⟨4,key,side,0,elem,0⟩):=by rw [Hid,← HAT.out,hOP];rfl
    go_enter Tryz.func63,Tryz.ntmps63
    go_wp2_with fail
    refine (HW.out _ (zaO (zaO (Below.refl _ _) _) _)).mono ?_
    rintro e w1 ⟨rfl,rfl⟩
    go_wp2_with fail
    refine (HF.out _).mono ?_
    rintro e w2 ⟨rfl,hb2⟩
    have hbw:Below w.heap.size w w2:=(zaO (zaO (Below.refl _ _) _) _).trans (hb2.mono (by simp;omega))
    have hrb:w2.heap[w.heap.size+1]? = some (.cells #[.int .i64 0,.string ⟨#[]⟩,.int .i64 0,.int .i64 0,.string ⟨#[]⟩,.int .i64 0] 76 (0,0)):=(hb2.block _ (by simp)).trans (zm0 w _ _).1
    have hob:w2.heap[w.heap.size]? = some (.cells #[.int .i64 4,.string key,.int .i64 side,.string elem,.int .i64 0] 31 (0,0)):=(hb2.block _ (by simp;omega)).trans (zm0 w _ _).2
    obtain ⟨o0,o1,o2,o3,o4⟩:=zdk hob
    have hs2:=zaY hrb
    have hs1:w.heap.size<w2.heap.size:=by omega
    have hx2:x<w2.heap.size:=by omega
    have hg2:g<w2.heap.size:=by omega
    have c52:w2.cell? ⟨x,5,none⟩=some (.slice (some ⟨g,0,none⟩) L cap):=by rw [hbw.cell (p:=⟨x,5,none⟩) hx];exact c5
    have hp2:w2.cell? ⟨g,m,none⟩=some (.pointer (some ⟨ρ,0,none⟩)):=by rw [hbw.cell (p:=⟨g,m,none⟩) hg];exact hp
    have HRB:=Hid.mk hrb
    clear HF HW hb2 hrb hob
    obtain ⟨r0,r1,r2,r3,r4,r5⟩:=zlw HRB.out
    have rf:=zaZ HRB.out
    have hd:=zlj (w:=w) HRB.out (by omega) hbw (.cells #[.int .i64 4,.string key,.int .i64 side,.int .i64 0,.string elem,.int .i64 0] 76) (.int .i64 4) (.string key) (.int .i64 side) (.int .i64 0) (.string elem) (.int .i64 0)
    have hE:E=0:=by rw [HE3.out,HAT'.out,if_neg (by simp only;omega)]
    unfold set6 at hd
    have HD:=Hid.mk hd
    subst hE
    clear hd HRB HH HB
    go_wp2
    obtain ⟨hB,hW⟩:=HD.out
    clear r0 r1 r2 r3 r4 r5
    refine bodyPost_ret (v := .tuple #[.agg #[.int .i64 4,.string key,.int .i64 side,.int .i64 0,.string elem,.int .i64 0],.int .i64 0]) ?_ rfl ⟨⟨4,key,side,0,elem,0⟩,rfl,HAT'.out.symm,hW⟩
    obtain ⟨r0,r1,r2,r3,r4,r5⟩:=zlw hB
    simp [results,Tryz.results63,go_sem,r0,r1,r2,r3,r4,r5]
   ·obtain rfl:side=0:=by
     rw [hOP] at hfine
     simp only [fineOp,decide_eq_true_eq] at hfine
     omega
    have HAT' : Hid (AT=⟨5,key,0,m,elem,hadN A ⟨5,key,0,m,elem,0⟩+1⟩):=by rw [Hid,← HAT.out,hOP];rfl
    go_enter Tryz.func63,Tryz.ntmps63
    go_wp2_with fail
    refine (HW.out _ (zaO (zaO (Below.refl _ _) _) _)).mono ?_
    rintro e w1 ⟨rfl,rfl⟩
    go_wp2_with fail
    refine (HF.out _).mono ?_
    rintro e w2 ⟨rfl,hb2⟩
    have hbw:Below w.heap.size w w2:=(zaO (zaO (Below.refl _ _) _) _).trans (hb2.mono (by simp;omega))
    have hrb:w2.heap[w.heap.size+1]? = some (.cells #[.int .i64 0,.string ⟨#[]⟩,.int .i64 0,.int .i64 0,.string ⟨#[]⟩,.int .i64 0] 76 (0,0)):=(hb2.block _ (by simp)).trans (zm0 w _ _).1
    have hob:w2.heap[w.heap.size]? = some (.cells #[.int .i64 5,.string key,.int .i64 0,.string elem,.int .i64 0] 31 (0,0)):=(hb2.block _ (by simp;omega)).trans (zm0 w _ _).2
    obtain ⟨o0,o1,o2,o3,o4⟩:=zdk hob
    have hs2:=zaY hrb
    have hs1:w.heap.size<w2.heap.size:=by omega
    have hx2:x<w2.heap.size:=by omega
    have hg2:g<w2.heap.size:=by omega
    have c52:w2.cell? ⟨x,5,none⟩=some (.slice (some ⟨g,0,none⟩) L cap):=by rw [hbw.cell (p:=⟨x,5,none⟩) hx];exact c5
    have hp2:w2.cell? ⟨g,m,none⟩=some (.pointer (some ⟨ρ,0,none⟩)):=by rw [hbw.cell (p:=⟨g,m,none⟩) hg];exact hp
    have HRB:=Hid.mk hrb
    clear HF HW hb2 hrb hob
    go_wp2_with fail
    have hab:=heap_alloc_new w2 (.cells #[.int .i64 5,.string key,.int .i64 0,.int .i64 m,.string elem,.int .i64 0] 76)
    have hb3:=zaO (Below.refl _ w2) (.cells #[.int .i64 5,.string key,.int .i64 0,.int .i64 m,.string elem,.int .i64 0] 76)
    generalize w2.alloc (.cells #[.int .i64 5,.string key,.int .i64 0,.int .i64 m,.string elem,.int .i64 0] 76)=w3 at *
    obtain ⟨a0,a1,a2,a3,a4,a5⟩:=zlw hab
    have c53:w3.cell? ⟨x,5,none⟩=some (.slice (some ⟨g,0,none⟩) L cap):=by rw [hb3.cell (p:=⟨x,5,none⟩) hx2];exact c52
    have hp3:w3.cell? ⟨g,m,none⟩=some (.pointer (some ⟨ρ,0,none⟩)):=by rw [hb3.cell (p:=⟨g,m,none⟩) hg2];exact hp2
    have HAD:Hid (∀ W,Below w3.heap.size w3 W→Calls Tryz.prog 113 #[.pointer (some ⟨ρ,0,none⟩),.agg #[.int .i64 5,.string key,.int .i64 0,.int .i64 m,.string elem,.int .i64 0]] W fun e w' => e = .returned (.int .i64 (hadN A ⟨5,key,0,m,elem,0⟩))∧Below W.heap.size W w'):=fun W hW=>HH.out ⟨5,key,0,m,elem,0⟩ (by unfold fits;simp only;omega) W ((hbw.trans (hb3.mono hbw.size)).trans (hW.mono (by have:=hb3.size;omega)))
    have hhb:=HB.out ⟨5,key,0,m,elem,0⟩
    generalize hadN A ⟨5,key,0,m,elem,0⟩=hv at *
    have HAB:=Hid.mk hab
    have hwl:=zaY hab
    have HB3:=Hid.mk hb3
    have HFX:Hid (∀ wN,Below w3.heap.size w3 wN→(wN.cell? ⟨w2.heap.size,5,none⟩=some (.int .i64 0)∧wN.frozen? ⟨w2.heap.size,5,none⟩=false)∧MadeInv w w2.heap.size ⟨5,key,0,m,elem,hv+1⟩ (wN.setCell ⟨w2.heap.size,5,none⟩ (.int .i64 (hv+1)))):=fun wN hN=>by
     have hh:=(hN.block w2.heap.size hwl).trans HAB.out
     refine ⟨⟨zaX hh 5,zaZ hh 5⟩,⟨zeJ (o:=5) hh _,?_,?_⟩⟩
     ·exact (Below.heap_setCell _ _ _ _ (by simp only;omega)).trans ((hN.block _ (by have:=HB3.out.size;omega)).trans ((HB3.out.block _ hs2).trans HRB.out))
     ·exact ((hbw.trans (HB3.out.mono hbw.size)).trans (hN.mono (by have:=HB3.out.size;omega))).setCell (by simp only;omega) _
    have hwr:IntKind.i64.wrap (hv+1)=hv+1:=by
     rw [show hv+1=((hv+1).toNat:Int) by omega]
     exact znO (by omega) (by omega)
    clear HH hab c52 hp2 c5 hp HB hb3 o0 o1 o2 o3 o4
    go_cut [] from 12 (fun wc=>Hid (MadeInv w w2.heap.size ⟨5,key,0,m,elem,hv+1⟩ wc))
    case first =>
     go_region_with (go_at_call 113;refine (HAD.out _ (Below.refl _ _).drew).mono ?_;rintro e w4 ⟨rfl,hb4⟩;obtain ⟨⟨t5,t5f⟩,hfin⟩:=HFX.out w4 ((Below.refl _ w3).drew.trans hb4))
     all_goals go_wp2
     all_goals go_meet
     all_goals (case rel=>first | exact hfin | (rw [hwr];exact hfin))
    case rest =>
     clear HAD HFX a0 a1 a2 a3 a4 a5 c53 hp3 hwl HAB HB3 HRB
     have HAT2:Hid (AT=⟨5,key,0,m,elem,hv+1⟩):=HAT'
     have hmi:=hcut.out
     obtain ⟨e0,e1,e2,e3,e4,e5⟩:=zlw hmi.atom
     obtain ⟨r0,r1,r2,r3,r4,r5⟩:=zlw hmi.res
     have rf:=zaZ hmi.res
     by_cases hbig:2147483647<hv+1
     ·have hd:=zlk hmi.res (by omega) hmi.bel (.int .i64 0) (.string ⟨#[]⟩) (.int .i64 0) (.int .i64 0) (.string ⟨#[]⟩) (.int .i64 0)
      have hE:E=2:=by rw [HE3.out,HAT2.out,if_pos hbig]
      unfold set6 at hd
      have HD:=Hid.mk hd
      subst hE
      clear hd hmi hcut
      go_wp2
      obtain ⟨hB,hW⟩:=HD.out
      clear r0 r1 r2 r3 r4 r5
      refine bodyPost_ret (v := .tuple #[zVal,.int .i64 2]) ?_ rfl ⟨⟨⟨0,⟨#[]⟩,0,0,⟨#[]⟩,0⟩,rfl⟩,trivial,hW⟩
      obtain ⟨r0,r1,r2,r3,r4,r5⟩:=zlw hB
      simp [results,Tryz.results63,go_sem,zVal,r0,r1,r2,r3,r4,r5]
     ·have hd:=zlk hmi.res (by omega) hmi.bel (.int .i64 5) (.string key) (.int .i64 0) (.int .i64 m) (.string elem) (.int .i64 (hv+1))
      have hE:E=0:=by rw [HE3.out,HAT2.out,if_neg hbig]
      have hbig' : hv+1≤2147483647:=by omega
      unfold set6 at hd
      have HD:=Hid.mk hd
      subst hE
      clear hd hmi hcut
      go_wp2
      obtain ⟨hB,hW⟩:=HD.out
      clear r0 r1 r2 r3 r4 r5
      refine bodyPost_ret (v := .tuple #[.agg #[.int .i64 5,.string key,.int .i64 0,.int .i64 m,.string elem,.int .i64 (hv+1)],.int .i64 0]) ?_ rfl ⟨⟨5,key,0,m,elem,hv+1⟩,rfl,HAT2.out.symm,hW⟩
      obtain ⟨r0,r1,r2,r3,r4,r5⟩:=zlw hB
      simp [results,Tryz.results63,go_sem,r0,r1,r2,r3,r4,r5]
 ·generalize hcd:c.works r=cd at *
  have HCD:Hid (c.works r=cd):=hcd
  clear hcd
  obtain ⟨ty,key,side,elem,n⟩:=op
  unfold OpV.val at *
  simp only at *
  obtain rfl:cd=E:=by rw [← HE.out];unfold Clu.opErr;rw [if_pos (by rw [HCD.out];exact hw)];exact HCD.out.symm
  clear HF HE HCD
  go_enter Tryz.func63,Tryz.ntmps63
  go_wp2_with fail
  refine (HW.out _ (zaO (zaO (Below.refl _ _) _) _)).mono ?_
  rintro e w' ⟨rfl,rfl⟩
  clear HW
  go_wp2
  refine bodyPost_ret (v := .tuple #[zVal,.int .i64 cd]) ?_ rfl ⟨⟨0,⟨#[]⟩,0,0,⟨#[]⟩,0⟩,rfl,fun e=>absurd e hw,zaO (zaO (Below.refl _ _) _) _⟩
  simp [results,Tryz.results63,go_sem,zVal]
end Go.Proofs.YtahdlejgjcjeoabGreatDoor
