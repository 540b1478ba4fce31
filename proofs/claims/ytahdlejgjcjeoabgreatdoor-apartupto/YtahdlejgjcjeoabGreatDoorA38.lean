/- A game: the law's act, where nothing is in flight and nothing is sent. -/
import Derived.Test.YtahdlejgjcjeoabGreatDoorA30
import Derived.Test.YtahdlejgjcjeoabGreatDoorA35
import Derived.Test.YtahdlejgjcjeoabGreatDoorA24
import Derived.RegionTactic
import Derived.BigRegion
import Derived.Test.YtahdlejgjcjeoabGreatDoorA37
namespace Go.Proofs.YtahdlejgjcjeoabGreatDoor
set_option maxHeartbeats 8000000
open Go.RowKit
theorem RefRepB.pushTorn {w1 w2 w3:World}{col:Col}{o i g cap H:Nat}{near:List Bool}{D:RefD}{p:Rep}{r:Rc}{dn:Bool}{t:List UInt8}(h:RefRepB w1 col o i near D p dn)(hi:i<6)(hu:p.down=true)(hnt:∀ q∈D.rs,q.torn=false)(hb:Below w1.heap.size w1 w2)
  (hown:w3.ownsRow 0 152 5 (.slice (some ⟨g,0,none⟩) (D.rs.length+1) cap) (D.rs.length+1) (D.rs.flatMap Rc.cells ++ r.cells)) (hg:w2.grownBy w3 D.vl.ownBlock) (hat:D.vl.ownBlock=some g∨g=H) (hH:w1.heap.size≤H) (hd:Held w1 col (o,1) r.v r.d) (ht:r.torn=true) (hbs:r.bytes=bstr t) :
  (w3.cell? ⟨D.ρ,7,none⟩=some D.vl∧w3.frozen? ⟨D.ρ,7,none⟩=false)∧RefRepB (w3.setCell ⟨D.ρ,7,none⟩ (.slice (some ⟨g,0,none⟩) (D.rs.length+1) cap)) (paint col w1.heap.size (o,50+i)) o i near { D with vl := .slice (some ⟨g,0,none⟩) (D.rs.length+1) cap,rs:=D.rs ++ [r] } { p with torn:=t } dn∧FrC (ofRep o i) col (paint col w1.heap.size (o,50+i)) w1 (w3.setCell ⟨D.ρ,7,none⟩ (.slice (some ⟨g,0,none⟩) (D.rs.length+1) cap)):=by
 obtain ⟨hr3,hf3⟩:=h.log.lies hb hown hg hat hH
 have ne:∀ j,j ≠ 50+i→¬ ((o,j)=(o,50+i)):=fun j hj e=>hj (congrArg Prod.snd e)
 have hblk:=hf3.block h.blk (by rw [h.cρ];exact ne _ (by omega))
 have hρ:paint col w1.heap.size (o,50+i) D.ρ=(o,10+i):=(hf3.colB h.blk).trans h.cρ
 have f4:FrC (fun x=>x=(o,50+i)∨x=(o,10+i)) col (paint col w1.heap.size (o,50+i)) w1 (w3.setCell ⟨D.ρ,7,none⟩ (.slice (some ⟨g,0,none⟩) (D.rs.length+1) cap)):=(hf3.mono fun x e => .inl e).trans (zdK (S:=fun x=>x=(o,50+i)∨x=(o,10+i)) 7 _ (.inr hρ))
 have f5:FrC (fun x=>x=(o,10+i)) (paint col w1.heap.size (o,50+i)) (paint col w1.heap.size (o,50+i)) w3 (w3.setCell ⟨D.ρ,7,none⟩ (.slice (some ⟨g,0,none⟩) (D.rs.length+1) cap)):=zdK (S:=fun x=>x=(o,10+i)) 7 _ hρ
 have n4:∀ j,j ≠ 50+i→j ≠ 10+i→¬ ((o,j)=(o,50+i)∨(o,j)=(o,10+i)):=fun j h1 h2 e=>by
  rcases e with e | e
  ·exact h1 (congrArg Prod.snd e)
  ·exact h2 (congrArg Prod.snd e)
 have hrest:=h.toRefRest
 refine ⟨⟨zaX hblk 7,zaZ hblk 7⟩,{ atoms:=hrest.atoms.kept f4 (n4 _ (by omega) (by omega)),taken:=hrest.taken.kept f4 (n4 _ (by omega) (by omega)),tkd:=fun t ht=>(hrest.tkd t ht).kept f4 (n4 _ (by omega) (by omega)),tsl:=hrest.tsl,buf:=hrest.buf,near:=hrest.near.kept f4 (n4 _ (by omega) (by omega)),acked:=hrest.acked.kept f4 (n4 _ (by omega) (by omega)),log := ?_,rcd:=fun q hq => ?_,logs := ?_,blk:=zeJ (o:=7) hblk _,cρ:=hρ },f4.mono fun x e => ?_⟩
 ·show RowC _ _ _ _ 5 _ (D.rs ++ [r]).length ((D.rs ++ [r]).flatMap Rc.cells)
  rw [List.length_append,List.flatMap_append]
  simpa using hr3.kept f5 (fun e=>by have:=congrArg Prod.snd e;simp only at this;omega)
 ·rcases List.mem_append.1 hq with hq | hq
  ·exact (hrest.rcd q hq).kept f4 (n4 _ (by omega) (by omega))
  ·obtain rfl:=List.mem_singleton.1 hq
   exact hd.kept f4 (n4 _ (by omega) (by omega))
 ·obtain ⟨A,B,e,hA,hm,hB⟩:=hrest.logs
  obtain rfl:B = []:=by
   rcases hB with ⟨hB,_⟩ | ⟨q,hq,h2,_⟩
   ·exact hB
   ·have:=hnt q (by rw [e,hq];simp)
    rw [h2] at this
    cases this
  exact ⟨A,[r],by show D.rs ++ [r]=_;rw [e];simp,hA,hm,.inr ⟨r,rfl,ht,hbs,hu⟩⟩
 ·rcases e with e | e
  ·rw [e];exact zhn hi (k:=5) (by omega)
  ·rw [e];exact zhn hi (k:=1) (by omega)
theorem LogIs.whole {rs:List Rc}{p:Rep}(h:LogIs rs p)(hu:p.down=false):∀ r∈rs,r.torn=false:=by
 obtain ⟨A,B,rfl,hA,_,hB⟩:=h
 rcases hB with ⟨rfl,_⟩ | ⟨_,_,_,_,h5⟩
 ·simpa using hA
 ·rw [hu] at h5
  cases h5
def TornAs (S:List UInt8)(keep:Int)(b:Bool)(t:ByteArray):Prop:=(b=true∧keep<S.length∧t=bstr (S.take keep.toNat))∨(b=false∧¬ keep<S.length∧t=⟨#[]⟩)
theorem RefRep.toB' {w:World}{col:Col}{o i:Nat}{near:List Bool}{D:RefD}{p:Rep}{d:Bool}(h:RefRep w col o i near D p)(e:p.down=d):RefRepB w col o i near D p d:=by
 subst e
 exact h.toB
theorem zjw {w w4:World}{col:Col}{o m ql:Nat}{near:List Bool}{D:RefD}{p:Rep}{a:At}{S:List UInt8}{keep:Int}{b:Bool}{t:ByteArray}{e:TypeId}(hR:RefRep w col o m near D p)(hm:m<6)(hu:p.down=false)(hb4:Below w.heap.size w w4)(hql:w.heap.size≤ql)
  (hbl:w4.heap[ql]? = some (.cells #[.int .i64 a.ty,.string a.key,.int .i64 a.side,.int .i64 a.who,.string a.elem,.int .i64 a.n] e (0,0))) (hS:recBytes ⟨1,p.num+1,[a]⟩=S) (hbt:TornAs S keep b t) (g cap:Nat) (w5:World)
  (hown:w5.ownsRow 0 152 5 (.slice (some ⟨g,0,none⟩) (D.rs.length+1) cap) (D.rs.length+1) (D.rs.flatMap Rc.cells ++ [.int .i64 1,.int .i64 ((p.num:Int)+1),.slice (some ⟨ql,0,none⟩) 1 1,.bool b,.string t])) (w2:World) (h2:Below w4.heap.size w4 w2) (hg:w2.grownBy w5 D.vl.ownBlock) (hat:D.vl.ownBlock=some g∨g=w4.heap.size+1) :
  (w5.cell? ⟨D.ρ,7,none⟩=some D.vl∧w5.frozen? ⟨D.ρ,7,none⟩=false)∧∃ D' col' p',D'.ρ=D.ρ∧RefRepB (w5.setCell ⟨D.ρ,7,none⟩ (.slice (some ⟨g,0,none⟩) (D.rs.length+1) cap)) col' o m near D' p' false∧p'.fall=(p.tear [a] keep).fall∧p'.acked=p.acked∧FrC (ofRep o m) col col' w (w5.setCell ⟨D.ρ,7,none⟩ (.slice (some ⟨g,0,none⟩) (D.rs.length+1) cap)):=by
 have hR4:=hR.below hb4 (o,1)
 have hF4:FrC (ofRep o m) col (paint col w.heap.size (o,1)) w w4:=zdH hb4 (o,1)
 have hH:Held w4 (paint col w.heap.size (o,1)) (o,1) (.slice (some ⟨ql,0,none⟩) 1 1) [a]:=⟨_,1,rfl,Nat.le_refl _,fun _=>⟨ql,0,rfl,zaY hbl,zim col _ hql,fun k hk=>by
  obtain rfl:k=0:=by simp at hk;omega
  exact zbv hbl⟩⟩
 rcases hbt with ⟨rfl,hk,rfl⟩ | ⟨rfl,hk,rfl⟩
 ·have hL4:=hR4.logs.whole hu
  have hlg:LogIs D.rs { p with down:=true }:=by
   obtain ⟨A,B,e,hA,hmm,hB⟩:=hR4.logs
   refine ⟨A,B,e,hA,hmm,?_⟩
   rcases hB with hB | ⟨r,h1,h2,h3,h4⟩
   ·exact .inl hB
   ·exact .inr ⟨r,h1,h2,h3,rfl⟩
  have hB4:RefRepB w4 (paint col w.heap.size (o,1)) o m near D { p with down:=true } false:={ hR4.toRefRest with logs:=hlg,blk:=by rw [hR4.blk];simp [RefD.block,RefD.blockB,hu],cρ:=hR4.cρ }
  obtain ⟨c7,hB5,hF5⟩:=RefRepB.pushTorn (r:=⟨1,p.num+1,.slice (some ⟨ql,0,none⟩) 1 1,[a],true,bstr (S.take keep.toNat)⟩) hB4 hm rfl hL4 h2 hown hg hat (Nat.le_succ _) hH rfl rfl
  refine ⟨c7,_,_,_,by rfl,hB5,?_,by rfl,hF4.trans hF5⟩
  unfold Rep.tear
  rw [hS,if_pos hk]
  rfl
 ·obtain ⟨c7,hB5,hF5⟩:=RefRep.pushLog (r:=⟨1,p.num+1,.slice (some ⟨ql,0,none⟩) 1 1,[a],false,⟨#[]⟩⟩) hR4 hm hu h2 hown hg hat (Nat.le_succ _) hH rfl
  refine ⟨c7,_,_,_,by rfl,hB5.toB' hu,?_,by rfl,hF4.trans hF5⟩
  unfold Rep.tear
  rw [hS,if_neg hk]
  rfl
theorem zmX {w w3:World}{qd ql:Nat}{a b c d e:Value}{t t' : TypeId}{l:Array Value}(h:w3.heap[qd]? = some (.cells #[a,b,c,d,e] t (0,0)))(hl:w3.heap[ql]? = some (.cells l t' (0,0)))(hne:qd ≠ ql)(hb:Below w.heap.size w w3)(hq:w.heap.size≤qd)(u v:Value) :
  ((w3.setCell ⟨qd,3,none⟩ u).setCell ⟨qd,4,none⟩ v).heap[qd]? = some (.cells #[a,b,c,u,v] t (0,0))∧((w3.setCell ⟨qd,3,none⟩ u).setCell ⟨qd,4,none⟩ v).heap[ql]? = some (.cells l t' (0,0))∧Below w.heap.size w ((w3.setCell ⟨qd,3,none⟩ u).setCell ⟨qd,4,none⟩ v):=by
 refine ⟨(zeJ (o:=4) (zeJ (o:=3) h u) v).trans (by simp),?_,(hb.grown (zet w3 _ u) hb.size (fun k hk=>by cases hk;exact hq)).grown (zet _ _ v) (by rw [show (w3.setCell ⟨qd,3,none⟩ u).heap.size=w3.heap.size by simp [World.setCell]];exact hb.size) (fun k hk=>by cases hk;exact hq)⟩
 rw [Below.heap_setCell _ _ _ _ (fun e=>hne e.symm),Below.heap_setCell _ _ _ _ (fun e=>hne e.symm)]
 exact hl
set_option maxRecDepth 100000 in
theorem zkt {w:World}{col:Col}{o x N:Nat}{U:List At}{K:RefC}{c:Clu}(h:RefAt w col o x K c)(hok:c.ok U N)(hL:Lim U N)(r:Int)(op:OpV)(hop:op.short)(keep:Int)(hk0 : -9223372036854775808≤keep)(hk1:keep≤9223372036854775807) :
  Calls Tryz.prog 25 #[.pointer (some ⟨x,0,none⟩),.int .i64 r,op.val,.int .i64 keep] w fun e w' => e = .returned (.int .i64 (c.opErr r op))∧∃ K' col',Hid (RefAt w' col' o x K' (c.tornOp r op keep))∧Hid (FrC (ofOwner o) col col' w w'):=by
 have HM:Hid (∀ W,Below w.heap.size w W→Calls Tryz.prog 63 #[.pointer (some ⟨x,0,none⟩),.int .i64 r,op.val] W fun e w' => ∃ a:At,e = .returned (.tuple #[a.val,.int .i64 (c.opErr r op)])∧Hid (c.opErr r op=0→a=opAtom (c.rep r.toNat).atoms r.toNat op)∧Below W.heap.size W w'):=fun W hW=>zkc (h.same hW) hok hL r op hop
 obtain ⟨ty,key,side,elem,n⟩:=op
 obtain ⟨OP,hOP⟩:∃ OP:OpV,OP=⟨ty,key,side,elem,n⟩:=⟨_,rfl⟩
 have HOV:Hid (OP.val = .agg #[.int .i64 ty,.string key,.int .i64 side,.string elem,.int .i64 n]):=by rw [hOP];rfl
 rw [← hOP] at HM ⊢
 rw [HOV.out] at HM ⊢
 clear HOV hop hOP
 by_cases hE:c.opErr r OP=0
 ·obtain ⟨hw,hf,hn⟩:=zhz hE
  obtain ⟨⟨h0,hr⟩,hd⟩:=znz hw
  obtain ⟨m,rfl⟩:∃ m:Nat,r=m:=⟨r.toNat,by omega⟩
  simp only [Int.toNat_natCast] at hr hd hn HM
  rw [hE] at HM ⊢
  have hmay:=zhx (l:=(c.rep m).atoms) (r:=m) (o:=OP) (by have:=hok.n6;omega) hf hn
  have HU:Hid (c.tornOp m OP keep=c.setRep m ((c.rep m).tear [opAtom (c.rep m).atoms m OP] keep).fall):=by unfold Hid Clu.tornOp;rw [if_pos hE];rfl
  generalize opAtom (c.rep m).atoms m OP=AT at *
  have hn6:=hok.n6
  obtain ⟨g,cap,D,hv,hc,hD,hp,hR⟩:=h.ptr hr
  have c5:=h.cells.2.2.2.2.2.1
  rw [hv] at c5
  have hx:=zaY h.blk
  have hg:g<w.heap.size:=World.block_lt_of_cell? w ⟨g,m,none⟩ hp
  have hρ:=zaY hR.blk
  have d2:=hR.cells.2.2.1
  have d7:=hR.cells.2.2.2.2.2.2.2.1
  go_enter Tryz.func25,Tryz.ntmps25
  go_wp2_with fail
  refine (HM.out _ (zaO (Below.refl _ _) _)).mono ?_
  rintro e w1 ⟨a,rfl,ha,hb1⟩
  obtain rfl:a=AT:=by simpa using ha.out
  have hbw:Below w.heap.size w w1:=(zaO (Below.refl _ w) _).trans (hb1.mono (by simp))
  have c51:w1.cell? ⟨x,5,none⟩=some (.slice (some ⟨g,0,none⟩) c.reps.length cap):=by rw [hbw.cell (p:=⟨x,5,none⟩) hx];exact c5
  have hp1:w1.cell? ⟨g,m,none⟩=some (.pointer (some ⟨D.ρ,0,none⟩)):=by rw [hbw.cell (p:=⟨g,m,none⟩) hg];exact hp
  have d21:w1.cell? ⟨D.ρ,2,none⟩=some (.int .i64 (c.rep m).num):=by rw [hbw.cell (p:=⟨D.ρ,2,none⟩) hρ];exact d2
  have hs1:=hbw.size
  have hx1:x<w1.heap.size:=by omega
  have hg1:g<w1.heap.size:=by omega
  have hρ1:D.ρ<w1.heap.size:=by omega
  have hnum:=(hok.rep hr).num
  have hN:=hL.1
  obtain ⟨a0,a1,a2,a3,a4,a5⟩:=a
  simp only [At.val] at *
  generalize hnm:(c.rep m).num=nm at *
  generalize hLL:c.reps.length=L at *
  have q1:(m:Int)<(L:Int):=by omega
  go_wp2_with fail
  have hab:=heap_alloc_new w1 (.cells #[.int .i64 a0,.string a1,.int .i64 a2,.int .i64 a3,.string a4,.int .i64 a5] 76)
  have hb2:=zaO (Below.refl _ w1) (.cells #[.int .i64 a0,.string a1,.int .i64 a2,.int .i64 a3,.string a4,.int .i64 a5] 76)
  generalize w1.alloc (.cells #[.int .i64 a0,.string a1,.int .i64 a2,.int .i64 a3,.string a4,.int .i64 a5] 76)=w2 at *
  obtain ⟨t0,t1,t2,t3,t4,t5⟩:=zlw hab
  have d22:w2.cell? ⟨D.ρ,2,none⟩=some (.int .i64 nm):=by rw [hb2.cell (p:=⟨D.ρ,2,none⟩) hρ1];exact d21
  have hw2:w1.heap.size<w2.heap.size:=zaY hab
  have hρ2:D.ρ<w2.heap.size:=by omega
  have hbw2:=hbw.trans (hb2.mono hbw.size)
  have hs2:w.heap.size≤w2.heap.size:=hbw2.size
  clear hab hb2 d21 c51 hp1 HM hb1 ha
  go_cut [12] from 14 (fun s12 wc=>∃ qd ql:Nat,s12 = .pointer (some ⟨qd,0,none⟩)∧w.heap.size≤qd∧w.heap.size≤ql∧Hid (wc.heap[qd]? = some (.cells #[.int .i64 1,.int .i64 ((nm:Int)+1),.slice (some ⟨ql,0,none⟩) 1 1,.bool false,.string ⟨#[]⟩] 152 (0,0)))∧Hid (wc.heap[ql]? = some (.cells #[.int .i64 a0,.string a1,.int .i64 a2,.int .i64 a3,.string a4,.int .i64 a5] 76 (0,0)))∧Hid (Below w.heap.size w wc)∧qd ≠ ql)
  case first =>
   go_region
   all_goals go_wp2
   all_goals go_meet
   all_goals (case rel=>first | exact ⟨w2.heap.size+1,w2.heap.size,rfl,by omega,hs2,(zm0 w2 _ _).1,(zm0 w2 _ _).2,(zaO (zaO hbw2 _) _).drew,by omega⟩ | exact ⟨w2.heap.size,w2.heap.size+1,rfl,hs2,by omega,(zm0 w2 _ _).2,(zm0 w2 _ _).1,(zaO (zaO hbw2 _) _).drew,by omega⟩)
  case rest =>
   obtain ⟨qd,ql,rfl,hqd,hql,hbd,hbl,hbc,hqq⟩:=hcut
   obtain ⟨u0,u1,u2,u3,u4⟩:=zdk hbd.out
   have HT1:=zmM hmay
   have HBY:Hid (Calls Tryz.prog 66 #[.agg #[.int .i64 1,.int .i64 ((nm:Int)+1),.slice (some ⟨ql,0,none⟩) 1 1,.bool false,.string ⟨#[]⟩]] wc fun e w' => e = .returned (.string (bstr (recBytes ⟨1,nm+1,[⟨a0,a1,a2,a3,a4,a5⟩]⟩)))∧Below wc.heap.size wc w'):=zjZ 1 (nm+1) (.slice (some ⟨ql,0,none⟩) 1 1) [⟨a0,a1,a2,a3,a4,a5⟩] ⟨#[]⟩ wc ⟨_,1,rfl,Nat.le_refl _,fun _=>⟨ql,0,rfl,zaY hbl.out,fun k hk=>by
    obtain rfl:k=0:=by simp at hk;omega
    exact zbv (a:=⟨a0,a1,a2,a3,a4,a5⟩) hbl.out⟩⟩ HT1 (by simp) (by omega) (by omega)
   obtain ⟨S,HS⟩:∃ S,Hid (recBytes ⟨1,nm+1,[⟨a0,a1,a2,a3,a4,a5⟩]⟩=S):=⟨_,rfl⟩
   rw [HS.out] at HBY
   obtain ⟨KS,HKS⟩:∃ KS,Hid (bstr S=KS):=⟨_,rfl⟩
   rw [HKS.out] at HBY
   have hlenS:(0:Int)<S.length:=by rw [← HS.out];unfold recBytes;simp [be];omega
   have hKsz:KS.size=S.length:=by rw [← HKS.out,za8]
   obtain ⟨adl,cpl,hvl,hcl⟩:=hR.log.form
   have hrl:=(hR.logs.fine (hok.rep (by rw [hLL];exact hr)) hL).2
   obtain ⟨i0,hi0,hz0,hz1,hz2⟩:=info_parts zff
   have HOWN:Hid (∀ W,Below w.heap.size w W→W.ownsRow 0 152 5 (.slice adl D.rs.length cpl) D.rs.length (D.rs.flatMap Rc.cells)):=fun W hW=>by
    rw [← hvl]
    exact (hR.below hW (o,1)).log.own
   have HPT:Hid (∀ W b t,Below w.heap.size w W→W.heap[ql]? = some (.cells #[.int .i64 a0,.string a1,.int .i64 a2,.int .i64 a3,.string a4,.int .i64 a5] 76 (0,0))→TornAs S keep b t→_):=fun W b t hW hq hbt=>zjw (e:=76) (a:=⟨a0,a1,a2,a3,a4,a5⟩) (b:=b) (t:=t) (w4:=W) hR (by omega) hd hW hql hq (by rw [hnm];exact HS.out) hbt
   rw [hnm,hvl] at HPT
   rw [hvl] at d7
   clear t0 t1 t2 t3 t4 t5 d22 hw2
   have HACK:Hid ((c.rep m).acked.length≤6):=by have:=(hok.rep (r:=m) (by rw [hLL];exact hr)).ackL;unfold Hid;omega
   have HFIN:Hid (∀ w' D' col',D'.ρ=D.ρ→RefRep w' col' o m (nearRow c m) D' ((c.rep m).tear [⟨a0,a1,a2,a3,a4,a5⟩] keep).fall→FrC (ofRep o m) col col' w w' → RefAt w' col' o x { K with Ds:=K.Ds.set m D' } (c.setRep m ((c.rep m).tear [⟨a0,a1,a2,a3,a4,a5⟩] keep).fall)):=fun w' D' col' h1 h2 h3=>h.setRep (by rw [hLL];exact hn6) (by rw [hLL];exact hr) h3 (fun h' => by rw [zcy hD h'];exact h1) h2
   clear hR hok hL h hmay HT1 hD hv
   go_wp2_with fail
   refine HBY.out.mono ?_
   rintro e w3 ⟨rfl,hb3⟩
   clear HBY
   have hqc:=zaY hbd.out
   have hlc:=zaY hbl.out
   have HB3:Hid (Below w.heap.size w w3):=hbc.out.trans (hb3.mono hbc.out.size)
   have HD3:Hid (w3.heap[qd]? = some (.cells #[.int .i64 1,.int .i64 ((nm:Int)+1),.slice (some ⟨ql,0,none⟩) 1 1,.bool false,.string ⟨#[]⟩] 152 (0,0))):=(hb3.block _ hqc).trans hbd.out
   have HL3:Hid (w3.heap[ql]? = some (.cells #[.int .i64 a0,.string a1,.int .i64 a2,.int .i64 a3,.string a4,.int .i64 a5] 76 (0,0))):=(hb3.block _ hlc).trans hbl.out
   clear hb3 hbd hbl hbc u0 u1 u2 u3 u4
   obtain ⟨u0,u1,u2,u3,u4⟩:=zdk HD3.out
   have f3:=zaZ HD3.out 3
   have f4:=zaZ HD3.out 4
   have hq3:=zaY HD3.out
   obtain ⟨keep0,hke⟩:∃ keep0,keep0=keep:=⟨_,rfl⟩
   rw [← hke] at HU HFIN HPT
   have h3:keep<0∨(0≤keep∧keep<S.length)∨(S.length:Int)≤keep:=by omega
   rcases h3 with hk | ⟨hk,hk2⟩ | hk
   ·have HT:Hid (TornAs S keep0 true ByteArray.empty) := .inl ⟨rfl,by omega,by rw [hke,show keep.toNat=0 by omega];rfl⟩
    have HE:=Hid.mk hke
    clear hke
    have ⟨x1,x2,x3⟩:=zmX HD3.out HL3.out hqq HB3.out hqd (.bool true) (.string ByteArray.empty)
    have HD4:=Hid.mk x1
    have HL4:=Hid.mk x2
    have HB4:=Hid.mk x3
    clear x1 x2 x3
    go_wp2
    generalize (w3.setCell ⟨qd,3,none⟩ (Value.bool true)).setCell ⟨qd,4,none⟩ (Value.string ByteArray.empty)=w4 at *
    clear HD3 HL3 HB3 u0 u1 u2 u3 u4 f3 f4 hq3
    obtain ⟨u0,u1,u2,u3,u4⟩:=zdk HD4.out
    have hρ4:D.ρ<w4.heap.size:=Nat.lt_of_lt_of_le hρ HB4.out.size
    have e7:w4.cell? ⟨D.ρ,7,none⟩=some (.slice adl D.rs.length cpl):=by rw [HB4.out.cell (p:=⟨D.ρ,7,none⟩) hρ];exact d7
    have hqd4:qd<w4.heap.size:=zaY HD4.out
    have HO4:=Hid.mk (HOWN.out _ HB4.out)
    have HP4:=Hid.mk (HPT.out _ _ _ HB4.out HL4.out HT.out)
    clear HOWN HPT
    go_cut [] from 14 (fun wc=>Hid (∃ D' col' p',D'.ρ=D.ρ∧RefRepB wc col' o m (nearRow c m) D' p' false∧p'.fall=((c.rep m).tear [⟨a0,a1,a2,a3,a4,a5⟩] keep0).fall∧p'.acked=(c.rep m).acked∧FrC (ofRep o m) col col' w wc))
    case first =>
     go_region_law (refine step_append_lies _ rfl _ _ 140 rfl 0 152 i0 _ 5 64 Tryz.underlying140 hi0 hz0 hz1 hz2 rfl (by decide) _ D.rs.length _ rfl (HO4.out.alloc _) ⟨w4.heap.size,0,none⟩ 1 1 [.int .i64 1,.int .i64 ((nm:Int)+1),.slice (some ⟨ql,0,none⟩) 1 1,.bool true,.string ByteArray.empty] rfl rfl (World.news_of_block (heap_alloc_new w4 _)) (zdn rfl _ _) (by decide) (by unfold maxLen;omega) (by omega) (by simp) (w4.heap.size+1) (by simp) ?_;intro g3 capn w5 hown3 hgrow3 hat3 hlt3;obtain ⟨⟨k7,l7⟩,hrep3⟩:=HP4.out g3 capn w5 hown3 (w4.alloc (.cells #[.int .i64 1,.int .i64 ((nm:Int)+1),.slice (some ⟨ql,0,none⟩) 1 1,.bool true,.string ByteArray.empty] 152)) (zaO (Below.refl _ _) _) (zeq hgrow3) hat3)
     all_goals go_wp2
     all_goals go_meet
     all_goals (case rel=>exact hrep3)
    case rest =>
     obtain ⟨D5,col5,p5,hρ5,hB5,hfl5,hak5,hF5⟩:=hcut
     have HDN:=Hid.mk (zj4 hB5 (by omega) (by rw [hak5];exact HACK.out))
     rw [hρ5] at HDN
     clear hB5 HO4 HP4 HT HD4 HL4 HB4 u0 u1 u2 u3 u4 e7
     go_wp2_with fail
     refine HDN.out.mono ?_
     rintro e w6 ⟨rfl,D6,col6,hρ6,hR6,hF6⟩
     have HR6:=Hid.mk (HFIN.out _ _ _ hρ6 (hfl5 ▸ hR6.out) (hF5.trans hF6.out))
     have HF6:Hid (FrC (ofOwner o) col col6 w w6):=(hF5.trans hF6.out).mono zhm
     clear HFIN hF5 hF6 hR6
     go_wp2
     go_ret
     exact ⟨rfl,_,col6,by rw [← HE.out,HU.out];exact HR6.out,HF6.out⟩
   ·obtain ⟨k,rfl⟩:∃ k:Nat,keep=k:=⟨keep.toNat,by omega⟩
    have hkS:k≤KS.size:=by omega
    have hkS2:(k:Int)<(KS.size:Int):=by omega
    have HT:Hid (TornAs S keep0 true (KS.extract 0 k)) := .inl ⟨rfl,by omega,by rw [hke,← HKS.out,za4];simp⟩
    have HE:=Hid.mk hke
    clear hke
    have ⟨x1,x2,x3⟩:=zmX HD3.out HL3.out hqq HB3.out hqd (.bool true) (.string (KS.extract 0 k))
    have HD4:=Hid.mk x1
    have HL4:=Hid.mk x2
    have HB4:=Hid.mk x3
    clear x1 x2 x3
    go_wp2
    generalize (w3.setCell ⟨qd,3,none⟩ (Value.bool true)).setCell ⟨qd,4,none⟩ (Value.string (KS.extract 0 k))=w4 at *
    clear HD3 HL3 HB3 u0 u1 u2 u3 u4 f3 f4 hq3
    generalize KS.extract 0 k=tx at *
    obtain ⟨u0,u1,u2,u3,u4⟩:=zdk HD4.out
    have hρ4:D.ρ<w4.heap.size:=Nat.lt_of_lt_of_le hρ HB4.out.size
    have e7:w4.cell? ⟨D.ρ,7,none⟩=some (.slice adl D.rs.length cpl):=by rw [HB4.out.cell (p:=⟨D.ρ,7,none⟩) hρ];exact d7
    have hqd4:qd<w4.heap.size:=zaY HD4.out
    have HO4:=Hid.mk (HOWN.out _ HB4.out)
    have HP4:=Hid.mk (HPT.out _ _ _ HB4.out HL4.out HT.out)
    clear HOWN HPT
    go_cut [] from 14 (fun wc=>Hid (∃ D' col' p',D'.ρ=D.ρ∧RefRepB wc col' o m (nearRow c m) D' p' false∧p'.fall=((c.rep m).tear [⟨a0,a1,a2,a3,a4,a5⟩] keep0).fall∧p'.acked=(c.rep m).acked∧FrC (ofRep o m) col col' w wc))
    case first =>
     go_region_law (refine step_append_lies _ rfl _ _ 140 rfl 0 152 i0 _ 5 64 Tryz.underlying140 hi0 hz0 hz1 hz2 rfl (by decide) _ D.rs.length _ rfl (HO4.out.alloc _) ⟨w4.heap.size,0,none⟩ 1 1 [.int .i64 1,.int .i64 ((nm:Int)+1),.slice (some ⟨ql,0,none⟩) 1 1,.bool true,.string tx] rfl rfl (World.news_of_block (heap_alloc_new w4 _)) (zdn rfl _ _) (by decide) (by unfold maxLen;omega) (by omega) (by simp) (w4.heap.size+1) (by simp) ?_;intro g3 capn w5 hown3 hgrow3 hat3 hlt3;obtain ⟨⟨k7,l7⟩,hrep3⟩:=HP4.out g3 capn w5 hown3 (w4.alloc (.cells #[.int .i64 1,.int .i64 ((nm:Int)+1),.slice (some ⟨ql,0,none⟩) 1 1,.bool true,.string tx] 152)) (zaO (Below.refl _ _) _) (zeq hgrow3) hat3)
     all_goals go_wp2
     all_goals go_meet
     all_goals (case rel=>exact hrep3)
    case rest =>
     obtain ⟨D5,col5,p5,hρ5,hB5,hfl5,hak5,hF5⟩:=hcut
     have HDN:=Hid.mk (zj4 hB5 (by omega) (by rw [hak5];exact HACK.out))
     rw [hρ5] at HDN
     clear hB5 HO4 HP4 HT HD4 HL4 HB4 u0 u1 u2 u3 u4 e7
     go_wp2_with fail
     refine HDN.out.mono ?_
     rintro e w6 ⟨rfl,D6,col6,hρ6,hR6,hF6⟩
     have HR6:=Hid.mk (HFIN.out _ _ _ hρ6 (hfl5 ▸ hR6.out) (hF5.trans hF6.out))
     have HF6:Hid (FrC (ofOwner o) col col6 w w6):=(hF5.trans hF6.out).mono zhm
     clear HFIN hF5 hF6 hR6
     go_wp2
     go_ret
     exact ⟨rfl,_,col6,by rw [← HE.out,HU.out];exact HR6.out,HF6.out⟩
   ·have hkS:¬ keep<(KS.size:Int):=by omega
    have hkn:¬ keep<0:=by omega
    have HT:Hid (TornAs S keep0 false ⟨#[]⟩) := .inr ⟨rfl,by omega,rfl⟩
    have HE:=Hid.mk hke
    clear hke
    go_wp2
    clear u0 u1 u2 u3 u4 f3 f4 hq3
    have HD4:=HD3
    have HL4:=HL3
    have HB4:=HB3
    clear HD3 HL3 HB3
    obtain ⟨u0,u1,u2,u3,u4⟩:=zdk HD4.out
    have hρ4:D.ρ<w3.heap.size:=Nat.lt_of_lt_of_le hρ HB4.out.size
    have e7:w3.cell? ⟨D.ρ,7,none⟩=some (.slice adl D.rs.length cpl):=by rw [HB4.out.cell (p:=⟨D.ρ,7,none⟩) hρ];exact d7
    have hqd4:qd<w3.heap.size:=zaY HD4.out
    have HO4:=Hid.mk (HOWN.out _ HB4.out)
    have HP4:=Hid.mk (HPT.out _ _ _ HB4.out HL4.out HT.out)
    clear HOWN HPT
    go_cut [] from 14 (fun wc=>Hid (∃ D' col' p',D'.ρ=D.ρ∧RefRepB wc col' o m (nearRow c m) D' p' false∧p'.fall=((c.rep m).tear [⟨a0,a1,a2,a3,a4,a5⟩] keep0).fall∧p'.acked=(c.rep m).acked∧FrC (ofRep o m) col col' w wc))
    case first =>
     go_region_law (refine step_append_lies _ rfl _ _ 140 rfl 0 152 i0 _ 5 64 Tryz.underlying140 hi0 hz0 hz1 hz2 rfl (by decide) _ D.rs.length _ rfl (HO4.out.alloc _) ⟨w3.heap.size,0,none⟩ 1 1 [.int .i64 1,.int .i64 ((nm:Int)+1),.slice (some ⟨ql,0,none⟩) 1 1,.bool false,.string ⟨#[]⟩] rfl rfl (World.news_of_block (heap_alloc_new w3 _)) (zdn rfl _ _) (by decide) (by unfold maxLen;omega) (by omega) (by simp) (w3.heap.size+1) (by simp) ?_;intro g3 capn w5 hown3 hgrow3 hat3 hlt3;obtain ⟨⟨k7,l7⟩,hrep3⟩:=HP4.out g3 capn w5 hown3 (w3.alloc (.cells #[.int .i64 1,.int .i64 ((nm:Int)+1),.slice (some ⟨ql,0,none⟩) 1 1,.bool false,.string ⟨#[]⟩] 152)) (zaO (Below.refl _ _) _) (zeq hgrow3) hat3)
     all_goals go_wp2
     all_goals go_meet
     all_goals (case rel=>exact hrep3)
    case rest =>
     obtain ⟨D5,col5,p5,hρ5,hB5,hfl5,hak5,hF5⟩:=hcut
     have HDN:=Hid.mk (zj4 hB5 (by omega) (by rw [hak5];exact HACK.out))
     rw [hρ5] at HDN
     clear hB5 HO4 HP4 HT HD4 HL4 HB4 u0 u1 u2 u3 u4 e7
     go_wp2_with fail
     refine HDN.out.mono ?_
     rintro e w6 ⟨rfl,D6,col6,hρ6,hR6,hF6⟩
     have HR6:=Hid.mk (HFIN.out _ _ _ hρ6 (hfl5 ▸ hR6.out) (hF5.trans hF6.out))
     have HF6:Hid (FrC (ofOwner o) col col6 w w6):=(hF5.trans hF6.out).mono zhm
     clear HFIN hF5 hF6 hR6
     go_wp2
     go_ret
     exact ⟨rfl,_,col6,by rw [← HE.out,HU.out];exact HR6.out,HF6.out⟩
 ·have HC:Hid (c.tornOp r OP keep=c):=by unfold Hid Clu.tornOp;rw [if_neg hE]
  generalize c.opErr r OP=cd at *
  go_enter Tryz.func25,Tryz.ntmps25
  go_wp2_with fail
  refine (HM.out _ (zaO (Below.refl _ _) _)).mono ?_
  rintro e w1 ⟨a,rfl,ha,hb1⟩
  have hbw:Below w.heap.size w w1:=(zaO (Below.refl _ w) _).trans (hb1.mono (by simp))
  have H1:=Hid.mk h
  clear hb1 h ha HM
  obtain ⟨a0,a1,a2,a3,a4,a5⟩:=a
  simp only [At.val]
  go_wp2
  go_ret
  exact ⟨rfl,K,col,by rw [HC.out];exact H1.out.same (hbw.alloc hbw.size _),zdJ (hbw.alloc hbw.size _)⟩
def Gt (Z:Snap)(w:World)(W x y B M t:Nat)(ob:Obj)(cR cP:Clu):Prop:=∃ col KR KP,GSt Z w col W x y B M KR KP cR cP∧(col t).1=4∧w.heap[t]? = some ob
section
variable {Z:Snap} {w w1 w' : World} {col:Col} {W x y B M M' N t:Nat} {U:List At} {c cR cP:Clu} {KR:RefC} {KP:PrK} {ob:Obj}
theorem GSt.anew (h:GSt Z w col W x y B M KR KP cR cP)(hb:Below w.heap.size w w1)(κ:Nat × Nat):GSt Z w1 (paint col w.heap.size κ) W x y B M KR KP cR cP:=by
 obtain ⟨va,es,hk⟩:=h.bk
 have hf:FrC (fun _=>False) col (paint col w.heap.size κ) w w1:=⟨(Fr.refl _ w).below hb,fun q hq=>zin col _ hq⟩
 obtain ⟨h1,h2⟩:=h.wK hf (fun _ _=>id)
 exact ⟨h.old.kept hf (fun _ _=>id),h.tab.kept hf id,h.ref.kept hf (fun _=>id),h.prg.kept hf (fun _=>id),h1,h2,va,es,hk.kept hf (fun _ _=>id)⟩
theorem Gt.gm (h:Gt Z w W x y B M t ob c c):Gm Z w W x y B M c:=by
 obtain ⟨col,KR,KP,g,-⟩:=h
 exact ⟨col,KR,KP,g⟩
theorem Gm.withT (h:Gm Z w W x y B M c)(hb:Below w.heap.size w w1)(ht:w1.heap[w.heap.size]? = some ob):Gt Z w1 W x y B M w.heap.size ob c c:=by
 obtain ⟨col,KR,KP,g⟩:=h
 exact ⟨_,KR,KP,g.anew hb (4,0),by rw [zim col _ (Nat.le_refl _)],ht⟩
theorem Gt.same (h:Gt Z w W x y B M t ob cR cP)(hb:Below w.heap.size w w'):Gt Z w' W x y B M t ob cR cP:=by
 obtain ⟨col,KR,KP,g,h1,h2⟩:=h
 exact ⟨col,KR,KP,g.same hb,h1,(hb.block t (zaY h2)).trans h2⟩
theorem Gt.cell0 (h:Gt Z w W x y B M t ob cR cP):w.cell? ⟨W,0,none⟩=some (.pointer (some ⟨x,0,none⟩)):=by
 obtain ⟨col,KR,KP,g,-⟩:=h
 exact (zaX g.wb 0).trans rfl
theorem Gt.cell1 (h:Gt Z w W x y B M t ob cR cP):w.cell? ⟨W,1,none⟩=some (.pointer (some ⟨y,0,none⟩)):=by
 obtain ⟨col,KR,KP,g,-⟩:=h
 exact (zaX g.wb 1).trans rfl
theorem Gt.blk (h:Gt Z w W x y B M t ob cR cP):w.heap[t]? = some ob:=by
 obtain ⟨col,KR,KP,g,-,h2⟩:=h
 exact h2
theorem Gt.byPrg {col' : Col}{K' : PrK}{c' : Clu}(g:GSt Z w col W x y B M KR KP cR cP)(ht:(col t).1=4)(hb:w.heap[t]? = some ob)(hf:FrC (ofOwn 2) col col' w w')(hp:PrgAt w' col' 2 x K' c'):Gt Z w' W x y B M t ob cR c' :=
 ⟨col',KR,K',g.byPrg hf hp,by rw [hf.colB hb];exact ht,hf.block hb (fun (e:(col t).1=2)=>by omega)⟩
theorem Gt.byRef {col' : Col}{K' : RefC}{c' : Clu}(g:GSt Z w col W x y B M KR KP cR cP)(ht:(col t).1=4)(hb:w.heap[t]? = some ob)(hf:FrC (ofOwner 1) col col' w w')(hp:RefAt w' col' 1 y K' c'):Gt Z w' W x y B M t ob c' cP :=
 ⟨col',K',KP,g.byRef hf hp,by rw [hf.colB hb];exact ht,hf.block hb (fun (e:(col t).1=1)=>by omega)⟩
theorem Gt.pUpdate (h:Gt Z w W x y B M t ob cR c)(hok:c.ok U N)(hL:Lim U N)(r:Int)(op:OpV)(hop:op.short) :
  Calls Tryz.prog 22 #[.pointer (some ⟨x,0,none⟩),.int .i64 r,op.val] w fun e w' => e = .returned (.int .i64 (c.opErr r op))∧Gt Z w' W x y B M t ob cR (c.update r op):=by
 obtain ⟨col,KR,KP,g,ht,hb⟩:=h
 exact (zju g.prg (by decide) g.tab hok hL r op hop).mono fun e w' ⟨h1,K',col',h2,h3⟩=>⟨h1,Gt.byPrg g ht hb h3.out h2.out⟩
theorem Gt.dUpdate (h:Gt Z w W x y B M t ob c cP)(hok:c.ok U N)(hL:Lim U N)(r:Int)(op:OpV)(hop:op.short) :
  Calls Tryz.prog 23 #[.pointer (some ⟨y,0,none⟩),.int .i64 r,op.val] w fun e w' => e = .returned (.int .i64 (c.opErr r op))∧Gt Z w' W x y B M t ob (c.update r op) cP:=by
 obtain ⟨col,KR,KP,g,ht,hb⟩:=h
 exact (zku g.ref hok hL r op hop).mono fun e w' ⟨h1,K',col',h2,h3⟩=>⟨h1,Gt.byRef g ht hb h3.out h2.out⟩
theorem Gt.pTorn (h:Gt Z w W x y B M t ob cR c)(hok:c.ok U N)(hL:Lim U N)(r:Int)(op:OpV)(hop:op.short)(keep:Int) :
  Calls Tryz.prog 24 #[.pointer (some ⟨x,0,none⟩),.int .i64 r,op.val,.int .i64 keep] w fun e w' => e = .returned (.int .i64 (c.opErr r op))∧Gt Z w' W x y B M t ob cR (c.tornOp r op keep):=by
 obtain ⟨col,KR,KP,g,ht,hb⟩:=h
 exact (zjs g.prg (by decide) g.tab hok hL r op hop keep).mono fun e w' ⟨h1,K',col',h2,h3⟩=>⟨h1,Gt.byPrg g ht hb h3.out h2.out⟩
theorem Gt.dTorn (h:Gt Z w W x y B M t ob c cP)(hok:c.ok U N)(hL:Lim U N)(r:Int)(op:OpV)(hop:op.short)(keep:Int)(hk0 : -9223372036854775808≤keep)(hk1:keep≤9223372036854775807) :
  Calls Tryz.prog 25 #[.pointer (some ⟨y,0,none⟩),.int .i64 r,op.val,.int .i64 keep] w fun e w' => e = .returned (.int .i64 (c.opErr r op))∧Gt Z w' W x y B M t ob (c.tornOp r op keep) cP:=by
 obtain ⟨col,KR,KP,g,ht,hb⟩:=h
 exact (zkt g.ref hok hL r op hop keep hk0 hk1).mono fun e w' ⟨h1,K',col',h2,h3⟩=>⟨h1,Gt.byRef g ht hb h3.out h2.out⟩
theorem Gt.pCrash (h:Gt Z w W x y B M t ob cR c)(hok:c.ok U N)(hL:Lim U N)(r:Int) :
  Calls Tryz.prog 26 #[.pointer (some ⟨x,0,none⟩),.int .i64 r] w fun e w' => e = .returned (.int .i64 (c.works r))∧Gt Z w' W x y B M t ob cR (c.crash r):=by
 obtain ⟨col,KR,KP,g,ht,hb⟩:=h
 exact (ziV g.prg hok hL r).mono fun e w' ⟨h1,K',col',h2,h3⟩=>⟨h1,Gt.byPrg g ht hb h3.out h2.out⟩
theorem Gt.dCrash (h:Gt Z w W x y B M t ob c cP)(hok:c.ok U N)(_hL:Lim U N)(r:Int) :
  Calls Tryz.prog 27 #[.pointer (some ⟨y,0,none⟩),.int .i64 r] w fun e w' => e = .returned (.int .i64 (c.works r))∧Gt Z w' W x y B M t ob (c.crash r) cP:=by
 obtain ⟨col,KR,KP,g,ht,hb⟩:=h
 exact (zj2 g.ref hok r).mono fun e w' ⟨h1,K',col',h2,h3⟩=>⟨h1,Gt.byRef g ht hb h3.out h2.out⟩
theorem Gt.pStart (h:Gt Z w W x y B M t ob cR c)(hok:c.ok U N)(hL:Lim U N)(r:Int) :
  Calls Tryz.prog 28 #[.pointer (some ⟨x,0,none⟩),.int .i64 r] w fun e w' => e = .returned (.int .i64 (c.startErr r))∧Gt Z w' W x y B M t ob cR (c.start r):=by
 obtain ⟨col,KR,KP,g,ht,hb⟩:=h
 exact (zjk g.prg (by decide) g.tab hok hL r).mono fun e w' ⟨h1,K',col',h2,h3⟩=>⟨h1,Gt.byPrg g ht hb h3.out h2.out⟩
theorem Gt.dStart (h:Gt Z w W x y B M t ob c cP)(hok:c.ok U N)(hL:Lim U N)(r:Int) :
  Calls Tryz.prog 29 #[.pointer (some ⟨y,0,none⟩),.int .i64 r] w fun e w' => e = .returned (.int .i64 (c.startErr r))∧Gt Z w' W x y B M t ob (c.start r) cP:=by
 obtain ⟨col,KR,KP,g,ht,hb⟩:=h
 exact (zkm g.ref hok hL r).mono fun e w' ⟨h1,K',col',h2,h3⟩=>⟨h1,Gt.byRef g ht hb h3.out h2.out⟩
theorem Gt.pCompact (h:Gt Z w W x y B M t ob cR c)(hok:c.ok U N)(hL:Lim U N)(r:Int) :
  Calls Tryz.prog 30 #[.pointer (some ⟨x,0,none⟩),.int .i64 r] w fun e w' => e = .returned (.int .i64 (c.works r))∧Gt Z w' W x y B M t ob cR (c.compact r):=by
 obtain ⟨col,KR,KP,g,ht,hb⟩:=h
 exact (ziR g.prg (by decide) g.tab hok hL r).mono fun e w' ⟨h1,K',col',h2,h3⟩=>⟨h1,Gt.byPrg g ht hb h3.out h2.out⟩
theorem Gt.dCompact (h:Gt Z w W x y B M t ob c cP)(hok:c.ok U N)(hL:Lim U N)(r:Int) :
  Calls Tryz.prog 31 #[.pointer (some ⟨y,0,none⟩),.int .i64 r] w fun e w' => e = .returned (.int .i64 (c.works r))∧Gt Z w' W x y B M t ob (c.compact r) cP:=by
 obtain ⟨col,KR,KP,g,ht,hb⟩:=h
 exact (zj0 g.ref hok hL r).mono fun e w' ⟨h1,K',col',h2,h3⟩=>⟨h1,Gt.byRef g ht hb h3.out h2.out⟩
end
section
variable {Z:Snap} {w w' : World} {W x y B M N t:Nat} {U:List At} {c cR cP:Clu} {k r q n ty sd on:Int} {ky el key:ByteArray}
theorem Gt.opC (h:Gt Z w W x y B M t (actB k r q n ty ky sd el on key) cR cP):w.cell? ⟨t,1,none⟩=some (.int .i64 r)∧w.cell? ⟨t,3,none⟩=some (.int .i64 n)∧w.cell? ⟨t,4,none⟩=some (.int .i64 ty)∧w.cell? ⟨t,5,none⟩=some (.string ky)∧w.cell? ⟨t,6,none⟩=some (.int .i64 sd)∧w.cell? ⟨t,7,none⟩=some (.string el)∧w.cell? ⟨t,8,none⟩=some (.int .i64 on) :=
 ⟨zaX h.blk 1,zaX h.blk 3,zaX h.blk 4,zaX h.blk 5,zaX h.blk 6,zaX h.blk 7,zaX h.blk 8⟩
set_option maxRecDepth 100000 in
theorem Gm.lAct1 (h:Gm Z w W x y B M c)(hok:c.ok U N)(hL:Lim U N)(r q n ty:Int)(ky:ByteArray)(sd:Int)(el:ByteArray)(on:Int)(key:ByteArray)(hop:(⟨ty,ky,sd,el,on⟩:OpV).short) :
  Calls Tryz.prog 7 #[.pointer (some ⟨W,0,none⟩),.agg #[.int .i64 1,.int .i64 r,.int .i64 q,.int .i64 n,.int .i64 ty,.string ky,.int .i64 sd,.string el,.int .i64 on,.string key]] w fun e w' => e = .returned (.bool true)∧Gm Z w' W x y B M (c.update r ⟨ty,ky,sd,el,on⟩):=by
 have HG:=Hid.mk h
 have c0:=h.cell0
 have c1:=h.cell1
 have hlt:W<w.heap.size:=by obtain ⟨col,KR,KP,g⟩:=h;exact zaY g.wb
 have HK:=Hid.mk hok
 have HLM:=Hid.mk hL
 have HOP:=Hid.mk hop
 have HT:Hid (∀ W',W'.heap=(w.alloc (.cells #[.int .i64 1,.int .i64 r,.int .i64 q,.int .i64 n,.int .i64 ty,.string ky,.int .i64 sd,.string el,.int .i64 on,.string key] 33)).heap→Below w.heap.size w W' → Gt Z W' W x y B M w.heap.size (actB 1 r q n ty ky sd el on key) c c):=fun W' he hb=>HG.out.withT hb (by rw [he];exact heap_alloc_new w _)
 clear h hok hL
 go_enter Tryz.func7,Tryz.ntmps7
 go_wp2_with fail
 go_region_held3 (fun W' => W'.cell? ⟨W,0,none⟩=some (.pointer (some ⟨x,0,none⟩))∧W'.cell? ⟨w.heap.size,1,none⟩=some (.int .i64 r)∧W'.cell? ⟨w.heap.size,3,none⟩=some (.int .i64 n)∧W'.cell? ⟨w.heap.size,4,none⟩=some (.int .i64 ty)∧W'.cell? ⟨w.heap.size,5,none⟩=some (.string ky)∧W'.cell? ⟨w.heap.size,6,none⟩=some (.int .i64 sd)∧W'.cell? ⟨w.heap.size,7,none⟩=some (.string el)∧W'.cell? ⟨w.heap.size,8,none⟩=some (.int .i64 on)) (first | go_keep | exact ⟨h3.cell0,h3.opC⟩ | fail) (first | (go_at_call 22;refine ((HT.out _ (by rfl) (by first | exact zaO (Below.refl _ _) _ | exact (zaO (Below.refl _ _) _).drew)).pUpdate HK.out HLM.out r ⟨ty,ky,sd,el,on⟩ HOP.out).mono ?_;rintro e w3 ⟨rfl,h3⟩) | fail)
 have H3:=Hid.mk h3
 have c1:=h3.cell1
 obtain ⟨d1,d3,d4,d5,d6,d7,d8⟩:=h3.opC
 clear h3
 go_wp2_with fail
 go_region_held3 (fun W' => W'.cell? ⟨W,1,none⟩=some (.pointer (some ⟨y,0,none⟩))∧W'.cell? ⟨w.heap.size,1,none⟩=some (.int .i64 r)∧W'.cell? ⟨w.heap.size,3,none⟩=some (.int .i64 n)∧W'.cell? ⟨w.heap.size,4,none⟩=some (.int .i64 ty)∧W'.cell? ⟨w.heap.size,5,none⟩=some (.string ky)∧W'.cell? ⟨w.heap.size,6,none⟩=some (.int .i64 sd)∧W'.cell? ⟨w.heap.size,7,none⟩=some (.string el)∧W'.cell? ⟨w.heap.size,8,none⟩=some (.int .i64 on)) (first | go_keep | exact ⟨h4.cell1,h4.opC⟩ | fail) (first | (go_at_call 23;refine ((by first | exact H3.out | exact H3.out.same (Below.refl _ _).drew:Gt Z _ W x y B M w.heap.size _ c _).dUpdate HK.out HLM.out r ⟨ty,ky,sd,el,on⟩ HOP.out).mono ?_;rintro e w4 ⟨rfl,h4⟩) | fail)
 have H4:=Hid.mk h4
 clear h4
 generalize c.opErr r ⟨ty,ky,sd,el,on⟩=E at *
 go_wp2
 go_ret
 exact ⟨by simp,H4.out.gm⟩
set_option maxRecDepth 100000 in
theorem Gm.lAct2 (h:Gm Z w W x y B M c)(hok:c.ok U N)(hL:Lim U N)(r q n ty:Int)(ky:ByteArray)(sd:Int)(el:ByteArray)(on:Int)(key:ByteArray)(hop:(⟨ty,ky,sd,el,on⟩:OpV).short)(hn0 : -9223372036854775808≤n)(hn1:n≤9223372036854775807) :
  Calls Tryz.prog 7 #[.pointer (some ⟨W,0,none⟩),.agg #[.int .i64 2,.int .i64 r,.int .i64 q,.int .i64 n,.int .i64 ty,.string ky,.int .i64 sd,.string el,.int .i64 on,.string key]] w fun e w' => e = .returned (.bool true)∧Gm Z w' W x y B M (c.tornOp r ⟨ty,ky,sd,el,on⟩ n):=by
 have HG:=Hid.mk h
 have c0:=h.cell0
 have c1:=h.cell1
 have hlt:W<w.heap.size:=by obtain ⟨col,KR,KP,g⟩:=h;exact zaY g.wb
 have HK:=Hid.mk hok
 have HLM:=Hid.mk hL
 have HOP:=Hid.mk hop
 have HN0:=Hid.mk hn0
 have HN1:=Hid.mk hn1
 have HT:Hid (∀ W',W'.heap=(w.alloc (.cells #[.int .i64 2,.int .i64 r,.int .i64 q,.int .i64 n,.int .i64 ty,.string ky,.int .i64 sd,.string el,.int .i64 on,.string key] 33)).heap→Below w.heap.size w W' → Gt Z W' W x y B M w.heap.size (actB 2 r q n ty ky sd el on key) c c):=fun W' he hb=>HG.out.withT hb (by rw [he];exact heap_alloc_new w _)
 clear h hok hL
 go_enter Tryz.func7,Tryz.ntmps7
 go_wp2_with fail
 go_region_held3 (fun W' => W'.cell? ⟨W,0,none⟩=some (.pointer (some ⟨x,0,none⟩))∧W'.cell? ⟨w.heap.size,1,none⟩=some (.int .i64 r)∧W'.cell? ⟨w.heap.size,3,none⟩=some (.int .i64 n)∧W'.cell? ⟨w.heap.size,4,none⟩=some (.int .i64 ty)∧W'.cell? ⟨w.heap.size,5,none⟩=some (.string ky)∧W'.cell? ⟨w.heap.size,6,none⟩=some (.int .i64 sd)∧W'.cell? ⟨w.heap.size,7,none⟩=some (.string el)∧W'.cell? ⟨w.heap.size,8,none⟩=some (.int .i64 on)) (first | go_keep | exact ⟨h3.cell0,h3.opC⟩ | fail) (first | (go_at_call 24;refine ((HT.out _ (by rfl) (by first | exact zaO (Below.refl _ _) _ | exact (zaO (Below.refl _ _) _).drew)).pTorn HK.out HLM.out r ⟨ty,ky,sd,el,on⟩ HOP.out n).mono ?_;rintro e w3 ⟨rfl,h3⟩) | fail)
 have H3:=Hid.mk h3
 have c1:=h3.cell1
 obtain ⟨d1,d3,d4,d5,d6,d7,d8⟩:=h3.opC
 clear h3
 go_wp2_with fail
 go_region_held3 (fun W' => W'.cell? ⟨W,1,none⟩=some (.pointer (some ⟨y,0,none⟩))∧W'.cell? ⟨w.heap.size,1,none⟩=some (.int .i64 r)∧W'.cell? ⟨w.heap.size,3,none⟩=some (.int .i64 n)∧W'.cell? ⟨w.heap.size,4,none⟩=some (.int .i64 ty)∧W'.cell? ⟨w.heap.size,5,none⟩=some (.string ky)∧W'.cell? ⟨w.heap.size,6,none⟩=some (.int .i64 sd)∧W'.cell? ⟨w.heap.size,7,none⟩=some (.string el)∧W'.cell? ⟨w.heap.size,8,none⟩=some (.int .i64 on)) (first | go_keep | exact ⟨h4.cell1,h4.opC⟩ | fail) (first | (go_at_call 25;refine ((by first | exact H3.out | exact H3.out.same (Below.refl _ _).drew:Gt Z _ W x y B M w.heap.size _ c _).dTorn HK.out HLM.out r ⟨ty,ky,sd,el,on⟩ HOP.out n HN0.out HN1.out).mono ?_;rintro e w4 ⟨rfl,h4⟩) | fail)
 have H4:=Hid.mk h4
 clear h4
 generalize c.opErr r ⟨ty,ky,sd,el,on⟩=E at *
 go_wp2
 go_ret
 exact ⟨by simp,H4.out.gm⟩
end
end Go.Proofs.YtahdlejgjcjeoabGreatDoor
