/- Walk of the document's cluster: Start. -/
import Derived.Test.YtahdlejgjcjeoabGreatDoorA34
import Derived.Test.YtahdlejgjcjeoabGreatDoorA31
import Derived.Deep.Cut
namespace Go.Proofs.YtahdlejgjcjeoabGreatDoor
set_option maxHeartbeats 8000000
open Go.RowKit
theorem zkp {w W:World}{col:Col}{o x N m q:Nat}{U:List At}{K:RefC}{c:Clu}{D:RefD}{a:At}{t:TypeId}(h:RefAt w col o x K c)(hok:c.ok U N)(hL:Lim U N)(hr:m<c.reps.length)(hd:(c.rep m).down=false)(hD:K.Ds[m]? = some D)(hR:RefRep w col o m (nearRow c m) D (c.rep m))(hW:Below w.heap.size w W)(hq:w.heap.size≤q)(hb:W.heap[q]? = some (.cells #[.int .i64 a.ty,.string a.key,.int .i64 a.side,.int .i64 a.who,.string a.elem,.int .i64 a.n] t (0,0))) :
  Calls Tryz.prog 64 #[.pointer (some ⟨x,0,none⟩),.pointer (some ⟨D.ρ,0,none⟩),.slice (some ⟨q,0,none⟩) 1 1,.int .i64 m] W fun e w' => e = .returned (.tuple #[])∧∃ K' col',Hid (RefAt w' col' o x K' (c.setRep m ((c.rep m).take c.room [a] m)))∧Hid (FrC (ofOwner o) col col' w w'):=by
 have hn6:=hok.n6
 have hrW:=hR.below hW (o,1)
 have hH:Held W (paint col w.heap.size (o,1)) (o,1) (.slice (some ⟨q,0,none⟩) 1 1) [a]:=⟨_,1,rfl,Nat.le_refl _,fun _=>⟨q,0,rfl,zaY hb,zim col _ hq,fun k hk=>by
  obtain rfl:k=0:=by simp at hk;omega
  exact zbv hb⟩⟩
 have c4:W.cell? ⟨x,4,none⟩=some (.int .i64 c.room):=by rw [hW.cell (p:=⟨x,4,none⟩) (zaY h.blk)];exact h.cells.2.2.2.2.1
 refine (zko hrW (by omega) hH (hok.rep hr) hd hL hok.room1 (by simp) c4 (by rw [zin col _ (zaY h.blk)];exact h.cx) (by omega) hok.room8).mono ?_
 rintro e w' ⟨rfl,D',col',hρ,hR',hF'⟩
 have hF:=(zdH (S:=ofRep o m) (col:=col) hW (o,1)).trans hF'.out
 exact ⟨rfl,_,col',h.setRep hn6 hr hF (fun h' => by rw [zcy hD h'];exact hρ) hR'.out,hF.mono zhm⟩
set_option maxRecDepth 100000 in
theorem zku {w:World}{col:Col}{o x N:Nat}{U:List At}{K:RefC}{c:Clu}(h:RefAt w col o x K c)(hok:c.ok U N)(hL:Lim U N)(r:Int)(op:OpV)(hop:op.short) :
  Calls Tryz.prog 23 #[.pointer (some ⟨x,0,none⟩),.int .i64 r,op.val] w fun e w' => e = .returned (.int .i64 (c.opErr r op))∧∃ K' col',Hid (RefAt w' col' o x K' (c.update r op))∧Hid (FrC (ofOwner o) col col' w w'):=by
 have HM:Hid (∀ W,Below w.heap.size w W→Calls Tryz.prog 63 #[.pointer (some ⟨x,0,none⟩),.int .i64 r,op.val] W fun e w' => ∃ a:At,e = .returned (.tuple #[a.val,.int .i64 (c.opErr r op)])∧Hid (c.opErr r op=0→a=opAtom (c.rep r.toNat).atoms r.toNat op)∧Below W.heap.size W w'):=fun W hW=>zkc (h.same hW) hok hL r op hop
 obtain ⟨ty,key,side,elem,n⟩:=op
 obtain ⟨OP,hOP⟩:∃ OP:OpV,OP=⟨ty,key,side,elem,n⟩:=⟨_,rfl⟩
 have HOV:Hid (OP.val = .agg #[.int .i64 ty,.string key,.int .i64 side,.string elem,.int .i64 n]):=by rw [hOP];rfl
 rw [← hOP] at HM ⊢
 rw [HOV.out] at HM ⊢
 clear HOV hop hOP
 by_cases hE:c.opErr r OP=0
 ·obtain ⟨hw,hf,hn⟩:=zhz hE
  obtain ⟨⟨h0,hr⟩,hd⟩:=znz hw
  obtain ⟨m,rfl⟩:∃ m:Nat,r=m:=⟨r.toNat,by omega⟩
  simp only [Int.toNat_natCast] at hr hd hn HM
  rw [hE] at HM ⊢
  have HU:Hid (c.update m OP=c.setRep m ((c.rep m).take c.room [opAtom (c.rep m).atoms m OP] m)):=by unfold Hid Clu.update;rw [if_pos hE];rfl
  generalize opAtom (c.rep m).atoms m OP=AT at *
  have hn6:=hok.n6
  go_enter Tryz.func23,Tryz.ntmps23
  go_wp2_with fail
  refine (HM.out _ (zaO (Below.refl _ _) _)).mono ?_
  rintro e w1 ⟨a,rfl,ha,hb1⟩
  obtain rfl:a=AT:=by simpa using ha.out
  have hbw:Below w.heap.size w w1:=(zaO (Below.refl _ w) _).trans (hb1.mono (by simp))
  obtain ⟨g,cap,D,hv,hc,hD,hp,hR⟩:=h.ptr hr
  have c5:=h.cells.2.2.2.2.2.1
  rw [hv] at c5
  have hx:=zaY h.blk
  have hg:g<w.heap.size:=World.block_lt_of_cell? w ⟨g,m,none⟩ hp
  have c51:w1.cell? ⟨x,5,none⟩=some (.slice (some ⟨g,0,none⟩) c.reps.length cap):=by rw [hbw.cell (p:=⟨x,5,none⟩) hx];exact c5
  have hp1:w1.cell? ⟨g,m,none⟩=some (.pointer (some ⟨D.ρ,0,none⟩)):=by rw [hbw.cell (p:=⟨g,m,none⟩) hg];exact hp
  have hx1:x<w1.heap.size:=Nat.lt_of_lt_of_le hx hbw.size
  have hg1:g<w1.heap.size:=Nat.lt_of_lt_of_le hg hbw.size
  have hs1:=hbw.size
  have HTK:Hid (∀ W,Below w.heap.size w W→W.heap[w1.heap.size+1]? = some (.cells #[.int .i64 a.ty,.string a.key,.int .i64 a.side,.int .i64 a.who,.string a.elem,.int .i64 a.n] 76 (0,0))→_):=fun W hW hb=>zkp (q:=w1.heap.size+1) h hok hL hr hd hD hR hW (by omega) hb
  have HU2:Hid (c.update m OP=c.setRep m ((c.rep m).take c.room [a] m)):=HU
  clear h hok hL hR hD hv hp c5 hb1 HM hd hn HU ha
  obtain ⟨a0,a1,a2,a3,a4,a5⟩:=a
  simp only [At.val] at *
  generalize D.ρ=ρ at *
  generalize hLL:c.reps.length=L at *
  clear hLL
  have q1:(m:Int)<(L:Int):=by omega
  go_wp2_with fail
  go_region_with (go_at_call 64;refine (HTK.out _ (zaO (zaO hbw _) _).drew (zm0 w1 _ _).1).mono ?_;rintro e w5 ⟨rfl,K5,col5,hR5,hF5⟩)
  all_goals go_wp2
  all_goals go_ret
  all_goals exact ⟨rfl,K5,col5,by rw [HU2.out];exact hR5,hF5⟩
 ·have HC:Hid (c.update r OP=c):=by unfold Hid Clu.update;rw [if_neg hE]
  generalize c.opErr r OP=cd at *
  go_enter Tryz.func23,Tryz.ntmps23
  go_wp2_with fail
  refine (HM.out _ (zaO (Below.refl _ _) _)).mono ?_
  rintro e w1 ⟨a,rfl,ha,hb1⟩
  have hbw:Below w.heap.size w w1:=(zaO (Below.refl _ w) _).trans (hb1.mono (by simp))
  have H1:=Hid.mk h
  clear hb1 h ha HM
  obtain ⟨a0,a1,a2,a3,a4,a5⟩:=a
  simp only [At.val]
  go_wp2
  go_ret
  exact ⟨rfl,K,col,by rw [HC.out];exact H1.out.same (hbw.alloc hbw.size _),zdJ (hbw.alloc hbw.size _)⟩
def wholes (rs:List Rc):List Rc:=rs.filter fun r => !r.torn
theorem znt {rs:List Rc}{i:Nat}(h:i<rs.length)(ht:rs[i].torn=false):wholes (rs.take (i+1))=wholes (rs.take i) ++ [rs[i]]:=by
 rw [List.take_succ_eq_append_getElem h,wholes,wholes,List.filter_append,List.filter_cons_of_pos (by simp [ht]),List.filter_nil]
theorem zns {rs:List Rc}{i:Nat}(h:i<rs.length)(ht:rs[i].torn=true):wholes (rs.take (i+1))=wholes (rs.take i):=by
 rw [List.take_succ_eq_append_getElem h,wholes,wholes,List.filter_append,List.filter_cons_of_neg (by simp [ht]),List.filter_nil,List.append_nil]
theorem LogIs.wholes {rs:List Rc}{p:Rep}(h:LogIs rs p):(wholes rs).map Rc.rec' = p.log:=by
 obtain ⟨A,B,rfl,hA,hm,hB⟩:=h
 have h1:A.filter (fun r => !r.torn)=A:=List.filter_eq_self.2 fun r hr=>by simp [hA r hr]
 have h2:B.filter (fun r => !r.torn) = []:=by
  rcases hB with ⟨rfl,_⟩ | ⟨r,rfl,ht,_⟩
  ·rfl
  ·simp [ht]
 unfold Go.Proofs.YtahdlejgjcjeoabGreatDoor.wholes
 rw [List.filter_append,h1,h2,List.append_nil,hm]
def atomsOf (rs:List Rc):List At:=(rs.map (·.d)).flatten
theorem zaE (rs:List Rc)(r:Rc):atomsOf (rs ++ [r])=atomsOf rs ++ r.d:=by simp [atomsOf]
theorem zaD {rs:List Rc}{p:Rep}(h:rs.map Rc.rec' = p.log):atomsOf rs=(p.log.map (·.d)).flatten:=by
 rw [← h,List.map_map]
 rfl
theorem zaF (rs:List Rc)(i:Nat):(atomsOf (wholes (rs.take i))).length≤(atomsOf (wholes rs)).length:=by
 have h:wholes rs=wholes (rs.take i) ++ wholes (rs.drop i):=by rw [wholes,wholes,wholes,← List.filter_append,List.take_append_drop]
 rw [h]
 simp [atomsOf]
theorem zfG (rs:List Rc)(r:Rc):lastNum ((rs ++ [r]).map Rc.rec')=r.num:=by simp [lastNum,Rc.rec']
structure StInv (w wr:World)(D:RefD)(p:Rep)(vw va:Value)(row:List Rc)(l:List At)(num:Nat):Prop where
 fr:Fr (fun q=>q=D.ρ) w wr
 blk:wr.heap[D.ρ]? = some (.cells #[.bool false,va,.int .i64 num,.int .i64 p.base,D.vt,D.vn,D.vk,D.vl,.int .i64 p.frames,.int .i64 p.weight] 142 (0,0))
 own:wr.ownsRow w.heap.size 152 5 vw row.length (row.flatMap Rc.cells)
 ats:(va=D.va∧l = [])∨(wr.ownsRow w.heap.size 76 6 va l.length (flat l)∧∀ q,va.ownBlock=some q→vw.ownBlock ≠ some q)
section
variable {w wr:World} {col:Col} {o i num:Nat} {near:List Bool} {D:RefD} {p:Rep} {vw va:Value} {row:List Rc} {l:List At}
theorem StInv.first (h:RefRep w col o i near D p)(hn:p.num=0):StInv w (w.setCell ⟨D.ρ,0,none⟩ (.bool false)) D p (.slice none 0 0) D.va [] [] 0 where
 fr:=(Fr.refl _ w).step (zet w _ _) (fun q hq => .inr (by cases hq;rfl))
 blk:=(zeJ (o:=0) h.blk _).trans (by simp [RefD.block,hn])
 own:=by simp [World.ownsRow]
 ats := .inl ⟨rfl,rfl⟩
theorem StInv.push {w3:World}{tmp:Obj}{g cap:Nat}{r:Rc}(h:StInv w wr D p vw va row l num)(hρ:D.ρ<w.heap.size)(hg:(wr.alloc tmp).grownBy w3 vw.ownBlock)
  (ho:w3.ownsRow w.heap.size 152 5 (.slice (some ⟨g,0,none⟩) (row.length+1) cap) (row.length+1) (row.flatMap Rc.cells ++ r.cells)) (hat:vw.ownBlock=some g∨g=wr.heap.size+1):StInv w w3 D p (.slice (some ⟨g,0,none⟩) (row.length+1) cap) va (row ++ [r]) l num:=by
 have hg' := zev (World.grownBy_alloc wr tmp vw.ownBlock) hg
 have hsz:=h.fr.size
 refine ⟨h.fr.step hg' (fun q hq => .inl (zh4 h.own q hq)),(hg'.block _ (by omega) (fun e=>by have:=zh4 h.own _ e.symm;omega)).trans h.blk,?_,?_⟩
 ·rw [List.length_append,List.flatMap_append]
  simpa using ho
 ·rcases h.ats with h1 | ⟨h1,h2⟩
  ·exact .inl h1
  ·refine .inr ⟨zh8 h1 ((Fr.refl (fun q=>vw.ownBlock=some q) wr).step hg' (fun q hq => .inr hq)) h2,fun q hq e => ?_⟩
   have e' : g=q:=Option.some.inj e
   rcases hat with hv | hv
   ·exact h2 q hq (by rw [hv,e'])
   ·have:=zh3 h1 q hq
    omega
theorem StInv.take {w4:World}{v4:Value}{l' : List At}(h:StInv w wr D p vw va row l num)(hρ:D.ρ<w.heap.size)(hb:Below wr.heap.size wr w4)(ho:w4.ownsRow wr.heap.size 76 6 v4 l'.length (flat l')):StInv w (w4.setCell ⟨D.ρ,1,none⟩ v4) D p vw v4 row l' num:=by
 have hF:∀ X,Fr X wr w4:=fun X=>⟨hb.os,hb.tape,hb.output,hb.size,fun k hk _=>hb.block k hk⟩
 refine ⟨(h.fr.trans (hF (fun _=>False)) (fun _ _ e=>e.elim)).step (zet w4 _ _) (fun q hq => .inr (by cases hq;rfl)),(zeJ (o:=1) ((hb.block _ (zaY h.blk)).trans h.blk) v4).trans (by simp),zie (zh8 h.own (hF (fun _=>False)) (fun _ _=>id)) hρ,.inr ⟨zie (zic ho h.fr.size) hρ,fun q hq e => ?_⟩⟩
 have h1:=zh4 ho q hq
 have h2:=zh3 h.own q e
 omega
theorem StInv.numb (h:StInv w wr D p vw va row l num)(hρ:D.ρ<w.heap.size)(k:Nat):StInv w (wr.setCell ⟨D.ρ,2,none⟩ (.int .i64 k)) D p vw va row l k:=by
 refine ⟨h.fr.step (zet wr _ _) (fun q hq => .inr (by cases hq;rfl)),(zeJ (o:=2) h.blk _).trans (by simp),zie h.own hρ,?_⟩
 rcases h.ats with h1 | ⟨h1,h2⟩
 ·exact .inl h1
 ·exact .inr ⟨zie h1 hρ,h2⟩
theorem StInv.slice (h:StInv w wr D p vw va row l num)(hR:RefRep w col o i near D p)(ha:p.atoms = []):SliceOf wr va l:=by
 rcases h.ats with ⟨rfl,rfl⟩ | ⟨h1,_⟩
 ·have:=hR.atoms
  rw [ha] at this
  obtain ⟨ad,cap,e,hc,_⟩:=this
  exact ⟨ad,cap,e,hc,fun h0=>absurd h0 (by simp)⟩
 ·exact (zeS (col:=fun _=>(0,0)) (κ:=(0,0)) rfl h1 (fun _ _=>rfl)).slice
theorem StInv.done (h:StInv w wr D p vw va row l num)(hR:RefRep w col o i near D p)(hi:i<6)(hts:p.num=0)(ha:p.atoms = [])(hrow:row.map Rc.rec' = p.log)(hw:∀ r∈row,r.torn=false∧r∈D.rs)(hl:l=(p.log.map (·.d)).flatten)(hnum:num=lastNum p.log) :
  ∃ D' col',D'.ρ=D.ρ∧RefRep ((wr.setCell ⟨D.ρ,7,none⟩ vw).setCell ⟨D.ρ,3,none⟩ (.int .i64 num)) col' o i near D' p.rise∧FrC (ofRep o i) col col' w ((wr.setCell ⟨D.ρ,7,none⟩ vw).setCell ⟨D.ρ,3,none⟩ (.int .i64 num)):=by
 have hρ:=zaY hR.blk
 obtain ⟨col',hcol⟩:∃ col' : Col,col' = fun q=>if q<w.heap.size then col q else if vw.ownBlock=some q then (o,50+i) else (o,1):=⟨_,rfl⟩
 have hfW:Fr (fun q=>q=D.ρ) w ((wr.setCell ⟨D.ρ,7,none⟩ vw).setCell ⟨D.ρ,3,none⟩ (.int .i64 num)):=(h.fr.step (zet wr _ _) (fun q hq => .inr (by cases hq;rfl))).step (zet _ _ _) (fun q hq => .inr (by cases hq;rfl))
 have hF:FrC (fun κ=>κ=(o,10+i)) col col' w ((wr.setCell ⟨D.ρ,7,none⟩ vw).setCell ⟨D.ρ,3,none⟩ (.int .i64 num)):=⟨hfW.mono (fun q _ e=>by rw [e];exact hR.cρ),fun q hq=>by rw [hcol];exact if_pos hq⟩
 have hrest:=hR.toRefRest.kept hF (fun e=>by have:=congrArg Prod.snd e;simp only at this;omega) (fun k hk e=>by have:=congrArg Prod.snd e;simp only at this;omega)
 have hown:=zie (o:=3) (u := .int .i64 num) (zie (o:=7) (u:=vw) h.own hρ) hρ
 refine ⟨{ D with va:=va,vl:=vw,rs:=row },col',rfl,{ hrest with atoms := ?_,tsl := ?_,log:=⟨zic hown (Nat.zero_le _),fun q hq => ?_⟩,rcd:=fun r hr=>hrest.rcd r (hw r hr).2,logs:=⟨row,[],by simp,fun r hr=>(hw r hr).1,hrow,.inl ⟨rfl,rfl⟩⟩,blk := ?_,cρ := ?_ },hF.mono fun κ e=>by rw [e];exact zhn hi (k:=1) (by omega)⟩
 ·show Held _ col' (o,1) va (p.atoms ++ (p.log.map (·.d)).flatten)
  rw [← hl]
  rcases h.ats with ⟨rfl,rfl⟩ | ⟨h1,h2⟩
  ·rw [List.append_nil]
   exact hrest.atoms
  ·rw [ha,List.nil_append]
   refine zeS rfl (zie (o:=3) (u := .int .i64 num) (zie (o:=7) (u:=vw) h1 hρ) hρ) (fun q hq => ?_)
   have:=zh4 h1 q hq
   rw [hcol]
   simp only [if_neg (Nat.not_lt.2 this),if_neg (h2 q hq)]
 ·have:=hR.tsl
  show D.ts.length≤_
  omega
 ·have:=zh4 h.own q hq
  rw [hcol]
  simp only [if_neg (Nat.not_lt.2 this),if_pos (show vw.ownBlock=some q from hq)]
 ·exact (zeJ (o:=3) (zeJ (o:=7) h.blk _) _).trans (by simp [RefD.block,Rep.rise,hnum])
 ·rw [hcol]
  simp only [if_pos hρ]
  exact hR.cρ
end
theorem ze6:(Tryz.prog.info? 162).map (fun i=>(i.zero,i.size,i.bytes))=some (some (.agg #[.int .i64 0,.int .i64 0,.int .i64 0,.int .i64 0,.slice none 0 0]),5,56):=by kernel_rfl
theorem zdm {a b c d:Int}{v:Value}(h:v.oneCell' = true):∀ u ∈ [Value.int .i64 a,.int .i64 b,.int .i64 c,.int .i64 d,v],u.oneCell' = true:=by
 intro u hu
 simp only [List.mem_cons,List.not_mem_nil,or_false] at hu
 rcases hu with rfl | rfl | rfl | rfl | rfl
 ·rfl
 ·rfl
 ·rfl
 ·rfl
 ·exact h
theorem zdl {w:World}{q:Nat}{a b c d e:Value}{t:TypeId}{fz:Nat × Nat}(h:w.heap[q]? = some (.cells #[a,b,c,d,e] t fz)):w.cell? ⟨q,0,none⟩=some a∧w.cell? ⟨q,1,none⟩=some b∧w.cell? ⟨q,2,none⟩=some c∧w.cell? ⟨q,3,none⟩=some d∧w.cell? ⟨q,4,none⟩=some e:=⟨zaX h 0,zaX h 1,zaX h 2,zaX h 3,zaX h 4⟩
theorem RefAt.setNet {w w' : World}{col col' : Col}{o x:Nat}{K:RefC}{c:Clu}{v:Value}{ns:List Fm}(h:RefAt w col o x K c)(hf:FrC (fun κ=>κ=(o,3)∨κ=(o,0)) col col' w w')
  (hb:w'.heap[x]? = some (.cells #[.int .i64 c.reps.length,.slice none 0 0,.bool c.bp,.bool c.rr,.int .i64 c.room,K.vR,v] 93 (0,0)))
  (hn:RowC w' col' (o,3) 162 5 v ns.length (ns.flatMap Fm.cells)) (hd:∀ f∈ns,Held w' col' (o,1) f.v f.f.d):RefAt w' col' o x { K with vN:=v,ns:=ns } { c with net:=ns.map Fm.f } where
 blk:=hb
 cx:=(hf.colB h.blk).trans h.cx
 rows:=h.rows.kept hf (by simp)
 net:=hn
 netd:=hd
 nets:=rfl
 len:=h.len
 reps i hi hi' := (h.reps i hi hi').kept hf (by simp) (fun k hk=>by simp;omega)
theorem zgT {o:Nat}:∀ κ,(κ=(o,3)∨κ=(o,0))→ofOwner o κ:=fun κ h=>by rcases h with rfl | rfl <;> rfl
theorem RefAt.pushNet {w1 w2 w3:World}{col:Col}{o x g cap H:Nat}{K:RefC}{c:Clu}{m:Fm}(h:RefAt w1 col o x K c)(hb:Below w1.heap.size w1 w2)
  (hown:w3.ownsRow 0 162 5 (.slice (some ⟨g,0,none⟩) (K.ns.length+1) cap) (K.ns.length+1) (K.ns.flatMap Fm.cells ++ m.cells)) (hg:w2.grownBy w3 K.vN.ownBlock) (hat:K.vN.ownBlock=some g∨g=H) (hH:w1.heap.size≤H) (hd:Held w1 col (o,1) m.v m.f.d) :
  (w3.cell? ⟨x,6,none⟩=some K.vN∧w3.frozen? ⟨x,6,none⟩=false)∧RefAt (w3.setCell ⟨x,6,none⟩ (.slice (some ⟨g,0,none⟩) (K.ns.length+1) cap)) (paint col w1.heap.size (o,3)) o x { K with vN := .slice (some ⟨g,0,none⟩) (K.ns.length+1) cap,ns:=K.ns ++ [m] } { c with net:=c.net ++ [m.f] }∧FrC (ofOwner o) col (paint col w1.heap.size (o,3)) w1 (w3.setCell ⟨x,6,none⟩ (.slice (some ⟨g,0,none⟩) (K.ns.length+1) cap)):=by
 obtain ⟨hr3,hf3⟩:=h.net.lies hb hown hg hat hH
 have hblk:=hf3.block h.blk (by rw [h.cx];simp)
 have hρ:paint col w1.heap.size (o,3) x=(o,0):=(hf3.colB h.blk).trans h.cx
 have f4:FrC (fun κ=>κ=(o,3)∨κ=(o,0)) col (paint col w1.heap.size (o,3)) w1 (w3.setCell ⟨x,6,none⟩ (.slice (some ⟨g,0,none⟩) (K.ns.length+1) cap)):=(hf3.mono fun κ e => .inl e).trans (zdK (S:=fun κ=>κ=(o,3)∨κ=(o,0)) 6 _ (.inr hρ))
 have f5:FrC (fun κ=>κ=(o,0)) (paint col w1.heap.size (o,3)) (paint col w1.heap.size (o,3)) w3 (w3.setCell ⟨x,6,none⟩ (.slice (some ⟨g,0,none⟩) (K.ns.length+1) cap)):=zdK (S:=fun κ=>κ=(o,0)) 6 _ hρ
 refine ⟨⟨zaX hblk 6,zaZ hblk 6⟩,?_,f4.mono zgT⟩
 have:=h.setNet (ns:=K.ns ++ [m]) (v := .slice (some ⟨g,0,none⟩) (K.ns.length+1) cap) f4 (zeJ (o:=6) hblk _) (by
  rw [List.length_append,List.flatMap_append]
  simpa using hr3.kept f5 (by simp)) (fun f hm=>by
  rcases List.mem_append.1 hm with hm | hm
  ·exact (h.netd f hm).kept f4 (by simp)
  ·obtain rfl:=List.mem_singleton.1 hm
   exact hd.kept f4 (by simp))
 rw [List.map_append,h.nets] at this
 exact this
set_option maxRecDepth 100000 in
theorem zke {w:World}{col:Col}{o x:Nat}{K:RefC}{c:Clu}{f:Frm}{v:Value}(h:RefAt w col o x K c)(hl:c.net.length≤200)(hd:Held w col (o,1) v f.d) :
  Calls Tryz.prog 80 #[.pointer (some ⟨x,0,none⟩),.agg #[.int .i64 f.kind,.int .i64 f.src,.int .i64 f.dst,.int .i64 f.upto,v]] w fun e w' => e = .returned (.tuple #[])∧∃ K' col',Hid (RefAt w' col' o x K' (c.put f))∧Hid (FrC (ofOwner o) col col' w w'):=by
 have hnl:K.ns.length=c.net.length:=by rw [← h.nets,List.length_map]
 obtain ⟨adN,cpN,hvN,hcN⟩:=h.net.form
 have c6:=h.cells.2.2.2.2.2.2.1
 have f6:=h.cells.2.2.2.2.2.2.2 6
 have hx:=zaY h.blk
 rw [hvN] at c6
 obtain ⟨adv,cpv,hv,_⟩:=id hd
 subst hv
 obtain ⟨i0,hi0,hz0,hz1,hz2⟩:=info_parts ze6
 have H:=Hid.mk h
 have HD:=Hid.mk hd
 obtain ⟨f0,f1,f2,f3,f4⟩:=f
 simp only at *
 by_cases hlt:c.net.length<200
 ·have HP:Hid (c.put ⟨f0,f1,f2,f3,f4⟩={ c with net:=c.net ++ [⟨f0,f1,f2,f3,f4⟩] }):=by unfold Hid Clu.put;rw [if_pos hlt]
  have q1:(K.ns.length:Int)<200:=by omega
  have q2:K.ns.length<200:=by omega
  clear hnl
  go_enter Tryz.func80,Tryz.ntmps80
  go_wp2
  have hfb:=heap_alloc_new w (.cells #[.int .i64 f0,.int .i64 f1,.int .i64 f2,.int .i64 f3,.slice adv f4.length cpv] 162)
  have hb0:=zaO (Below.refl _ w) (.cells #[.int .i64 f0,.int .i64 f1,.int .i64 f2,.int .i64 f3,.slice adv f4.length cpv] 162)
  generalize w.alloc (.cells #[.int .i64 f0,.int .i64 f1,.int .i64 f2,.int .i64 f3,.slice adv f4.length cpv] 162)=w0 at *
  obtain ⟨e0,e1,e2,e3,e4⟩:=zdl hfb
  have h0:=h.below hb0 (o,1)
  have hd0:=hd.kept (S:=fun _=>False) (zdH hb0 (o,1)) id
  have HF0:Hid (FrC (ofOwner o) col (paint col w.heap.size (o,1)) w w0):=zdH hb0 (o,1)
  have c60:=h0.cells.2.2.2.2.2.2.1
  rw [hvN] at c60
  have f60:=h0.cells.2.2.2.2.2.2.2 6
  have hx0:=zaY h0.blk
  have hfl:=zaY hfb
  have HOW:Hid (w0.ownsRow 0 162 5 (.slice adN K.ns.length cpN) K.ns.length (K.ns.flatMap Fm.cells)):=by rw [← hvN];exact h0.net.own
  have HPN:Hid (∀ g cap w3,w3.ownsRow 0 162 5 (.slice (some ⟨g,0,none⟩) (K.ns.length+1) cap) (K.ns.length+1) (K.ns.flatMap Fm.cells ++ [.int .i64 f0,.int .i64 f1,.int .i64 f2,.int .i64 f3,.slice adv f4.length cpv])→∀ w2,Below w0.heap.size w0 w2→w2.grownBy w3 (Value.slice adN K.ns.length cpN).ownBlock→(Value.slice adN K.ns.length cpN).ownBlock=some g∨g=w0.heap.size+1→_):=fun g cap w3 k1 w2 k2 k3 k4=>RefAt.pushNet (m:=⟨⟨f0,f1,f2,f3,f4⟩,.slice adv f4.length cpv⟩) h0 k2 k1 (by rw [hvN];exact k3) (by rw [hvN];exact k4) (Nat.le_succ _) hd0
  rw [hvN] at HPN
  clear h0 hd0 h hd hfb hb0 H HD c6 f6 hvN hcN
  go_region_law (refine step_append_lies _ rfl _ _ 91 rfl 0 162 i0 _ 5 56 Tryz.underlying91 hi0 hz0 hz1 hz2 rfl (by decide) _ K.ns.length _ rfl (HOW.out.alloc _) ⟨w0.heap.size,0,none⟩ 1 1 [.int .i64 f0,.int .i64 f1,.int .i64 f2,.int .i64 f3,.slice adv f4.length cpv] rfl rfl (World.news_of_block (heap_alloc_new w0 _)) (zdm rfl) (by decide) (by unfold maxLen;omega) (by omega) (by simp) (w0.heap.size+1) (by simp) ?_;intro g3 capn w3 hown3 hgrow3 hat3 hlt3;obtain ⟨⟨k6,l6⟩,hrep3,hfr3⟩:=HPN.out g3 capn w3 hown3 (w0.alloc (.cells #[.int .i64 f0,.int .i64 f1,.int .i64 f2,.int .i64 f3,.slice adv f4.length cpv] 162)) (zaO (Below.refl _ _) _) (zeq hgrow3) hat3)
  all_goals go_wp2
  all_goals go_end0
  all_goals exact ⟨rfl,_,_,by rw [HP.out];exact hrep3,HF0.out.trans hfr3⟩
 ·have HP:Hid (c.put ⟨f0,f1,f2,f3,f4⟩=c):=by unfold Hid Clu.put;rw [if_neg hlt]
  have q1:(200:Int)≤(K.ns.length:Int):=by omega
  go_enter Tryz.func80,Tryz.ntmps80
  go_wp2
  go_end0
  exact ⟨rfl,K,col,by rw [HP.out];exact H.out.same (zaO (Below.refl _ _) _),zdJ (zaO (Below.refl _ _) _)⟩
set_option maxRecDepth 100000 in
theorem zkm {w:World}{col:Col}{o x N:Nat}{U:List At}{K:RefC}{c:Clu}(h:RefAt w col o x K c)(hok:c.ok U N)(hL:Lim U N)(r:Int) :
  Calls Tryz.prog 29 #[.pointer (some ⟨x,0,none⟩),.int .i64 r] w fun e w' => e = .returned (.int .i64 (c.startErr r))∧∃ K' col',Hid (RefAt w' col' o x K' (c.start r))∧Hid (FrC (ofOwner o) col col' w w'):=by
 have HTH:=Hid.mk (zkr h r)
 cases hth:c.there r with
 | false =>
  have HC:Hid (c.startErr r=5∧c.start r=c):=by
   have e5:c.startErr r=5:=by unfold Clu.startErr;rw [if_pos hth]
   exact ⟨e5,by unfold Clu.start;rw [e5,if_neg (by decide)]⟩
  rw [HC.out.1]
  rw [hth] at HTH
  have H:=Hid.mk h
  clear h hok hL hth
  go_enter Tryz.func29,Tryz.ntmps29
  go_wp2_with fail
  refine HTH.out.mono ?_
  rintro e w' ⟨rfl,rfl⟩
  go_wp2
  go_ret
  exact ⟨rfl,K,col,by rw [HC.out.2];exact H.out,FrC.refl _ _ _⟩
 | true =>
  obtain ⟨h0,hr⟩:0≤r∧r<c.reps.length:=by simpa [Clu.there] using hth
  obtain ⟨m,rfl⟩:∃ m:Nat,r=m:=⟨r.toNat,by omega⟩
  have hr:m<c.reps.length:=by omega
  have hn6:=hok.n6
  obtain ⟨g,cap,D,hv,hc,hD,hp,hR⟩:=h.ptr hr
  have c5:=h.cells.2.2.2.2.2.1
  rw [hv] at c5
  have hx:=zaY h.blk
  have hg:g<w.heap.size:=World.block_lt_of_cell? w ⟨g,m,none⟩ hp
  have hρ:=zaY hR.blk
  have d0:=hR.cells.1
  have f0:=hR.cells.2.2.2.2.2.2.2.2.2.2 0
  rw [hth] at HTH
  cases hdn:(c.rep m).down with
  | false =>
   have HC:Hid (c.startErr m=9∧c.start m=c):=by
    have e5:c.startErr m=9:=by unfold Clu.startErr;rw [if_neg (by rw [hth];decide),Int.toNat_natCast,hdn];rfl
    exact ⟨e5,by unfold Clu.start;rw [e5,if_neg (by decide)]⟩
   rw [HC.out.1]
   rw [hdn] at d0
   have H:=Hid.mk h
   generalize hLL:c.reps.length=L at *
   have q1:(m:Int)<(L:Int):=by omega
   clear h hok hL hth hdn hR hLL
   go_enter Tryz.func29,Tryz.ntmps29
   go_wp2_with fail
   refine HTH.out.mono ?_
   rintro e w' ⟨rfl,rfl⟩
   go_wp2
   go_ret
   exact ⟨rfl,K,col,by rw [HC.out.2];exact H.out,FrC.refl _ _ _⟩
  | true =>
   have HC:Hid (c.startErr m=0∧c.start m=c.setRep m (c.rep m).rise):=by
    have e5:c.startErr m=0:=by unfold Clu.startErr;rw [if_neg (by rw [hth];decide),Int.toNat_natCast,hdn];rfl
    exact ⟨e5,by unfold Clu.start;rw [e5,if_pos rfl,Int.toNat_natCast]⟩
   rw [HC.out.1]
   rw [hdn] at d0
   obtain ⟨dn1,dn2,dn3,dn4,dn5⟩:=(hok.rep hr).dn hdn
   have HFIN:Hid (∀ w' D' col',D'.ρ=D.ρ→RefRep w' col' o m (nearRow c m) D' (c.rep m).rise→FrC (ofRep o m) col col' w w' → RefAt w' col' o x { K with Ds:=K.Ds.set m D' } (c.setRep m (c.rep m).rise)):=fun w' D' col' h1 h2 h3=>h.setRep hn6 hr h3 (fun h' => by rw [zcy hD h'];exact h1) h2
   have HROWS:Hid ((wholes D.rs).map Rc.rec' = (c.rep m).log):=hR.logs.wholes
   have HLEN:Hid ((atomsOf (wholes D.rs)).length≤274878038016):=by
    have h1:=((hok.rep hr).rise hdn).alen
    have h2:(c.rep m).rise.atoms=atomsOf (wholes D.rs):=by
     rw [zaD HROWS.out]
     show (c.rep m).atoms ++ _=_
     rw [dn1,List.nil_append]
    rw [h2] at h1
    exact Nat.le_trans h1 hL.prod
   have HFN:=Hid.mk (hR.logs.fine (hok.rep hr) hL)
   have HLim:Hid (N≤2097152):=hL.1
   obtain ⟨i0,hi0,hz0,hz1,hz2⟩:=info_parts zff
   have HR:=Hid.mk hR
   have H1:Hid (StInv w (w.setCell ⟨D.ρ,0,none⟩ (.bool false)) D (c.rep m) (.slice none 0 0) D.va [] [] 0):=StInv.first hR dn2
   have hgρ:g ≠ D.ρ:=fun e=>by
    have:=h.rows.col g (by rw [hv];rfl)
    rw [e,hR.cρ] at this
    have:=congrArg Prod.snd this
    simp only at this
    omega
   have hxρ:x ≠ D.ρ:=fun e=>by
    have:=h.cx
    rw [e,hR.cρ] at this
    have:=congrArg Prod.snd this
    simp only at this
    omega
   have HLG:=Hid.mk hR.log
   obtain ⟨adl,cpl,hvl,hcl,HEL⟩:=hR.log.elem zjD
   have HEL:=Hid.mk HEL
   have d7:=hR.cells.2.2.2.2.2.2.2.1
   rw [hvl] at d7
   have HIB:Hid ((c.rep m).base=0):=dn3
   generalize hLL:c.reps.length=L at *
   have q1:(m:Int)<(L:Int):=by omega
   clear h hok hL hth hdn hR hLL hD hv
   go_enter Tryz.func29,Tryz.ntmps29
   go_wp2_with fail
   refine HTH.out.mono ?_
   rintro e w' ⟨rfl,rfl⟩
   go_wp2
   go_loopw [7,8] (fun v j wr=>∃ i:Nat,i≤D.rs.length∧j = .int .i64 i∧∃ va,Hid (StInv w' wr D (c.rep m) v va (wholes (D.rs.take i)) (atomsOf (wholes (D.rs.take i))) (lastNum ((wholes (D.rs.take i)).map Rc.rec')))) (fun _ j _=>D.rs.length - (intOf j).toNat)
   case atStart=>exact ⟨0,Nat.zero_le _,rfl,_,H1⟩
   case round =>
    obtain ⟨i,hi,rfl,va,hinv⟩:=hrel
    have hfr:=hinv.out.fr
    have hsz:=hfr.size
    have b1:=zaX hinv.out.blk 1
    have b2:=zaX hinv.out.blk 2
    have b3:=zaX hinv.out.blk 3
    have b7:=zaX hinv.out.blk 7
    have bf:=zaZ hinv.out.blk
    simp only [List.getElem?_toArray,List.getElem?_cons_zero,List.getElem?_cons_succ] at b1 b2 b3 b7
    rw [hvl] at b7
    have hρr:D.ρ<wr.heap.size:=Nat.lt_of_lt_of_le hρ hsz
    obtain ⟨adr,cpr,hvr⟩:=zh1 hinv.out.own
    subst hvr
    have hsl:=hinv.out.slice HR.out dn1
    obtain ⟨adA,capA,hva,-⟩:=id hsl
    subst hva
    have f1:=bf 1
    have f2:=bf 2
    have f3:=bf 3
    have f7:=bf 7
    have hlA:(atomsOf (wholes (D.rs.take i))).length≤274878038016:=Nat.le_trans (zaF D.rs i) HLEN.out
    by_cases hl:i<D.rs.length
    ·obtain ⟨gl,hgl,hgl2,hglc,-,hrow⟩:=HEL.out (by omega)
     subst hgl
     have hglρ:gl ≠ D.ρ:=fun e=>by
      rw [e,HR.out.cρ] at hglc
      have:=congrArg Prod.snd hglc
      simp only at this
      omega
     have hgr:gl<wr.heap.size:=Nat.lt_of_lt_of_le hgl2 hsz
     have hce:∀ k,wr.cell? ⟨gl,k,none⟩=w'.cell? ⟨gl,k,none⟩:=fun k=>World.cell?_of_block (hfr.block gl hgl2 hglρ)
     have t0:wr.cell? ⟨gl,i*5,none⟩=some (.int .i64 D.rs[i].kind):=(hce _).trans (hrow i hl 0 _ rfl)
     have t1:wr.cell? ⟨gl,i*5+1,none⟩=some (.int .i64 D.rs[i].num):=(hce _).trans (hrow i hl 1 _ rfl)
     have t2:wr.cell? ⟨gl,i*5+2,none⟩=some D.rs[i].v:=(hce _).trans (hrow i hl 2 _ rfl)
     have t3:wr.cell? ⟨gl,i*5+3,none⟩=some (.bool D.rs[i].torn):=(hce _).trans (hrow i hl 3 _ rfl)
     have t4:wr.cell? ⟨gl,i*5+4,none⟩=some (.string D.rs[i].bytes):=(hce _).trans (hrow i hl 4 _ rfl)
     clear hce hrow
     have HHD:=Hid.mk (HR.out.rcd _ (List.getElem_mem hl))
     have HFI:=Hid.mk (HFN.out.1 _ (List.getElem_mem hl))
     have hrl:=HFN.out.2
     have hiN:i<4194304:=by have:=HLim.out;omega
     cases htn:D.rs[i].torn with
     | true =>
      have HE:Hid (wholes (D.rs.take (i+1))=wholes (D.rs.take i)):=zns hl htn
      rw [htn] at t3
      go_wp2
      exact ⟨⟨i+1,by omega,by go_num,_,by rw [HE.out];exact hinv⟩,by simp [intOf];omega⟩
     | false =>
      have HE:Hid (wholes (D.rs.take (i+1))=wholes (D.rs.take i) ++ [D.rs[i]]):=znt hl htn
      have hdl:=((HFI.out).told htn).2.1
      have hlen:(wholes (D.rs.take i)).length≤i:=Nat.le_trans (List.length_filter_le _ _) (by simp;omega)
      clear HFI HFN
      generalize D.rs[i]=rc at *
      obtain ⟨rk,rn,rv,rd,rt,rb⟩:=rc
      simp only at *
      subst htn
      obtain ⟨adv,cpv,hrv,-⟩:=id HHD.out
      subst hrv
      have hown:=hinv.out.own
      generalize hwd:wholes (D.rs.take i)=wd at *
      go_wp2_with (at_builtin;refine wpList_append_lies _ rfl _ _ 140 rfl w'.heap.size 152 i0 _ 5 64 Tryz.underlying140 hi0 hz0 hz1 hz2 rfl (by decide) _ wd.length _ rfl (hown.alloc _) ⟨wr.heap.size,0,none⟩ 1 1 [.int .i64 rk,.int .i64 rn,.slice adv rd.length cpv,.bool false,.string rb] rfl rfl (World.news_of_block (heap_alloc_new wr _)) (zdn rfl _ _) (by decide) (by unfold maxLen;omega) (by omega) (by simp;omega) (wr.heap.size+1) (by simp) ?_;intro g3 capn w3 hown3 hgrow3 hat3 hlt3)
      have hinv3:=Hid.mk (hinv.out.push (r:=⟨rk,rn,.slice adv rd.length cpv,rd,false,rb⟩) hρ hgrow3 hown3 hat3)
      have hsz3:=hinv3.out.fr.size
      have b13:=zaX hinv3.out.blk 1
      have b73:=zaX hinv3.out.blk 7
      have bf3:=zaZ hinv3.out.blk
      have f13:=bf3 1
      have f23:=bf3 2
      simp only [List.getElem?_toArray,List.getElem?_cons_zero,List.getElem?_cons_succ] at b13 b73
      rw [hvl] at b73
      have hce3:∀ k,w3.cell? ⟨gl,k,none⟩=wr.cell? ⟨gl,k,none⟩:=fun k=>World.cell?_of_block ((hinv3.out.fr.block gl hgl2 hglρ).trans (hfr.block gl hgl2 hglρ).symm)
      have t13:=(hce3 _).trans t1
      have t23:=(hce3 _).trans t2
      have hρ3:D.ρ<w3.heap.size:=Nat.lt_of_lt_of_le hρ hsz3
      have hgl3:gl<w3.heap.size:=Nat.lt_of_lt_of_le hgl2 hsz3
      have HBO:Hid (∀ W,Below w3.heap.size w3 W→_):=fun W hW=>za0 (.slice adA (atomsOf wd).length capA) (.slice adv rd.length cpv) (atomsOf wd) rd W ((hinv3.out.slice HR.out dn1).below hW) ((HHD.out.kept (S:=fun κ=>κ=(o,10+m)) (col' := col) ⟨hinv3.out.fr.mono (fun q _ e=>by rw [e];exact HR.out.cρ),fun _ _=>rfl⟩ (fun e=>by have:=congrArg Prod.snd e;simp only at this;omega)).slice.below hW) (by omega) (by omega)
      clear t0 t1 t2 t3 t4 b1 b2 b3 b7 f1 f2 f3 f7 bf bf3 hce3
      go_region_with (go_at_call 74;refine (HBO.out _ (Below.refl _ _).drew).mono ?_;rintro e w4 ⟨v4,rfl,hown4,hb4⟩;obtain ⟨ad4,cp4,hv4⟩:=zh1 hown4;subst hv4;have hb43:Below w3.heap.size w3 w4:=(Below.refl _ w3).drew.trans hb4;have b14:w4.cell? ⟨D.ρ,1,none⟩=_:=(hb43.cell (p:=⟨D.ρ,1,none⟩) hρ3).trans b13;have f14:w4.frozen? ⟨D.ρ,1,none⟩=_:=(hb43.frozen (p:=⟨D.ρ,1,none⟩) hρ3).trans f13)
      all_goals
       have hinv4:=Hid.mk (hinv3.out.take hρ hb43 hown4)
       rw [List.length_append] at hinv4
       clear hb43 hb4 hown4 b14 f14 HBO b13 b73 f13 f23
       generalize w4.setCell ⟨D.ρ,1,none⟩ (Value.slice ad4 ((atomsOf wd).length+rd.length) cp4)=w5 at *
       have hsz5:=hinv4.out.fr.size
       have b25:=zaX hinv4.out.blk 2
       have b75:=zaX hinv4.out.blk 7
       have f25:=zaZ hinv4.out.blk 2
       simp only [List.getElem?_toArray,List.getElem?_cons_zero,List.getElem?_cons_succ] at b25 b75
       rw [hvl] at b75
       have t15:=(World.cell?_of_block (w:=w3) (w' := w5) (a:=⟨gl,i*5+1,none⟩) ((hinv4.out.fr.block gl hgl2 hglρ).trans (hinv3.out.fr.block gl hgl2 hglρ).symm)).trans t13
       have hρ5:D.ρ<w5.heap.size:=Nat.lt_of_lt_of_le hρ hsz5
       have hgl5:gl<w5.heap.size:=Nat.lt_of_lt_of_le hgl2 hsz5
       have hinv5:=Hid.mk (hinv4.out.numb hρ rn)
       clear t13 t23 hρ3 hgl3 hsz3 hinv3
       go_wp2
      all_goals exact ⟨⟨i+1,by omega,by go_num,_,by rw [HE.out,zaE,zfG];exact hinv5⟩,by simp [intOf];omega⟩
    ·have hil:i=D.rs.length:=by omega
     subst hil
     rw [List.take_of_length_le (Nat.le_refl _)] at hinv
     obtain ⟨D6,col6,hρ6,hR6,hF6⟩:=hinv.out.done HR.out (by omega) dn2 dn1 HROWS.out (fun r hr=>by have:=List.mem_filter.1 hr;simpa [and_comm] using this) (zaD HROWS.out) (by rw [HROWS.out])
     have HR6:=Hid.mk (HFIN.out _ _ _ hρ6 hR6 hF6)
     have HF6:Hid (FrC (ofOwner o) col col6 w' _):=hF6.mono zhm
     clear hinv hR6 hF6 HFIN HR HROWS
     go_wp2
     go_ret
     exact ⟨rfl,_,col6,by rw [HC.out.2];exact HR6.out,HF6.out⟩
end Go.Proofs.YtahdlejgjcjeoabGreatDoor
