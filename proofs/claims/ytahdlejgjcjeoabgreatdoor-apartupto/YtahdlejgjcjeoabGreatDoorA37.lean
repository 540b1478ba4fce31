/- Walks of the document's cluster: Compact. -/
import Derived.Test.YtahdlejgjcjeoabGreatDoorA36
import Derived.Test.YtahdlejgjcjeoabGreatDoorA35
import Derived.Test.YtahdlejgjcjeoabGreatDoorA31
namespace Go.Proofs.YtahdlejgjcjeoabGreatDoor
set_option maxHeartbeats 8000000
open Go.RowKit
theorem zkq {w:World}{col:Col}{o x N m org:Nat}{U:List At}{K:RefC}{c:Clu}{D:RefD}{vd:Value}{d:List At}(h:RefAt w col o x K c)(hok:c.ok U N)(hL:Lim U N)(hr:m<c.reps.length)(hd:(c.rep m).down=false)(hD:K.Ds[m]? = some D)(hR:RefRep w col o m (nearRow c m) D (c.rep m))(hH:Held w col (o,1) vd d)(hdl:d.length≤131072)(ho:org<6) :
  Calls Tryz.prog 64 #[.pointer (some ⟨x,0,none⟩),.pointer (some ⟨D.ρ,0,none⟩),vd,.int .i64 org] w fun e w' => e = .returned (.tuple #[])∧∃ K' col',Hid (RefAt w' col' o x K' (c.setRep m ((c.rep m).take c.room d org)))∧Hid (FrC (ofRep o m) col col' w w'):=by
 have hn6:=hok.n6
 refine (zko hR (by omega) hH (hok.rep hr) hd hL hok.room1 hdl h.cells.2.2.2.2.1 h.cx ho hok.room8).mono ?_
 rintro e w' ⟨rfl,D',col',hρ,hR',hF'⟩
 exact ⟨rfl,_,col',h.setRep hn6 hr hF'.out (fun h' => by rw [zcy hD h'];exact hρ) hR'.out,hF'⟩
theorem RefRep.setAck {w:World}{col:Col}{o i g cap q:Nat}{near:List Bool}{D:RefD}{p:Rep}(h:RefRep w col o i near D p)(hi:i<6)(hv:D.vk = .slice (some ⟨g,0,none⟩) p.acked.length cap)(u:Nat) :
  RefRep (w.setCell ⟨g,q,none⟩ (.int .i64 u)) col o i near D { p with acked:=p.acked.set q u }∧FrC (ofRep o i) col col w (w.setCell ⟨g,q,none⟩ (.int .i64 u)):=by
 have ht:=h.acked
 rw [hv] at ht
 obtain ⟨h1,hf⟩:=ht.store q (.int .i64 u)
 refine ⟨h.rest (D' := D) hf (by simp) rfl rfl ?_,hf.mono fun x e=>by rw [e];exact zhn hi (k:=4) (by omega)⟩
 have ne:∀ j,j ≠ 40+i→¬ ((o,j)=(o,40+i)):=fun j hj e=>hj (congrArg Prod.snd e)
 refine ⟨h.atoms.kept hf (ne _ (by omega)),h.taken.kept hf (ne _ (by omega)),fun t ht=>(h.tkd t ht).kept hf (ne _ (by omega)),h.tsl,h.buf,h.near.kept hf (ne _ (by omega)),?_,h.log.kept hf (ne _ (by omega)),fun r hr=>(h.rcd r hr).kept hf (ne _ (by omega)),h.logs.same rfl rfl rfl⟩
 show RowC _ col (o,40+i) _ 1 D.vk (p.acked.set q u).length (ints (p.acked.set q u))
 rw [List.length_set,hv,show ints (p.acked.set q u)=(ints p.acked).set q (.int .i64 u) by unfold ints;rw [List.map_set]]
 exact h1
def ackTo (near:Nat→Bool)(a:List Nat)(m q:Nat):Nat:=(List.range q).foldl (fun m q=>if near q && decide (a.getD q 0<m) then a.getD q 0 else m) m
theorem zac (near:Nat→Bool)(a:List Nat)(m q:Nat):ackTo near a m (q+1)=if near q && decide (a.getD q 0<ackTo near a m q) then a.getD q 0 else ackTo near a m q:=by
 unfold ackTo
 rw [List.range_succ,List.foldl_append]
 rfl
theorem zab (near:Nat→Bool)(a:List Nat)(m:Nat):∀ q,ackTo near a m q≤m
 | 0=>Nat.le_refl _
 | q+1=>by
  have ih:=zab near a m q
  rw [zac]
  split
  ·rename_i h
   simp only [Bool.and_eq_true,decide_eq_true_eq] at h
   omega
  ·exact ih
theorem zad {p:Rep}{near:Nat→Bool}{q u av lv L:Nat}(hav:p.acked[q]? = some av)(hL:p.acked.length=L)(hm:max av u=lv):p.ack near q u=({ p with acked:=p.acked.set q lv }:Rep).drop (ackTo near (p.acked.set q lv) lv L):=by
 have hg:p.acked.getD q 0=av:=by rw [List.getD_eq_getElem?_getD,hav];rfl
 have hq:q<p.acked.length:=(List.getElem?_eq_some_iff.1 hav).1
 have h2:(p.acked.set q lv).getD q 0=lv:=by rw [List.getD_eq_getElem?_getD,List.getElem?_set_self hq];rfl
 unfold Rep.ack leastAcked ackTo
 simp only [hg,hm,h2,List.length_set,hL]
theorem zae {p:Rep}{q av:Nat}(hav:p.acked[q]? = some av):({ p with acked:=p.acked.set q av }:Rep)=p:=by
 have hq:q<p.acked.length:=(List.getElem?_eq_some_iff.1 hav).1
 have:p.acked.set q av=p.acked:=by
  rw [← (List.getElem?_eq_some_iff.1 hav).2]
  exact List.set_getElem_self hq
 rw [this]
theorem zlr (c:Clu){i:Nat}(hi:i<c.reps.length):c.setRep i (c.rep i)=c:=by
 unfold Clu.setRep Clu.rep
 rw [List.getD_eq_getElem?_getD,List.getElem?_eq_getElem hi]
 simp
set_option maxRecDepth 100000 in
theorem zj3 {w:World}{col:Col}{o x N:Nat}{U:List At}{K:RefC}{c:Clu}(h:RefAt w col o x K c)(hok:c.ok U N)(hL:Lim U N)(k:Int) :
  Calls Tryz.prog 82 #[.pointer (some ⟨x,0,none⟩),.int .i64 k] w fun e w' => e = .returned (.int .i64 (c.netErr k))∧∃ K' col',Hid (RefAt w' col' o x K' (c.deliver k))∧Hid (FrC (ofOwner o) col col' w w'):=by
 have HW:=zkb h k
 have H:=Hid.mk h
 unfold Clu.netErr
 cases hh:c.has k
 ·have HC:Hid (c.deliver k=c):=by unfold Hid Clu.deliver;rw [hh];rfl
  rw [hh] at HW
  go_enter Tryz.func82,Tryz.ntmps82
  go_wp2_with fail
  refine HW.mono ?_
  rintro e w' ⟨rfl,rfl⟩
  go_wp2
  go_ret
  exact ⟨rfl,K,col,by rw [HC.out];exact H,FrC.refl _ _ _⟩
 ·obtain ⟨h0,hlt⟩:=zeH hh
  obtain ⟨n,rfl⟩:∃ n:Nat,k=n:=⟨k.toNat,by omega⟩
  simp only [Int.toNat_natCast] at hlt
  have HC:Hid (c.deliver n=(c.out n).arrived (c.frm n)):=by unfold Hid Clu.deliver;rw [hh];rfl
  have hokC:(c.out n).ok U N:=by
   have:=hok.dropF (n:Int)
   unfold Clu.dropF at this
   rwa [hh] at this
  have hmem:c.frm n∈c.net:=by
   unfold Clu.frm
   rw [List.getD_eq_getElem?_getD,List.getElem?_eq_getElem hlt]
   exact List.getElem_mem hlt
  have hfo:=hok.net _ hmem
  have hout:=zkd h hok.netL hlt
  rw [hh] at HW
  have hdst:(c.frm n).dst<(c.out n).reps.length:=hfo.dst
  have hsrc:(c.frm n).src<(c.out n).reps.length:=hfo.src
  have hupto:=hfo.upto
  have hn6:=hokC.n6
  clear h hh hok
  generalize c.out n=C at *
  generalize hFF:c.frm n=F at *
  clear hFF hmem
  go_enter Tryz.func82,Tryz.ntmps82
  go_wp2_with fail
  refine HW.mono ?_
  rintro e w' ⟨rfl,rfl⟩
  go_wp2_with fail
  refine hout.mono ?_
  rintro e w2 ⟨v,rfl,K2,col2,hR2,hH2,hF2⟩
  obtain ⟨adv,cpv,hva,-⟩:=id hH2.out
  subst hva
  obtain ⟨f0,f1,f2,f3,f4⟩:=F
  simp only at *
  have hab:=heap_alloc_new w2 (.cells #[.int .i64 f0,.int .i64 f1,.int .i64 f2,.int .i64 f3,.slice adv f4.length cpv] 162)
  have hb3:=zaO (Below.refl _ w2) (.cells #[.int .i64 f0,.int .i64 f1,.int .i64 f2,.int .i64 f3,.slice adv f4.length cpv] 162)
  have hR3:=hR2.out.below hb3 (o,1)
  have hH3:=hH2.out.kept (S:=fun _=>False) (zdH hb3 (o,1)) id
  have hF3:FrC (ofOwner o) col (paint col2 w2.heap.size (o,1)) w' _:=hF2.out.below hb3 (o,1)
  generalize hw3:w2.alloc (.cells #[.int .i64 f0,.int .i64 f1,.int .i64 f2,.int .i64 f3,.slice adv f4.length cpv] 162)=w3 at *
  have hcq:paint col2 w2.heap.size (o,1) w2.heap.size=(o,1):=zim col2 _ (Nat.le_refl _)
  generalize paint col2 w2.heap.size (o,1)=col3 at *
  obtain ⟨g,cap,D,hv,hc,hD,hp,hR⟩:=hR3.ptr hdst
  have c5:=hR3.cells.2.2.2.2.2.1
  rw [hv] at c5
  obtain ⟨e0,e1,e2,e3,e4⟩:=zdl hab
  have hx:=zaY hR3.blk
  have hg:g<w3.heap.size:=World.block_lt_of_cell? w3 ⟨g,f2,none⟩ hp
  have hρ:=zaY hR.blk
  have d0:=hR.cells.1
  have hq3:=zaY hab
  have q1:(f2:Int)<(C.reps.length:Int):=by omega
  have HR3:=Hid.mk hR3
  have HR:=Hid.mk hR
  have HF3:=Hid.mk hF3
  have HH3:=Hid.mk hH3
  generalize hLL:C.reps.length=L at *
  clear hR3 hR hF3 hH3 hR2 hH2 hF2 hb3 hc
  go_wp2
  clear hw3
  go_cut [7] from 11 (fun s7 wc=>s7 = .pointer (some ⟨D.ρ,0,none⟩)∧Hid (Below w3.heap.size w3 wc))
  case first =>
   go_region_held3 (fun W=>W.cell? ⟨x,5,none⟩=some (.slice (some ⟨g,0,none⟩) L cap)∧W.cell? ⟨w2.heap.size,2,none⟩=some (.int .i64 f2)∧W.cell? ⟨g,f2,none⟩=some (.pointer (some ⟨D.ρ,0,none⟩))) (first | assumption | exact ⟨c5,e2,hp⟩) (fail)
   all_goals go_wp2
   all_goals go_meet
   all_goals (case rel=>exact ⟨rfl,(Below.refl _ _).drew⟩)
  case rest =>
   obtain ⟨rfl,hbc⟩:=hcut
   generalize wc=w4 at *
   have HR4:Hid (RefAt w4 col3 o x K2 C):=HR3.out.same hbc.out
   have HRp:Hid (RefRep w4 col3 o f2 (nearRow C f2) D (C.rep f2)):=HR.out.kept (S:=fun _=>False) (zdJ hbc.out) id (fun _ _=>id)
   have HH4:Hid (Held w4 col3 (o,1) (.slice adv f4.length cpv) f4):=HH3.out.kept (S:=fun _=>False) (zdJ hbc.out) id
   have HF4:Hid (FrC (ofOwner o) col col3 w' w4):=HF3.out.trans (zdJ hbc.out)
   have hab4:w4.heap[w2.heap.size]? = some (.cells #[.int .i64 f0,.int .i64 f1,.int .i64 f2,.int .i64 f3,.slice adv f4.length cpv] 162 (0,0)):=(hbc.out.block _ hq3).trans hab
   clear HR3 HR HH3 HF3 hab e0 e1 e2 e3 e4 hx hg hρ d0 hq3 c5 hp hbc
   obtain ⟨e0,e1,e2,e3,e4⟩:=zdl hab4
   have hx:=zaY HR4.out.blk
   have hρ:=zaY HRp.out.blk
   have d0:=HRp.out.cells.1
   have hq3:=zaY hab4
   cases hdn:(C.rep f2).down with
   | true =>
    have HA:Hid (C.arrived ⟨f0,f1,f2,f3,f4⟩=C):=by unfold Hid Clu.arrived;rw [if_pos hdn]
    rw [hdn] at d0
    go_wp2
    go_ret
    exact ⟨rfl,K2,col3,by rw [HC.out,HA.out];exact HR4.out,HF4.out⟩
   | false =>
    rw [hdn] at d0
    by_cases hk3:f0=3
    ·subst hk3
     have hrep:=hokC.rep (r:=f2) (by rw [hLL];exact hdst)
     have hakL:(C.rep f2).acked.length=L:=by rw [← hLL];exact hrep.ackL
     obtain ⟨gk,ck,hvk,-,-,hgk,hck,hrow,hfz⟩:=HRp.out.acked.at (by omega)
     have d6:=HRp.out.cells.2.2.2.2.2.2.1
     rw [hvk,hakL] at d6
     obtain ⟨av,hav⟩:∃ av,(C.rep f2).acked[f1]? = some av:=⟨_,List.getElem?_eq_getElem (by omega)⟩
     have k1:w4.cell? ⟨gk,f1,none⟩=some (.int .i64 av):=hrow f1 _ (by unfold ints;rw [List.getElem?_map,hav];rfl)
     have kf:=hfz f1
     have hNv:av≤N:=Nat.le_trans (hrep.ack av (List.mem_of_getElem? hav)) hrep.num
     have q2:(f1:Int)<(L:Int):=by omega
     have HSA:=Hid.mk (HRp.out.setAck (q:=f1) (by omega) (by rw [hvk]) f3)
     have hgkρ:gk ≠ D.ρ:=fun e=>by
      rw [e,HRp.out.cρ] at hck
      have:=congrArg Prod.snd hck
      simp only at this
      omega
     have hgkq:gk ≠ w2.heap.size:=fun e=>by
      rw [e,hcq] at hck
      have:=congrArg Prod.snd hck
      simp only at this
      omega
     by_cases hgt:av<f3
     ·have hgt' : (av:Int)<(f3:Int):=by omega
      go_wp2
      go_region_held3 (fun W=>W.cell? ⟨w2.heap.size,3,none⟩=some (.int .i64 f3)∧W.cell? ⟨D.ρ,6,none⟩=some (.slice (some ⟨gk,0,none⟩) L ck)∧W.cell? ⟨w2.heap.size,1,none⟩=some (.int .i64 f1)∧W.cell? ⟨gk,f1,none⟩=some (.int .i64 av)) (first | assumption | exact ⟨e3,d6,e1,k1⟩) (fail)
      all_goals go_wp2
      go_cut [] from 11 (fun wd=>Hid (RefRep wd col3 o f2 (nearRow C f2) D { C.rep f2 with acked:=(C.rep f2).acked.set f1 f3 })∧Hid (FrC (ofRep o f2) col3 col3 w4 wd))
      case first =>
       go_region_held3 (fun W=>W.cell? ⟨D.ρ,6,none⟩=some (.slice (some ⟨gk,0,none⟩) L ck)∧W.cell? ⟨w2.heap.size,1,none⟩=some (.int .i64 f1)∧W.cell? ⟨w2.heap.size,3,none⟩=some (.int .i64 f3)) (first | assumption | exact ⟨d6,e1,e3⟩ | go_keep) (fail)
       all_goals go_wp2
       all_goals go_meet
       all_goals (case rel =>
        have hz:=(HRp.out.kept (S:=fun _=>False) (zdJ (Below.refl _ w4).drew.drew) id (fun _ _=>id)).setAck (q:=f1) (by omega) hvk f3
        exact ⟨hz.1,(zdJ (Below.refl _ w4).drew.drew).trans hz.2⟩)
      case rest =>
      obtain ⟨HP5,HS5⟩:=hcut
      generalize wc=w5 at *
      obtain ⟨gk2,ck2,hvk2,-,-,hgk2,-,hrow2,-⟩:=HP5.out.acked.at (show 0<((C.rep f2).acked.set f1 f3).length by rw [List.length_set];omega)
      have hal:((C.rep f2).acked.set f1 f3).length=L:=by rw [List.length_set];exact hakL
      have x6:=HP5.out.cells.2.2.2.2.2.2.1
      rw [hvk2] at x6
      simp only [hal] at x6
      obtain ⟨gn,cn,hvn,-,-,hgn,-,hrown,-⟩:=HP5.out.near.at (show 0<(nearRow C f2).length by unfold nearRow;simp;omega)
      have hnl:(nearRow C f2).length=L:=by unfold nearRow;simp;omega
      have x5:=HP5.out.cells.2.2.2.2.2.1
      rw [hvn,hnl] at x5
      have hρ5:=zaY HP5.out.blk
      have y1:w5.cell? ⟨w2.heap.size,1,none⟩=some (.int .i64 f1):=(World.cell?_of_block (HS5.out.fr.block _ hq3 (by rw [hcq];exact zhl))).trans e1
      have hq5:w2.heap.size<w5.heap.size:=Nat.lt_of_lt_of_le hq3 HS5.out.size
      have y2:w5.cell? ⟨gk2,f1,none⟩=some (.int .i64 f3):=hrow2 f1 _ (by
       show (ints ((C.rep f2).acked.set f1 f3))[f1]? = _
       unfold ints
       rw [List.getElem?_map,List.getElem?_set_self (by omega)]
       rfl)
      have HCA:Hid (∀ q,q<L→w5.cell? ⟨gk2,q,none⟩=some (.int .i64 (((C.rep f2).acked.set f1 f3).getD q 0))):=fun q hq=>hrow2 q _ (by
       show (ints ((C.rep f2).acked.set f1 f3))[q]? = _
       unfold ints
       rw [List.getElem?_map,List.getD_eq_getElem?_getD,List.getElem?_eq_getElem (by omega)]
       rfl)
      have HCN:Hid (∀ q,q<L→w5.cell? ⟨gn,q,none⟩=some (.bool (C.near f2 q))):=fun q hq=>hrown q _ (by
       unfold nearRow
       rw [List.map_map,List.getElem?_map,List.getElem?_range (by omega)]
       rfl)
      have HEQ:Hid ((C.rep f2).ack (C.near f2) f1 f3=({ C.rep f2 with acked:=(C.rep f2).acked.set f1 f3 }:Rep).drop (ackTo (C.near f2) ((C.rep f2).acked.set f1 f3) f3 L)):=zad hav hakL (by omega)
      have hf3N:f3≤N:=by omega
      have hN:=hL.1
      have hnumN:=hrep.num
      have hbaseN:=hrep.base
      clear hrow hrow2 hrown e0 e1 e2 e3 e4 d0 d6 k1 kf hfz HRp HSA
      generalize (C.rep f2).acked.set f1 f3=A at *
      go_wp2
      go_cut [8] from 11 (fun s8 wd=>s8 = .int .i64 f3∧Hid (Below w5.heap.size w5 wd))
      case first =>
       go_region_held3 (fun W=>W.cell? ⟨D.ρ,6,none⟩=some (.slice (some ⟨gk2,0,none⟩) L ck2)∧W.cell? ⟨w2.heap.size,1,none⟩=some (.int .i64 f1)∧W.cell? ⟨gk2,f1,none⟩=some (.int .i64 f3)) (first | assumption | exact ⟨x6,y1,y2⟩) (fail)
       all_goals go_wp2
       all_goals go_meet
       all_goals (case rel=>exact ⟨rfl,(Below.refl _ _).drew⟩)
      case rest =>
       obtain ⟨rfl,hbd⟩:=hcut
       generalize wc=w6 at *
       go_wp2
       go_loopw [8,9] (fun v j wr=>∃ q:Nat,q≤L∧j = .int .i64 q∧v = .int .i64 (ackTo (C.near f2) A f3 q)∧Hid (Below w5.heap.size w5 wr)) (fun _ j _=>L - (intOf j).toNat)
       case atStart=>exact ⟨0,Nat.zero_le _,rfl,rfl,hbd⟩
       case round =>
        obtain ⟨q,hq,rfl,rfl,hbr⟩:=hrel
        have x5r:=(hbr.out.cell (p:=⟨D.ρ,5,none⟩) hρ5).trans x5
        have x6r:=(hbr.out.cell (p:=⟨D.ρ,6,none⟩) hρ5).trans x6
        have hρr:=Nat.lt_of_lt_of_le hρ5 hbr.out.size
        by_cases hl:q<L
        ·have n1:=(hbr.out.cell (p:=⟨gn,q,none⟩) hgn).trans (HCN.out q hl)
         have a1:=(hbr.out.cell (p:=⟨gk2,q,none⟩) hgk2).trans (HCA.out q hl)
         have HST:Hid (ackTo (C.near f2) A f3 (q+1)=_):=zac (C.near f2) A f3 q
         have hl' : (q:Int)<(L:Int):=by omega
         generalize A.getD q 0=aq at *
         generalize ackTo (C.near f2) A f3 q=mq at *
         cases hnq:C.near f2 q with
         | false =>
          rw [hnq] at n1 HST
          have HS2:Hid (ackTo (C.near f2) A f3 (q+1)=mq):=HST.out.trans (by simp)
          go_wp2
          exact ⟨⟨q+1,by omega,by go_num,by rw [HS2.out],hbr⟩,by simp [intOf];omega⟩
         | true =>
          rw [hnq] at n1 HST
          by_cases hla:aq<mq
          ·have hla' : (aq:Int)<(mq:Int):=by omega
           have HS2:Hid (ackTo (C.near f2) A f3 (q+1)=aq):=HST.out.trans (by simp [hla])
           go_wp2
           exact ⟨⟨q+1,by omega,by go_num,by rw [HS2.out],hbr⟩,by simp [intOf];omega⟩
          ·have hla' : (mq:Int)≤(aq:Int):=by omega
           have HS2:Hid (ackTo (C.near f2) A f3 (q+1)=mq):=HST.out.trans (by simp [hla])
           go_wp2
           exact ⟨⟨q+1,by omega,by go_num,by rw [HS2.out],hbr⟩,by simp [intOf];omega⟩
        ·obtain rfl:q=L:=by omega
         have hle:=zab (C.near f2) A f3 q
         have HP7:Hid (RefRep wr col3 o f2 (nearRow C f2) D { C.rep f2 with acked:=A }):=HP5.out.kept (S:=fun _=>False) (zdJ hbr.out) id (fun _ _=>id)
         have HF7:Hid (FrC (ofRep o f2) col3 col3 w4 wr):=HS5.out.trans (zdJ hbr.out)
         have HDR:=Hid.mk (zj5 HP7.out (by omega) (ackTo (C.near f2) A f3 q) (by show (C.rep f2).num≤_;omega) (by omega) (by show (C.rep f2).base≤_;omega))
         have HAR:Hid (C.arrived ⟨3,f1,f2,f3,f4⟩=C.setRep f2 ((C.rep f2).ack (C.near f2) f1 f3)):=by unfold Hid Clu.arrived;rw [if_neg (by rw [hdn];decide),if_pos rfl]
         generalize ackTo (C.near f2) A f3 q=mq at *
         clear HP5 HS5 HCA HCN hbr hbd
         go_wp2_with fail
         refine HDR.out.mono ?_
         rintro e w8 ⟨rfl,D8,col8,hρ8,hR8,hF8⟩
         have HFF:Hid (FrC (ofRep o f2) col3 col8 w4 w8):=HF7.out.trans hF8.out
         have HR9:=Hid.mk (HR4.out.setRep (by omega) (by omega) HFF.out (fun h' => by rw [zcy hD h'];exact hρ8) hR8.out)
         go_wp2
         go_ret
         exact ⟨rfl,_,col8,by rw [HC.out,HAR.out,HEQ.out];exact HR9.out,HF4.out.trans (HFF.out.mono zhm)⟩
     ·have hgt' : (f3:Int)≤(av:Int):=by omega
      go_wp2
      go_region_held3 (fun W=>W.cell? ⟨w2.heap.size,3,none⟩=some (.int .i64 f3)∧W.cell? ⟨D.ρ,6,none⟩=some (.slice (some ⟨gk,0,none⟩) L ck)∧W.cell? ⟨w2.heap.size,1,none⟩=some (.int .i64 f1)∧W.cell? ⟨gk,f1,none⟩=some (.int .i64 av)) (first | assumption | exact ⟨e3,d6,e1,k1⟩) (fail)
      all_goals go_wp2
      have HP5:Hid (RefRep w4.drew col3 o f2 (nearRow C f2) D { C.rep f2 with acked:=(C.rep f2).acked.set f1 av }):=by
       rw [zae hav]
       exact HRp.out.kept (S:=fun _=>False) (zdJ (Below.refl _ w4).drew) id (fun _ _=>id)
      have HS5:Hid (FrC (ofRep o f2) col3 col3 w4 w4.drew):=zdJ (Below.refl _ w4).drew
      generalize w4.drew=w5 at *
      obtain ⟨gk2,ck2,hvk2,-,-,hgk2,-,hrow2,-⟩:=HP5.out.acked.at (show 0<((C.rep f2).acked.set f1 av).length by rw [List.length_set];omega)
      have hal:((C.rep f2).acked.set f1 av).length=L:=by rw [List.length_set];exact hakL
      have x6:=HP5.out.cells.2.2.2.2.2.2.1
      rw [hvk2] at x6
      simp only [hal] at x6
      obtain ⟨gn,cn,hvn,-,-,hgn,-,hrown,-⟩:=HP5.out.near.at (show 0<(nearRow C f2).length by unfold nearRow;simp;omega)
      have hnl:(nearRow C f2).length=L:=by unfold nearRow;simp;omega
      have x5:=HP5.out.cells.2.2.2.2.2.1
      rw [hvn,hnl] at x5
      have hρ5:=zaY HP5.out.blk
      have y1:w5.cell? ⟨w2.heap.size,1,none⟩=some (.int .i64 f1):=(World.cell?_of_block (HS5.out.fr.block _ hq3 (by rw [hcq];exact zhl))).trans e1
      have hq5:w2.heap.size<w5.heap.size:=Nat.lt_of_lt_of_le hq3 HS5.out.size
      have y2:w5.cell? ⟨gk2,f1,none⟩=some (.int .i64 av):=hrow2 f1 _ (by
       show (ints ((C.rep f2).acked.set f1 av))[f1]? = _
       unfold ints
       rw [List.getElem?_map,List.getElem?_set_self (by omega)]
       rfl)
      have HCA:Hid (∀ q,q<L→w5.cell? ⟨gk2,q,none⟩=some (.int .i64 (((C.rep f2).acked.set f1 av).getD q 0))):=fun q hq=>hrow2 q _ (by
       show (ints ((C.rep f2).acked.set f1 av))[q]? = _
       unfold ints
       rw [List.getElem?_map,List.getD_eq_getElem?_getD,List.getElem?_eq_getElem (by omega)]
       rfl)
      have HCN:Hid (∀ q,q<L→w5.cell? ⟨gn,q,none⟩=some (.bool (C.near f2 q))):=fun q hq=>hrown q _ (by
       unfold nearRow
       rw [List.map_map,List.getElem?_map,List.getElem?_range (by omega)]
       rfl)
      have HEQ:Hid ((C.rep f2).ack (C.near f2) f1 f3=({ C.rep f2 with acked:=(C.rep f2).acked.set f1 av }:Rep).drop (ackTo (C.near f2) ((C.rep f2).acked.set f1 av) av L)):=zad hav hakL (by omega)
      have havN:av≤N:=by omega
      have hN:=hL.1
      have hnumN:=hrep.num
      have hbaseN:=hrep.base
      clear hrow hrow2 hrown e0 e1 e2 e3 e4 d0 d6 k1 kf hfz HRp HSA
      generalize (C.rep f2).acked.set f1 av=A at *
      go_cut [8] from 11 (fun s8 wd=>s8 = .int .i64 av∧Hid (Below w5.heap.size w5 wd))
      case first =>
       go_region_held3 (fun W=>W.cell? ⟨D.ρ,6,none⟩=some (.slice (some ⟨gk2,0,none⟩) L ck2)∧W.cell? ⟨w2.heap.size,1,none⟩=some (.int .i64 f1)∧W.cell? ⟨gk2,f1,none⟩=some (.int .i64 av)) (first | assumption | exact ⟨x6,y1,y2⟩) (fail)
       all_goals go_wp2
       all_goals go_meet
       all_goals (case rel=>exact ⟨rfl,(Below.refl _ _).drew⟩)
      case rest =>
       obtain ⟨rfl,hbd⟩:=hcut
       generalize wc=w6 at *
       go_wp2
       go_loopw [8,9] (fun v j wr=>∃ q:Nat,q≤L∧j = .int .i64 q∧v = .int .i64 (ackTo (C.near f2) A av q)∧Hid (Below w5.heap.size w5 wr)) (fun _ j _=>L - (intOf j).toNat)
       case atStart=>exact ⟨0,Nat.zero_le _,rfl,rfl,hbd⟩
       case round =>
        obtain ⟨q,hq,rfl,rfl,hbr⟩:=hrel
        have x5r:=(hbr.out.cell (p:=⟨D.ρ,5,none⟩) hρ5).trans x5
        have x6r:=(hbr.out.cell (p:=⟨D.ρ,6,none⟩) hρ5).trans x6
        have hρr:=Nat.lt_of_lt_of_le hρ5 hbr.out.size
        by_cases hl:q<L
        ·have n1:=(hbr.out.cell (p:=⟨gn,q,none⟩) hgn).trans (HCN.out q hl)
         have a1:=(hbr.out.cell (p:=⟨gk2,q,none⟩) hgk2).trans (HCA.out q hl)
         have HST:Hid (ackTo (C.near f2) A av (q+1)=_):=zac (C.near f2) A av q
         have hl' : (q:Int)<(L:Int):=by omega
         generalize A.getD q 0=aq at *
         generalize ackTo (C.near f2) A av q=mq at *
         cases hnq:C.near f2 q with
         | false =>
          rw [hnq] at n1 HST
          have HS2:Hid (ackTo (C.near f2) A av (q+1)=mq):=HST.out.trans (by simp)
          go_wp2
          exact ⟨⟨q+1,by omega,by go_num,by rw [HS2.out],hbr⟩,by simp [intOf];omega⟩
         | true =>
          rw [hnq] at n1 HST
          by_cases hla:aq<mq
          ·have hla' : (aq:Int)<(mq:Int):=by omega
           have HS2:Hid (ackTo (C.near f2) A av (q+1)=aq):=HST.out.trans (by simp [hla])
           go_wp2
           exact ⟨⟨q+1,by omega,by go_num,by rw [HS2.out],hbr⟩,by simp [intOf];omega⟩
          ·have hla' : (mq:Int)≤(aq:Int):=by omega
           have HS2:Hid (ackTo (C.near f2) A av (q+1)=mq):=HST.out.trans (by simp [hla])
           go_wp2
           exact ⟨⟨q+1,by omega,by go_num,by rw [HS2.out],hbr⟩,by simp [intOf];omega⟩
        ·obtain rfl:q=L:=by omega
         have hle:=zab (C.near f2) A av q
         have HP7:Hid (RefRep wr col3 o f2 (nearRow C f2) D { C.rep f2 with acked:=A }):=HP5.out.kept (S:=fun _=>False) (zdJ hbr.out) id (fun _ _=>id)
         have HF7:Hid (FrC (ofRep o f2) col3 col3 w4 wr):=HS5.out.trans (zdJ hbr.out)
         have HDR:=Hid.mk (zj5 HP7.out (by omega) (ackTo (C.near f2) A av q) (by show (C.rep f2).num≤_;omega) (by omega) (by show (C.rep f2).base≤_;omega))
         have HAR:Hid (C.arrived ⟨3,f1,f2,f3,f4⟩=C.setRep f2 ((C.rep f2).ack (C.near f2) f1 f3)):=by unfold Hid Clu.arrived;rw [if_neg (by rw [hdn];decide),if_pos rfl]
         generalize ackTo (C.near f2) A av q=mq at *
         clear HP5 HS5 HCA HCN hbr hbd
         go_wp2_with fail
         refine HDR.out.mono ?_
         rintro e w8 ⟨rfl,D8,col8,hρ8,hR8,hF8⟩
         have HFF:Hid (FrC (ofRep o f2) col3 col8 w4 w8):=HF7.out.trans hF8.out
         have HR9:=Hid.mk (HR4.out.setRep (by omega) (by omega) HFF.out (fun h' => by rw [zcy hD h'];exact hρ8) hR8.out)
         go_wp2
         go_ret
         exact ⟨rfl,_,col8,by rw [HC.out,HAR.out,HEQ.out];exact HR9.out,HF4.out.trans (HFF.out.mono zhm)⟩
    ·have hk3' : ¬ ((f0:Int)=3):=by omega
     have hfm:ToldMay f4:=hfo.told
     have hrep:=hokC.rep (r:=f2) (by rw [hLL];exact hdst)
     have hfl:f4.length≤131072:=Nat.le_trans (hfm.length hfo.sub) hL.2
     have d1:=HRp.out.cells.2.1
     obtain ⟨adA,cpA,hvA,-⟩:=id HRp.out.atoms
     rw [hvA] at d1
     have hal:(C.rep f2).atoms.length≤274878038016:=Nat.le_trans hrep.alen hL.prod
     have HNW:Hid (∀ W,Below w4.heap.size w4 W→Calls Tryz.prog 125 #[.slice adv f4.length cpv,.slice adA (C.rep f2).atoms.length cpA] W fun e w' => ∃ v',e = .returned v' ∧ w'.ownsRow W.heap.size 76 6 v' (fresh f4 (C.rep f2).atoms).length (flat (fresh f4 (C.rep f2).atoms))∧Below W.heap.size W w'):=fun W hW=>by
      refine (zgY _ _ f4 (C.rep f2).atoms W (HH4.out.slice.below hW) (by rw [← hvA];exact HRp.out.atoms.slice.below hW) (fun a ha=>zdj (hfm.2 a ha)) (fun a ha=>zdj (hokC.may a (hrep.sub a ha))) (by omega) (by omega)).mono ?_
      rintro e w'' ⟨v',L',rfl,ho,hT,hb⟩
      have e1:newsTo L' (C.rep f2).atoms L'.length=fresh f4 (C.rep f2).atoms:=by
       unfold newsTo fresh
       rw [hT.out.unique hfm.2 (zmr _),List.take_of_length_le (Nat.le_refl _)]
      rw [e1] at ho
      exact ⟨v',rfl,ho,hb⟩
     go_wp2
     go_cut [10] from 11 (fun s10 wn=>∃ ad cp,s10 = .slice ad (fresh f4 (C.rep f2).atoms).length cp∧Hid (wn.ownsRow w4.heap.size 76 6 (.slice ad (fresh f4 (C.rep f2).atoms).length cp) (fresh f4 (C.rep f2).atoms).length (flat (fresh f4 (C.rep f2).atoms)))∧Hid (Below w4.heap.size w4 wn))
     case first =>
      go_region_with (go_at_call 125;refine (HNW.out _ (Below.refl _ _).drew).mono ?_;rintro e w5 ⟨v5,rfl,ho5,hb5⟩;obtain ⟨ad5,cp5,hv5⟩:=zh1 ho5;subst hv5)
      all_goals go_wp2
      all_goals go_meet
      all_goals (case rel=>exact ⟨_,_,rfl,ho5,(Below.refl _ w4).drew.trans hb5⟩)
     case rest =>
      obtain ⟨adn,cpn,rfl,hon,hbn⟩:=hcut
      have HR5:Hid (RefAt wc (paint col3 w4.heap.size (o,1)) o x K2 C):=HR4.out.below hbn.out (o,1)
      have HP5:Hid (RefRep wc (paint col3 w4.heap.size (o,1)) o f2 (nearRow C f2) D (C.rep f2)):=HRp.out.below hbn.out (o,1)
      have HH5:Hid (Held wc (paint col3 w4.heap.size (o,1)) (o,1) (.slice adv f4.length cpv) f4):=HH4.out.kept (S:=fun _=>False) (zdH hbn.out (o,1)) id
      have HN5:Hid (Held wc (paint col3 w4.heap.size (o,1)) (o,1) (.slice adn (fresh f4 (C.rep f2).atoms).length cpn) (fresh f4 (C.rep f2).atoms)):=zeP rfl hon.out
      have HF5:Hid (FrC (ofOwner o) col (paint col3 w4.heap.size (o,1)) w' wc):=HF4.out.below hbn.out (o,1)
      have hab5:wc.heap[w2.heap.size]? = some (.cells #[.int .i64 f0,.int .i64 f1,.int .i64 f2,.int .i64 f3,.slice adv f4.length cpv] 162 (0,0)):=(hbn.out.block _ hq3).trans hab4
      have hcq5:paint col3 w4.heap.size (o,1) w2.heap.size=(o,1):=(zin col3 _ hq3).trans hcq
      clear HR4 HRp HH4 HF4 HNW hon hbn e0 e1 e2 e3 e4 hx hρ d0 d1 hq3 hab4 hcq
      generalize paint col3 w4.heap.size (o,1)=col5 at *
      obtain ⟨e0,e1,e2,e3,e4⟩:=zdl hab5
      have hx:=zaY HR5.out.blk
      have hρ:=zaY HP5.out.blk
      have c3:=HR5.out.cells.2.2.2.1
      have hq3:=zaY hab5
      have hfs:(fresh f4 (C.rep f2).atoms).length≤131072:=Nat.le_trans (zdT hfm |>.length fun a ha=>hfo.sub a (zdS hfm a ha)) hL.2
      have HARR:Hid (C.arrived ⟨f0,f1,f2,f3,f4⟩=(C.setRep f2 ((C.rep f2).arrive C.room C.rr f4 f1)).put ⟨3,f2,f1,f3,[]⟩):=by unfold Hid Clu.arrived;rw [if_neg (by rw [hdn];decide),if_neg hk3]
      have HPUT:Hid (∀ W colW KW CW,RefAt W colW o x KW CW→CW.net.length≤200→Calls Tryz.prog 80 #[.pointer (some ⟨x,0,none⟩),.agg #[.int .i64 3,.int .i64 f2,.int .i64 f1,.int .i64 f3,.slice none 0 0]] W fun e w' => e = .returned (.tuple #[])∧∃ K' col',Hid (RefAt w' col' o x K' (CW.put ⟨3,f2,f1,f3,[]⟩))∧Hid (FrC (ofOwner o) colW col' W w')):=fun W colW KW CW h1 h2=>zke (f:=⟨3,f2,f1,f3,[]⟩) h1 h2 (zeQ W colW (o,1))
      have HTK1:=Hid.mk (zkq (org:=f1) HR5.out hokC hL (by rw [hLL];exact hdst) hdn hD HP5.out HN5.out hfs (by omega))
      have HTK2:=Hid.mk (zkq (org:=f1) HR5.out hokC hL (by rw [hLL];exact hdst) hdn hD HP5.out HH5.out hfl (by omega))
      have hnet:=hokC.netL
      by_cases hfe:fresh f4 (C.rep f2).atoms = []
      ·have HAV:Hid (C.setRep f2 ((C.rep f2).arrive C.room C.rr f4 f1)=C):=by
        unfold Hid Rep.arrive
        rw [if_pos hfe]
        exact zlr C (by rw [hLL];exact hdst)
       have HP6:=Hid.mk (HPUT.out _ _ _ _ HR5.out hnet)
       have q9:(fresh f4 (C.rep f2).atoms).length=0:=by rw [hfe];rfl
       clear HPUT HTK1 HTK2 HR5 HP5 HH5 HN5 hab5
       rw [q9]
       go_wp2_with fail
       refine HP6.out.mono ?_
       rintro e w7 ⟨rfl,K7,col7,hR7,hF7⟩
       go_wp2
       go_ret
       exact ⟨rfl,K7,col7,by rw [HC.out,HARR.out,HAV.out];exact hR7.out,HF5.out.trans hF7.out⟩
      ·have q9:(0:Int)<((fresh f4 (C.rep f2).atoms).length:Int):=by
        have:=List.length_pos_iff.2 hfe
        omega
       cases hrr:C.rr with
       | true =>
        have HAV:Hid ((C.rep f2).arrive C.room C.rr f4 f1=(C.rep f2).take C.room (fresh f4 (C.rep f2).atoms) f1):=by unfold Hid Rep.arrive;rw [if_neg hfe,hrr];rfl
        rw [hrr] at c3
        go_wp2_with fail
        refine HTK1.out.mono ?_
        rintro e w6 ⟨rfl,K6,col6,hR6,hF6⟩
        have hab6:=(hF6.out.fr.block _ hq3 (by rw [hcq5];exact zhl)).trans hab5
        have c36:w6.cell? ⟨x,3,none⟩=some (.bool true):=by
         have:=hR6.out.cells.2.2.2.1
         rw [show (C.setRep f2 ((C.rep f2).take C.room (fresh f4 (C.rep f2).atoms) f1)).rr=C.rr from rfl,hrr] at this
         exact this
        have hx6:=zaY hR6.out.blk
        have HP6:=Hid.mk (HPUT.out _ _ _ _ hR6.out (show (C.setRep f2 ((C.rep f2).take C.room (fresh f4 (C.rep f2).atoms) f1)).net.length≤200 from hnet))
        have HF6:Hid (FrC (ofOwner o) col col6 w' w6):=HF5.out.trans (hF6.out.mono zhm)
        have hq6:=zaY hab6
        clear e0 e1 e2 e3 e4 c3 HPUT HTK1 HTK2 hR6 hF6 HF5 HR5 HP5 HH5 HN5 hab5 hx
        obtain ⟨e0,e1,e2,e3,e4⟩:=zdl hab6
        go_wp2_with fail
        refine HP6.out.mono ?_
        rintro e w7 ⟨rfl,K7,col7,hR7,hF7⟩
        go_wp2
        go_ret
        exact ⟨rfl,K7,col7,by rw [HC.out,HARR.out,HAV.out];exact hR7.out,HF6.out.trans hF7.out⟩
       | false =>
        have HAV:Hid ((C.rep f2).arrive C.room C.rr f4 f1=(C.rep f2).take C.room f4 f1):=by unfold Hid Rep.arrive;rw [if_neg hfe,hrr];rfl
        rw [hrr] at c3
        go_wp2_with fail
        refine HTK2.out.mono ?_
        rintro e w6 ⟨rfl,K6,col6,hR6,hF6⟩
        have hab6:=(hF6.out.fr.block _ hq3 (by rw [hcq5];exact zhl)).trans hab5
        have c36:w6.cell? ⟨x,3,none⟩=some (.bool false):=by
         have:=hR6.out.cells.2.2.2.1
         rw [show (C.setRep f2 ((C.rep f2).take C.room f4 f1)).rr=C.rr from rfl,hrr] at this
         exact this
        have hx6:=zaY hR6.out.blk
        have HP6:=Hid.mk (HPUT.out _ _ _ _ hR6.out (show (C.setRep f2 ((C.rep f2).take C.room f4 f1)).net.length≤200 from hnet))
        have HF6:Hid (FrC (ofOwner o) col col6 w' w6):=HF5.out.trans (hF6.out.mono zhm)
        have hq6:=zaY hab6
        clear e0 e1 e2 e3 e4 c3 HPUT HTK1 HTK2 hR6 hF6 HF5 HR5 HP5 HH5 HN5 hab5 hx
        obtain ⟨e0,e1,e2,e3,e4⟩:=zdl hab6
        go_wp2_with fail
        refine HP6.out.mono ?_
        rintro e w7 ⟨rfl,K7,col7,hR7,hF7⟩
        go_wp2
        go_ret
        exact ⟨rfl,K7,col7,by rw [HC.out,HARR.out,HAV.out];exact hR7.out,HF6.out.trans hF7.out⟩
section
variable {Z:Snap} {w w' : World} {W x y B M M' N:Nat} {U:List At} {c:Clu}
end
theorem zb7 {w w2:World}{col:Col}{o i:Nat}{near:List Bool}{D:RefD}{p:Rep}{v2:Value}(h:RefRep w col o i near D p)(hi:i<6)(hb2:Below w.heap.size w w2)(hown2:w2.ownsRow w.heap.size 76 6 v2 (tell p.atoms).length (flat (tell p.atoms)))(hu:p.torn = []) :
  let w3:=w2.alloc (.cells #[.int .i64 2,.int .i64 p.num,v2,.bool false,.string ⟨#[]⟩] 152)
  (w3.cell? ⟨D.ρ,7,none⟩=some D.vl∧w3.frozen? ⟨D.ρ,7,none⟩=false)∧∃ D' col',D'.ρ=D.ρ∧RefRep (w3.setCell ⟨D.ρ,7,none⟩ (.slice (some ⟨w2.heap.size,0,none⟩) 1 1)) col' o i near D' p.compact∧FrC (ofRep o i) col col' w (w3.setCell ⟨D.ρ,7,none⟩ (.slice (some ⟨w2.heap.size,0,none⟩) 1 1)):=by
 intro w3
 have h2:=h.below hb2 (o,1)
 have hb3:Below w2.heap.size w2 w3:=zaO (Below.refl _ w2) _
 have h3:=h2.below hb3 (o,50+i)
 have hH2:Held w2 (paint col w.heap.size (o,1)) (o,1) v2 (tell p.atoms):=zeP rfl hown2
 have hH3:=hH2.kept (S:=fun _=>False) (zdH hb3 (o,50+i)) id
 have hrow:RowC w3 (paint (paint col w.heap.size (o,1)) w2.heap.size (o,50+i)) (o,50+i) 152 5 (.slice (some ⟨w2.heap.size,0,none⟩) 1 1) 1 ([(⟨2,p.num,v2,tell p.atoms,false,⟨#[]⟩⟩:Rc)].flatMap Rc.cells) :=
  ⟨⟨rfl,.inr ⟨w2.heap.size,1,_,rfl,Nat.zero_le _,heap_alloc_new w2 _,Nat.le_refl _,by unfold maxLen;omega,rfl,rfl⟩⟩,fun q hq=>by obtain rfl:=zh2 hq;exact zim _ _ (Nat.le_refl _)⟩
 have hF:FrC (ofRep o i) col (paint (paint col w.heap.size (o,1)) w2.heap.size (o,50+i)) w w3:=(zdH hb2 (o,1)).below hb3 (o,50+i)
 obtain ⟨h4,hF4⟩:=h3.set (k:=7) (u := .slice (some ⟨w2.heap.size,0,none⟩) 1 1) (D' := { D with vl := .slice (some ⟨w2.heap.size,0,none⟩) 1 1,rs := [⟨2,p.num,v2,tell p.atoms,false,⟨#[]⟩⟩] }) (p' := p.compact) hi rfl rfl
  { h3.toRefRest with
   log:=hrow
   rcd:=fun r hr=>by
    obtain rfl:=List.mem_singleton.1 hr
    exact hH3
   logs:=⟨_,[],(List.append_nil _).symm,fun r hr=>by
    obtain rfl:=List.mem_singleton.1 hr
    rfl,rfl,.inl ⟨rfl,hu⟩⟩ }
 exact ⟨⟨zaX h3.blk 7,zaZ h3.blk 7⟩,_,_,by rfl,h4,hF.trans hF4⟩
set_option maxRecDepth 100000 in
theorem zj0 {w:World}{col:Col}{o x N:Nat}{U:List At}{K:RefC}{c:Clu}(h:RefAt w col o x K c)(hok:c.ok U N)(hL:Lim U N)(r:Int) :
  Calls Tryz.prog 31 #[.pointer (some ⟨x,0,none⟩),.int .i64 r] w fun e w' => e = .returned (.int .i64 (c.works r))∧∃ K' col',Hid (RefAt w' col' o x K' (c.compact r))∧Hid (FrC (ofOwner o) col col' w w'):=by
 have HW:=zkv h hok.n6 r
 by_cases hw:c.works r=0
 ·obtain ⟨⟨h0,hr⟩,hd⟩:=znz hw
  obtain ⟨n,rfl⟩:∃ n:Nat,r=n:=⟨r.toNat,by omega⟩
  simp only [Int.toNat_natCast] at hr hd
  obtain ⟨g,cap,D,hv,hc,hD,hp,hR⟩:=h.ptr hr
  have c5:=h.cells.2.2.2.2.2.1
  rw [hv] at c5
  have hn6:=hok.n6
  have hrep:=hok.rep hr
  have HC:Hid (c.compact n=c.setRep n (c.rep n).compact):=by unfold Hid Clu.compact;rw [if_pos hw,Int.toNat_natCast]
  have HFIN:Hid (∀ w' D' col',D'.ρ=D.ρ→RefRep w' col' o n (nearRow c n) D' (c.rep n).compact→FrC (ofRep o n) col col' w w' → RefAt w' col' o x { K with Ds:=K.Ds.set n D' } (c.setRep n (c.rep n).compact)):=fun w' D' col' h1 h2 h3=>h.setRep hn6 hr h3 (fun h' => by rw [zcy hD h'];exact h1) h2
  obtain ⟨d0,d1,d2,d3,d4,d5,d6,d7,d8,d9,hfz⟩:=hR.cells
  obtain ⟨adA,cpA,hvA,_⟩:=id hR.atoms
  rw [hvA] at d1
  have hlA:(c.rep n).atoms.length≤274878038016:=Nat.le_trans hrep.alen hL.prod
  have hmA:=hrep.may hok.may
  have HT:Hid (∀ W,Below w.heap.size w W→Calls Tryz.prog 76 #[.slice adA (c.rep n).atoms.length cpA] W fun e w' => ∃ ad2 cp2,e = .returned (.slice ad2 (tell (c.rep n).atoms).length cp2)∧Hid (w'.ownsRow W.heap.size 76 6 (.slice ad2 (tell (c.rep n).atoms).length cp2) (tell (c.rep n).atoms).length (flat (tell (c.rep n).atoms)))∧Below W.heap.size W w'):=fun W hW=>by
   refine (zmP _ (c.rep n).atoms W (by rw [← hvA];exact hR.atoms.slice.below hW) (fun a ha=>zdj (hmA a ha)) (by omega)).mono ?_
   rintro e w' ⟨v',out,rfl,hown,hto,hb⟩
   obtain rfl:out=tell (c.rep n).atoms:=hto.out.unique hmA (zmr _)
   obtain ⟨ad,cp,rfl⟩:=zh1 hown
   exact ⟨ad,cp,rfl,hown,hb⟩
  have HDN:Hid (∀ w2 v2,Below w.heap.size w w2→w2.ownsRow w.heap.size 76 6 v2 (tell (c.rep n).atoms).length (flat (tell (c.rep n).atoms))→_):=fun w2 v2 k1 k2=>zb7 hR (by omega) k1 k2 (hrep.tornUp hd)
  have hg:g<w.heap.size:=World.block_lt_of_cell? w ⟨g,n,none⟩ hp
  have hρ:=zaY hR.blk
  obtain ⟨adl,cpl,hvl,_⟩:=hR.log.form
  rw [hvl] at d7 HDN
  rw [hw] at HW ⊢
  clear h hok hR hw hD hv hrep hmA hvA hvl d0 d3 d4 d5 d6 d8 d9 hfz
  generalize D.ρ=ρ at *
  generalize hLL:c.reps.length=L at *
  have q1:(n:Int)<(L:Int):=by omega
  clear hLL
  go_enter Tryz.func31,Tryz.ntmps31
  go_wp2_with fail
  refine HW.mono ?_
  rintro e w' ⟨rfl,rfl⟩
  go_wp2_with fail
  have HK2:∀ W,Below w'.heap.size w' W→W.cell? ⟨ρ,2,none⟩=some (.int .i64 (c.rep n).num)∧W.cell? ⟨ρ,1,none⟩=some (.slice adA (c.rep n).atoms.length cpA):=fun W hW=>⟨by rw [hW.cell (p:=⟨ρ,2,none⟩) hρ];exact d2,by rw [hW.cell (p:=⟨ρ,1,none⟩) hρ];exact d1⟩
  generalize hnm:(c.rep n).num=nm at *
  generalize (c.rep n).atoms.length=nA at *
  generalize htl:tell (c.rep n).atoms=TL at *
  clear hnm htl
  have HST:∀ (W:World) (u:Value),W.cell? ⟨ρ,2,none⟩=some (.int .i64 nm)∧W.cell? ⟨ρ,1,none⟩=some (.slice adA nA cpA)→(W.setCell ⟨ρ,7,none⟩ u).cell? ⟨ρ,2,none⟩=some (.int .i64 nm)∧(W.setCell ⟨ρ,7,none⟩ u).cell? ⟨ρ,1,none⟩=some (.slice adA nA cpA):=fun W u hh=>⟨(World.cell?_setCell_other _ _ _ _ (by intro e;cases e)).trans hh.1,(World.cell?_setCell_other _ _ _ _ (by intro e;cases e)).trans hh.2⟩
  go_region_held3 (fun W=>W.cell? ⟨ρ,2,none⟩=some (.int .i64 nm)∧W.cell? ⟨ρ,1,none⟩=some (.slice adA nA cpA)) (first | exact HK2 _ (Below.refl _ _).drew | exact HK2 _ ((Below.refl _ _).drew.trans hb2) | exact HK2 _ (zaO ((Below.refl _ _).drew.trans hb2) _) | exact HST _ _ (by assumption) | go_keep) (first | (go_at_call 76;refine (HT.out _ (Below.refl _ _).drew).mono ?_;rintro e w2 ⟨ad2,cp2,rfl,hown2,hb2⟩;obtain ⟨⟨k7,l7⟩,D3,col3,hρ3,hR3,hF3⟩:=HDN.out w2 _ ((Below.refl _ w').drew.trans hb2) hown2.out) | fail)
  go_wp2
  go_ret
  exact ⟨rfl,_,col3,by rw [HC.out];exact HFIN.out _ _ _ hρ3 hR3 hF3,hF3.mono zhm⟩
 ·have HC:Hid (c.compact r=c):=by unfold Hid Clu.compact;rw [if_neg hw]
  generalize c.works r=cd at *
  go_enter Tryz.func31,Tryz.ntmps31
  go_wp2_with fail
  refine HW.mono ?_
  rintro e w' ⟨rfl,rfl⟩
  go_wp2
  go_ret
  exact ⟨rfl,K,col,by rw [HC.out];exact h,FrC.refl _ _ _⟩
end Go.Proofs.YtahdlejgjcjeoabGreatDoor
