/- A game: sending and the network, both sides. -/
import Derived.Test.YtahdlejgjcjeoabGreatDoorA40
import Derived.Test.YtahdlejgjcjeoabGreatDoorA43
import Derived.Test.YtahdlejgjcjeoabGreatDoorA39
import Derived.Test.YtahdlejgjcjeoabGreatDoorA31
namespace Go.Proofs.YtahdlejgjcjeoabGreatDoor
set_option maxHeartbeats 8000000
open Go.RowKit
set_option maxRecDepth 100000 in
theorem zkk {w:World}{col:Col}{o x N:Nat}{U:List At}{K:RefC}{c:Clu}(h:RefAt w col o x K c)(hok:c.ok U N)(hL:Lim U N)(m k:Nat)(hr:m<c.reps.length)(hrq:k<c.reps.length)(hnr:c.near m k=true)(hdn:(c.rep m).down=false)(hlt:¬ (c.rep m).acked.getD k 0<(c.rep m).base)(hbp:c.bp=true) :
  Calls Tryz.prog 33 #[.pointer (some ⟨x,0,none⟩),.int .i64 m,.int .i64 k] w fun e w' => e = .returned (.int .i64 0)∧∃ K' col',Hid (RefAt w' col' o x K' (c.sent m k))∧Hid (FrC (ofOwner o) col col' w w'):=by
 have HT1:=Hid.mk (zkr h m)
 have HT2:=Hid.mk (zkr h k)
 rw [show c.there m=true by simp [Clu.there];omega] at HT1
 rw [show c.there k=true by simp [Clu.there];omega] at HT2
 have hn6:=hok.n6
 obtain ⟨g,cap,D,hv,hc,hD,hp,hR⟩:=h.ptr hr
 have c5:=h.cells.2.2.2.2.2.1
 have c2:=h.cells.2.2.1
 rw [hv] at c5
 have hx:=zaY h.blk
 have hg:g<w.heap.size:=World.block_lt_of_cell? w ⟨g,m,none⟩ hp
 have hρ:=zaY hR.blk
 have d0:=hR.cells.1
 have d5:=hR.cells.2.2.2.2.2.1
 obtain ⟨gn,cn,hvn,-,-,hgn,-,hrown,-⟩:=hR.near.at (show 0<(nearRow c m).length by unfold nearRow;simp;omega)
 have hnl:(nearRow c m).length=c.reps.length:=by unfold nearRow;simp
 rw [hvn,hnl] at d5
 have n1:w.cell? ⟨gn,k,none⟩=some (.bool (c.near m k)):=hrown k _ (by
  unfold nearRow
  rw [List.map_map,List.getElem?_map,List.getElem?_range (by omega)]
  rfl)
 rw [hnr] at n1
 rw [hdn] at d0
 have hrep:=hok.rep hr
 have HHR:=Hid.mk hR
 have HOK:=Hid.mk hok
 have d2:=hR.cells.2.2.1
 have d3:=hR.cells.2.2.2.1
 have d1:=hR.cells.2.1
 obtain ⟨adA,cpA,hvA,-⟩:=id hR.atoms
 rw [hvA] at d1
 have hakL:(c.rep m).acked.length=c.reps.length:=hrep.ackL
 obtain ⟨gk,ck,hvk,-,-,hgk,-,hrow,-⟩:=hR.acked.at (by omega)
 have d6:=hR.cells.2.2.2.2.2.2.1
 rw [hvk,hakL] at d6
 have k1:w.cell? ⟨gk,k,none⟩=some (.int .i64 ((c.rep m).acked.getD k 0)):=hrow k _ (by
  unfold ints
  rw [List.getElem?_map,List.getD_eq_getElem?_getD,List.getElem?_eq_getElem (by omega)]
  rfl)
 have hal:(c.rep m).atoms.length≤274878038016:=Nat.le_trans hrep.alen hL.prod
 have HFL:Hid (((c.rep m).frame c.bp m k).d.length≤131072):=by
  have hfo:=zdP HOK.out (r:=m) (q:=k) hr hrq
  exact Nat.le_trans (hfo.told.length hfo.sub) hL.2
 have hTS:D.ts.length≤2097152:=by
  have:=hR.tsl
  have:=hrep.num
  have:=hL.1
  omega
 have HFR:Hid ((c.rep m).frame c.bp m k=⟨1,m,k,(c.rep m).num,tell (sendOf c.bp ((c.rep m).acked.getD k 0) k D.ts)⟩):=by
  unfold Hid Rep.frame
  rw [if_neg hlt,zld hR.buf]
 have HTL:=Hid.mk (fun wz vS=>zlh (wz:=wz) (vS:=vS) (k:=k) h hok hr hD hR (kd:=1) (hfr:=HFR.out))
 have HTB:Hid (∀ t∈D.ts,t.kept=true→t.d.length≤131072∧∀ a∈t.d,mayB a=true):=fun t ht hk=>by
  have hin:t.ent∈(c.rep m).buf:=by rw [← hR.buf];exact List.mem_map_of_mem (List.mem_filter.2 ⟨ht,hk⟩)
  obtain ⟨h1,h2,-⟩:=hrep.buf _ hin
  exact ⟨Nat.le_trans (h1.length h2) hL.2,fun a ha=>HOK.out.may a (h2 a ha)⟩
 have HLE:Hid (∀ ak i,(sendOf c.bp ak k (D.ts.take i)).length≤274877906944):=fun ak i=>by
  have h1:=zle (bp:=c.bp) (ak:=ak) (k:=k) (i:=0) (M:=131072) (ts:=D.ts.take i) (fun t ht hk=>(HTB.out t (List.mem_of_mem_take ht) hk).1)
  have h2:(D.ts.take i).length≤2097152:=by
   have:=hR.tsl
   have:=hrep.num
   have:=hL.1
   rw [List.length_take]
   omega
  omega
 have HMY:Hid (∀ ak,∀ a∈sendOf c.bp ak k D.ts,mayB a=true):=fun ak a ha=>by
  unfold sendOf at ha
  obtain ⟨l,hl,hal⟩:=List.mem_flatten.1 ha
  obtain ⟨t,ht,rfl⟩:=List.mem_map.1 hl
  obtain ⟨ht1,ht2⟩:=List.mem_filter.1 ht
  exact (HTB.out t ht1 (by unfold goesTo at ht2;simp only [Bool.and_eq_true] at ht2;exact ht2.1)).2 a hal
 have hq6:c.reps.length≤6:=hn6
 clear hrown hrow
 generalize hLL:c.reps.length=L at *
 have q1:(m:Int)<(L:Int):=by omega
 have q2:(k:Int)<(L:Int):=by omega
 have hfrN:=hrep.fr
 have hwtN:=Nat.le_trans hrep.wt (Nat.mul_le_mul hL.1 hL.2)
 have hLN:=hL.1
 clear hok hR h
 go_enter Tryz.func33,Tryz.ntmps33
 go_wp2_with fail
 refine HT1.out.mono ?_
 rintro e w' ⟨rfl,rfl⟩
 go_wp2_with fail
 refine HT2.out.mono ?_
 rintro e w'' ⟨rfl,rfl⟩
 have hab:=heap_alloc_new w'' (.cells #[.int .i64 1,.int .i64 m,.int .i64 k,.int .i64 (c.rep m).num,.slice none 0 0] 162)
 have hb1:=zaO (Below.refl _ w'') (.cells #[.int .i64 1,.int .i64 m,.int .i64 k,.int .i64 (c.rep m).num,.slice none 0 0] 162)
 go_wp2
 generalize w''.alloc (.cells #[.int .i64 1,.int .i64 m,.int .i64 k,.int .i64 (c.rep m).num,.slice none 0 0] 162)=w1 at *
 have z1:=(hb1.cell (p:=⟨D.ρ,1,none⟩) hρ).trans d1
 have z3:=(hb1.cell (p:=⟨D.ρ,3,none⟩) hρ).trans d3
 have z6:=(hb1.cell (p:=⟨D.ρ,6,none⟩) hρ).trans d6
 have zk:=(hb1.cell (p:=⟨gk,k,none⟩) hgk).trans k1
 have hρ1:=Nat.lt_of_lt_of_le hρ hb1.size
 have hgk1:=Nat.lt_of_lt_of_le hgk hb1.size
 have hB1:=zaY hab
 obtain ⟨e0,e1,e2,e3,e4⟩:=zdl hab
 have hfz:=zaZ hab
 have hf0:=hfz 0
 have hf4:=hfz 4
 have HAB:=Hid.mk hab
 have HB1:=Hid.mk hb1
 generalize (c.rep m).acked.getD k 0=ak at *
 generalize hbs:(c.rep m).base=bs at *
 generalize hnm:(c.rep m).num=nm at *
 have hlt' : (bs:Int)≤(ak:Int):=by omega
 go_region_held3 (fun W=>W.cell? ⟨D.ρ,6,none⟩=some (.slice (some ⟨gk,0,none⟩) L ck)∧W.cell? ⟨D.ρ,3,none⟩=some (.int .i64 bs)∧W.cell? ⟨gk,k,none⟩=some (.int .i64 ak)) (first | assumption | exact ⟨z6,z3,zk⟩) (fail)
 go_wp2
 go_loopw [11,12] (fun v j wr=>∃ i:Nat,i≤D.ts.length∧j = .int .i64 i∧∃ ad cp,v = .slice ad (sendOf c.bp ak k (D.ts.take i)).length cp∧Hid (Below w''.heap.size w'' wr)∧Hid (wr.heap[w''.heap.size]? = some (.cells #[.int .i64 1,.int .i64 m,.int .i64 k,.int .i64 nm,.slice none 0 0] 162 (0,0)))∧Hid (SliceOf wr v (sendOf c.bp ak k (D.ts.take i)))) (fun _ j _=>D.ts.length - (intOf j).toNat)
 case atStart=>exact ⟨0,Nat.zero_le _,rfl,none,0,rfl,HB1.out.drew,HAB.out,⟨none,0,rfl,Nat.le_refl _,fun h0=>absurd h0 (by simp [sendOf])⟩⟩
 case round =>
  obtain ⟨i,hi,rfl,adl,cpl,rfl,hbr,hfb,hsl⟩:=hrel
  obtain ⟨adt,cpt,hvt,-,HEL⟩:=HHR.out.taken.elem zmI
  have x4:=(hbr.out.cell (p:=⟨D.ρ,4,none⟩) hρ).trans HHR.out.cells.2.2.2.2.1
  rw [hvt] at x4
  have x6:=(hbr.out.cell (p:=⟨D.ρ,6,none⟩) hρ).trans d6
  have xk:=(hbr.out.cell (p:=⟨gk,k,none⟩) hgk).trans k1
  have x2:=(hbr.out.cell (p:=⟨x,2,none⟩) hx).trans c2
  have hρr:=Nat.lt_of_lt_of_le hρ hbr.out.size
  have hxr:=Nat.lt_of_lt_of_le hx hbr.out.size
  have hgkr:=Nat.lt_of_lt_of_le hgk hbr.out.size
  clear e0 e1 e2 e3 e4 hf0 hf4 hfz z1 z3 z6 zk hab HAB
  by_cases hl:i<D.ts.length
  ·obtain ⟨gt,rfl,hgt,-,-,hrowt⟩:=HEL (by omega)
   have hgtr:=Nat.lt_of_lt_of_le hgt hbr.out.size
   have hce:∀ j,wr.cell? ⟨gt,j,none⟩=w''.cell? ⟨gt,j,none⟩:=fun j=>hbr.out.cell (p:=⟨gt,j,none⟩) hgt
   have t0:wr.cell? ⟨gt,i*4,none⟩=some (.int .i64 D.ts[i].num):=(hce _).trans (hrowt i hl 0 _ rfl)
   have t1:wr.cell? ⟨gt,i*4+1,none⟩=some (.int .i64 D.ts[i].org):=(hce _).trans (hrowt i hl 1 _ rfl)
   have t2:wr.cell? ⟨gt,i*4+2,none⟩=some D.ts[i].v:=(hce _).trans (hrowt i hl 2 _ rfl)
   have t3:wr.cell? ⟨gt,i*4+3,none⟩=some (.bool D.ts[i].kept):=(hce _).trans (hrowt i hl 3 _ rfl)
   clear hce hrowt HEL
   have hl' : (i:Int)<(D.ts.length:Int):=by omega
   have hi0:(0:Int)≤(i:Int):=by omega
   have hYN:Hid (∀ b,goesTo c.bp ak k D.ts[i]=b→sendOf c.bp ak k (D.ts.take (i+1))=if b then sendOf c.bp ak k (D.ts.take i) ++ D.ts[i].d else sendOf c.bp ak k (D.ts.take i)):=fun b hb=>by
    cases b
    ·exact zlf hl hb
    ·exact zlg hl hb
   have HHT:=Hid.mk (HHR.out.tkd _ (List.getElem_mem hl))
   have hmemT:=List.getElem_mem hl
   have HTI:=Hid.mk (HTB.out _ hmemT)
   clear hmemT
   generalize D.ts[i]=t at *
   obtain ⟨tn,tg,tv,td,tk⟩:=t
   simp only [goesTo] at hYN HTI HHT
   simp only at t0 t1 t2 t3
   obtain ⟨adv,cpv,hrv,-⟩:=id HHT.out
   subst hrv
   have HBO:Hid (tk=true→∀ W,Below wr.heap.size wr W→_):=fun ht W hW=>za0 (.slice adl (sendOf c.bp ak k (D.ts.take i)).length cpl) (.slice adv td.length cpv) (sendOf c.bp ak k (D.ts.take i)) td W (hsl.out.below hW) ((HHT.out.slice.below hbr.out).below hW) (Nat.le_trans (HLE.out ak i) (by decide)) (Nat.le_trans (HTI.out ht).1 (by decide))
   have HNX:Hid (∀ (W:World),Below wr.heap.size wr W→∀ b,(tk && (decide (ak<tn) && !(c.bp && decide (tg=k))))=b→∀ ad cp n,n=(if b then sendOf c.bp ak k (D.ts.take i) ++ td else sendOf c.bp ak k (D.ts.take i)).length→SliceOf W (.slice ad n cp) (if b then sendOf c.bp ak k (D.ts.take i) ++ td else sendOf c.bp ak k (D.ts.take i))→Value.slice ad n cp = .slice ad (sendOf c.bp ak k (D.ts.take (i+1))).length cp∧Hid (Below w''.heap.size w'' W)∧Hid (W.heap[w''.heap.size]? = some (.cells #[.int .i64 1,.int .i64 m,.int .i64 k,.int .i64 nm,.slice none 0 0] 162 (0,0)))∧Hid (SliceOf W (.slice ad n cp) (sendOf c.bp ak k (D.ts.take (i+1))))):=fun W hW b hb ad cp n hn hS=>by
    have e:=hYN.out b hb
    refine ⟨by rw [e,hn],hbr.out.trans (hW.mono hbr.out.size),(hW.block _ (zaY hfb.out)).trans hfb.out,?_⟩
    rw [e]
    exact hS
   have HSL:=Hid.mk hsl.out
   generalize c.bp=bp at *
   subst hbp
   generalize hsn:sendOf true ak k (D.ts.take i)=sl at *
   have hil:i+1≤D.ts.length:=hl
   have HNO:Hid ((tk && (decide (ak<tn) && !(true && decide (tg=k))))=false→∀ q,_):=fun hgo q=>HNX.out (wr.drewN q) (below_drewN (Below.refl _ _) _) false hgo adl cpl sl.length rfl (HSL.out.below (below_drewN (Below.refl _ _) _))
   have HYS:Hid ((tk && (decide (ak<tn) && !(true && decide (tg=k))))=true→∀ (w4:World) ad4 cp4 q,Below (wr.drewN q).heap.size (wr.drewN q) w4→w4.ownsRow (wr.drewN q).heap.size 76 6 (.slice ad4 (sl.length+td.length) cp4) (sl.length+td.length) (flat (sl ++ td))→_):=fun hgo w4 ad4 cp4 q hb4 ho4=>HNX.out w4 ((below_drewN (Below.refl _ _) q).trans hb4) true hgo ad4 cp4 (sl.length+td.length) (by simp) (zlD (by simp) ho4)
   clear hbr hfb HLE HMY HTL HFR HTB hsn hsl HNX HSL HTI HHT hYN
   by_cases hgk:(tg:Int)=(k:Int)
   ·have HX:=Hid.mk (HNO.out (by
     have:tg=k:=by omega
     simp [this]))
    clear HNO HYS HBO
    cases tk with
    | false =>
     go_wp2
     go_quiet (fail)
     go_wp2
     exact ⟨⟨i+1,hil,by go_num,adl,cpl,HX.out nq⟩,by simp [intOf];omega⟩
    | true =>
     by_cases hnn:(ak:Int)<(tn:Int)
     ·go_wp2
      go_quiet (fail)
      go_wp2
      exact ⟨⟨i+1,hil,by go_num,adl,cpl,HX.out nq⟩,by simp [intOf];omega⟩
     ·have hnn' : (tn:Int)≤(ak:Int):=by omega
      go_wp2
      have hd:decide ((ak:Int)<(tn:Int))=false:=by simpa using hnn'
      have hd2:decide (ak<tn)=false:=by simp;omega
      have hd3:¬ (ak:Int)<(tn:Int):=by omega
      go_quiet (fail)
      go_wp2
      exact ⟨⟨i+1,hil,by go_num,adl,cpl,HX.out nq⟩,by simp [intOf];omega⟩
   ·cases tk with
    | false =>
     have HX:=Hid.mk (HNO.out rfl)
     clear HNO HYS HBO
     go_wp2
     go_quiet (fail)
     go_wp2
     exact ⟨⟨i+1,hil,by go_num,adl,cpl,HX.out nq⟩,by simp [intOf];omega⟩
    | true =>
     by_cases hnn:(ak:Int)<(tn:Int)
     ·have HY:=Hid.mk (HYS.out (by
       have h1:¬ tg=k:=by omega
       have h2:ak<tn:=by omega
       simp [h1,h2]))
      clear HNO HYS
      go_wp2
      have hk2:decide ((tg:Int)=(k:Int))=false:=by simpa using hgk
      have hk3:decide (tg=k)=false:=by simp;omega
      have hk4:((tg:Int) == (k:Int))=false:=by simpa using hgk
      go_quiet (fail)
      go_wp2_with fail
      refine (HBO.out (by trivial) _ (below_drewN (Below.refl _ _) _)).mono ?_
      rintro e w4 ⟨v4,rfl,hown4,hb4⟩
      obtain ⟨ad4,cp4,hv4⟩:=zh1 hown4
      subst hv4
      rw [List.length_append] at hown4 ⊢
      have HX:=Hid.mk (HY.out w4 ad4 cp4 nq hb4 hown4)
      clear hown4 hb4
      go_wp2
      exact ⟨⟨i+1,hil,by go_num,ad4,cp4,HX.out⟩,by simp [intOf];omega⟩
     ·have HX:=Hid.mk (HNO.out (by
       have h2:¬ ak<tn:=by omega
       simp [h2]))
      have hnn' : (tn:Int)≤(ak:Int):=by omega
      clear HNO HYS HBO
      go_wp2
      have hd:decide ((ak:Int)<(tn:Int))=false:=by simpa using hnn'
      have hd2:decide (ak<tn)=false:=by simp;omega
      have hd3:¬ (ak:Int)<(tn:Int):=by omega
      go_quiet (fail)
      go_wp2
      exact ⟨⟨i+1,hil,by go_num,adl,cpl,HX.out nq⟩,by simp [intOf];omega⟩
  ·have hie:i=D.ts.length:=by omega
   subst hie
   rw [List.take_of_length_le (Nat.le_refl _)] at hsl ⊢
   have HSL:=Hid.mk hsl.out
   have hl' : ¬ (D.ts.length:Int)<(D.ts.length:Int):=by omega
   have hlen:=HLE.out ak D.ts.length
   rw [List.take_of_length_le (Nat.le_refl _)] at hlen
   have HTD:Hid (∀ W,Below wr.heap.size wr W→Calls Tryz.prog 76 #[.slice adl (sendOf c.bp ak k D.ts).length cpl] W fun e w' => ∃ v',e = .returned v' ∧ w'.ownsRow W.heap.size 76 6 v' (tell (sendOf c.bp ak k D.ts)).length (flat (tell (sendOf c.bp ak k D.ts)))∧Below W.heap.size W w'):=fun W hW=>by
    refine (zmP _ (sendOf c.bp ak k D.ts) W (HSL.out.below hW) (fun a ha=>zdj (HMY.out ak a ha)) (by omega)).mono ?_
    rintro e w'' ⟨v',L',rfl,ho,hT,hb⟩
    rw [hT.out.unique (HMY.out ak) (zmr _)] at ho
    exact ⟨v',rfl,ho,hb⟩
   clear HSL hsl HEL
   rw [hbp] at HTD HFR HTL
   go_wp2_with fail
   refine (HTD.out _ (Below.refl _ _)).mono ?_
   rintro e w5 ⟨v5,rfl,ho5,hb5⟩
   obtain ⟨adS,cpS,hvS⟩:=zh1 ho5
   subst hvS
   have hbb:Below w''.heap.size w'' w5:=hbr.out.trans (hb5.mono hbr.out.size)
   have hbl5:=(hb5.block _ (zaY hfb.out)).trans hfb.out
   have hBr:=zaY hfb.out
   have HDL:Hid ((tell (sendOf true ak k D.ts)).length≤131072):=by
    have:=HFL.out
    rw [hbp,HFR.out] at this
    exact this
   clear HFL HFR HTD
   generalize tell (sendOf true ak k D.ts)=DD at *
   have HZ:Hid (Below w''.heap.size w'' (w5.setCell ⟨w''.heap.size,4,none⟩ (.slice adS DD.length cpS))):=hbb.grown (zet w5 ⟨w''.heap.size,4,none⟩ _) hbb.size (fun q hq=>by cases hq;exact Nat.le_refl _)
   have HZO:Hid ((w5.setCell ⟨w''.heap.size,4,none⟩ (.slice adS DD.length cpS)).ownsRow w''.heap.size 76 6 (.slice adS DD.length cpS) DD.length (flat DD)):=zic (zie (base:=wr.heap.size) ho5 hBr) (by omega)
   have hDN:DD.length≤131072:=HDL.out
   obtain ⟨g40,g41,g42,g43,g44⟩:=zdl hbl5
   have gf4:=zaZ hbl5 4
   have hB5:=zaY hbl5
   have y8:=(hbb.cell (p:=⟨D.ρ,8,none⟩) hρ).trans HHR.out.cells.2.2.2.2.2.2.2.2.1
   have y9:=(hbb.cell (p:=⟨D.ρ,9,none⟩) hρ).trans HHR.out.cells.2.2.2.2.2.2.2.2.2.1
   have yf8:=(hbb.frozen (p:=⟨D.ρ,8,none⟩) hρ).trans (HHR.out.cells.2.2.2.2.2.2.2.2.2.2 8)
   have yf9:=(hbb.frozen (p:=⟨D.ρ,9,none⟩) hρ).trans (HHR.out.cells.2.2.2.2.2.2.2.2.2.2 9)
   have hρ5:=Nat.lt_of_lt_of_le hρ hbb.size
   have HPU:=Hid.mk (HTL.out _ _ HZ.out HZO.out)
   have hne1:D.ρ ≠ w''.heap.size:=by omega
   have hne2:w''.heap.size ≠ D.ρ:=by omega
   clear hbl5 hbb hb5 ho5 HZ HZO HTL HHR HB1 hb1 HDL HLE HMY HTB hbr hfb x2 x4 x6 xk
   generalize (c.rep m).frames=fr at *
   generalize (c.rep m).weight=wt at *
   go_wp2
   go_region
   all_goals go_wp2_with fail
   all_goals
    refine (HPU.out _ (Below.refl _ _).drew).mono ?_
    rintro e w7 ⟨rfl,K7,col7,hR7,hF7⟩
    go_wp2
    go_ret
    exact ⟨rfl,K7,col7,hR7,hF7⟩
set_option maxRecDepth 100000 in
theorem zki {w:World}{col:Col}{o x N:Nat}{U:List At}{K:RefC}{c:Clu}(h:RefAt w col o x K c)(hok:c.ok U N)(hL:Lim U N)(r q:Int) :
  Calls Tryz.prog 33 #[.pointer (some ⟨x,0,none⟩),.int .i64 r,.int .i64 q] w fun e w' => e = .returned (.int .i64 (c.sendErr r q))∧∃ K' col',Hid (RefAt w' col' o x K' (c.send r q))∧Hid (FrC (ofOwner o) col col' w w'):=by
 have HT1:=Hid.mk (zkr h r)
 have HT2:=Hid.mk (zkr h q)
 have H:=Hid.mk h
 by_cases ht:c.there r=false∨c.there q=false
 ·have HC:Hid (c.sendErr r q=5∧c.send r q=c):=by
   have e5:c.sendErr r q=5:=by unfold Clu.sendErr;rw [if_pos ht]
   exact ⟨e5,by unfold Clu.send;rw [e5,if_neg (by decide)]⟩
  rw [HC.out.1]
  clear h hok hL
  go_enter Tryz.func33,Tryz.ntmps33
  go_wp2_with fail
  refine HT1.out.mono ?_
  rintro e w' ⟨rfl,rfl⟩
  go_wp2_with fail
  refine HT2.out.mono ?_
  rintro e w'' ⟨rfl,rfl⟩
  rcases ht with ht | ht
  ·rw [ht]
   go_wp2
   go_ret
   exact ⟨rfl,K,col,by rw [HC.out.2];exact H.out,FrC.refl _ _ _⟩
  ·cases h1:c.there r
   ·go_wp2
    go_ret
    exact ⟨rfl,K,col,by rw [HC.out.2];exact H.out,FrC.refl _ _ _⟩
   ·rw [ht]
    go_wp2
    go_ret
    exact ⟨rfl,K,col,by rw [HC.out.2];exact H.out,FrC.refl _ _ _⟩
 ·obtain ⟨ht1,ht2⟩:c.there r=true∧c.there q=true:=by
   simp only [not_or,Bool.not_eq_false] at ht
   exact ht
  obtain ⟨h0,hr⟩:0≤r∧r<c.reps.length:=by simpa [Clu.there] using ht1
  obtain ⟨h0q,hrq⟩:0≤q∧q<c.reps.length:=by simpa [Clu.there] using ht2
  obtain ⟨m,rfl⟩:∃ m:Nat,r=m:=⟨r.toNat,by omega⟩
  obtain ⟨k,rfl⟩:∃ k:Nat,q=k:=⟨q.toNat,by omega⟩
  have hr:m<c.reps.length:=by omega
  have hrq:k<c.reps.length:=by omega
  have hn6:=hok.n6
  obtain ⟨g,cap,D,hv,hc,hD,hp,hR⟩:=h.ptr hr
  have c5:=h.cells.2.2.2.2.2.1
  have c2:=h.cells.2.2.1
  rw [hv] at c5
  have hx:=zaY h.blk
  have hg:g<w.heap.size:=World.block_lt_of_cell? w ⟨g,m,none⟩ hp
  have hρ:=zaY hR.blk
  have d0:=hR.cells.1
  have d5:=hR.cells.2.2.2.2.2.1
  obtain ⟨gn,cn,hvn,-,-,hgn,-,hrown,-⟩:=hR.near.at (show 0<(nearRow c m).length by unfold nearRow;simp;omega)
  have hnl:(nearRow c m).length=c.reps.length:=by unfold nearRow;simp
  rw [hvn,hnl] at d5
  have n1:w.cell? ⟨gn,k,none⟩=some (.bool (c.near m k)):=hrown k _ (by
   unfold nearRow
   rw [List.map_map,List.getElem?_map,List.getElem?_range (by omega)]
   rfl)
  rw [ht1] at HT1
  rw [ht2] at HT2
  have hrep:=hok.rep hr
  have HHR:=Hid.mk hR
  have HOK:=Hid.mk hok
  have HE1:Hid (c.sendErr m k=if c.near m k=false then 7 else if (c.rep m).down then 8 else 0):=by unfold Hid Clu.sendErr;rw [if_neg ht];rfl
  have HE2:Hid (c.send m k=if c.sendErr m k=0 then c.sent m k else c):=rfl
  generalize hLL:c.reps.length=L at *
  have q1:(m:Int)<(L:Int):=by omega
  have q2:(k:Int)<(L:Int):=by omega
  cases hnr:c.near m k with
  | false =>
   rw [hnr] at n1 HE1
   have e7:c.sendErr m k=7:=HE1.out
   rw [e7] at HE2 ⊢
   clear hok hL hR h hrown
   go_enter Tryz.func33,Tryz.ntmps33
   go_wp2_with fail
   refine HT1.out.mono ?_
   rintro e w' ⟨rfl,rfl⟩
   go_wp2_with fail
   refine HT2.out.mono ?_
   rintro e w'' ⟨rfl,rfl⟩
   go_wp2
   go_ret
   exact ⟨rfl,K,col,by rw [HE2.out];exact H.out,FrC.refl _ _ _⟩
  | true =>
   rw [hnr] at n1 HE1
   cases hdn:(c.rep m).down with
   | true =>
    rw [hdn] at d0 HE1
    have e7:c.sendErr m k=8:=HE1.out
    rw [e7] at HE2 ⊢
    clear hok hL hR h hrown
    go_enter Tryz.func33,Tryz.ntmps33
    go_wp2_with fail
    refine HT1.out.mono ?_
    rintro e w' ⟨rfl,rfl⟩
    go_wp2_with fail
    refine HT2.out.mono ?_
    rintro e w'' ⟨rfl,rfl⟩
    go_wp2
    go_ret
    exact ⟨rfl,K,col,by rw [HE2.out];exact H.out,FrC.refl _ _ _⟩
   | false =>
    rw [hdn] at HE1
    have e7:c.sendErr m k=0:=HE1.out
    rw [e7] at HE2 ⊢
    have hs:c.send m k=c.sent m k:=HE2.out
    rw [hs]
    by_cases hlt:(c.rep m).acked.getD k 0<(c.rep m).base
    ·exact zkl H.out HOK.out hL m k (by omega) (by omega) hnr hdn hlt
    ·cases hbp:c.bp with
     | false=>exact zkj H.out HOK.out hL m k (by omega) (by omega) hnr hdn hlt hbp
     | true=>exact zkk H.out HOK.out hL m k (by omega) (by omega) hnr hdn hlt hbp
section
variable {Z:Snap} {w:World} {col:Col} {W x y B M N:Nat} {U:List At} {KR:RefC} {KP:PrK} {c:Clu}
theorem zdU (hok:c.ok U N)(hL:Lim U N)(k:Int):(c.frmAt k).d.length≤131072:=by
 unfold Clu.frmAt
 split
 ·rename_i hh
  obtain ⟨h1,h2⟩:=zeH hh
  have:=hok.net _ (zdW h2)
  exact Nat.le_trans (this.told.length this.sub) hL.2
 ·exact Nat.zero_le _
set_option maxRecDepth 100000 in
theorem GSt.lFrameN (h:GSt Z w col W x y B M KR KP c c)(hok:c.ok U N)(hL:Lim U N)(hM:M≤15000000)(k:Int) :
  Calls Tryz.prog 39 #[.pointer (some ⟨W,0,none⟩),.int .i64 k] w fun e w' => e = .returned (.bool true)∧∃ col',GSt Z w' col' W x y B (M+4) KR KP c c:=by
 have c0:=zaX h.wb 0
 simp at c0
 have HP:=Hid.mk (zi3 h.prg hok hL k)
 have HD:=Hid.mk (fun W' (h' : GSt Z W' col W x y B M KR KP c c)=>zka h'.ref hok k)
 have hlen:=zdU hok hL k
 have HN:=Hid.mk h
 clear h hok hL
 generalize c.netErr k=E at *
 generalize c.frmAt k=F at *
 obtain ⟨fk,fs,ft,fu,fd⟩:=F
 simp only at hlen HP HD
 go_enter Tryz.func39,Tryz.ntmps39
 go_wp2_with fail
 refine HP.out.mono ?_
 rintro e w1 ⟨v1,rfl,ho1,hb1⟩
 obtain ⟨ad1,cp1,hf1⟩:=zh1 ho1
 subst hf1
 have HN1:=Hid.mk (HN.out.same hb1)
 have c1:=zaX HN1.out.wb 1
 simp at c1
 have HB1:=Hid.mk hb1
 have HO1:=Hid.mk ho1
 have hWl:W<w1.heap.size:=zaY HN1.out.wb
 clear hb1 ho1
 go_wp2_with fail
 refine (HD.out _ (HN1.out.same (zaO (Below.refl _ _) _))).mono ?_
 rintro e w2 ⟨v2,rfl,hs2,hb2⟩
 obtain ⟨ad2,cp2,rfl,-⟩:=id hs2
 have HN2:=Hid.mk ((HN1.out.same (zaO (Below.refl _ _) _)).same hb2)
 have hB12:Below w1.heap.size w1 w2:=(zaO (Below.refl _ _) _).trans (hb2.mono (by simp))
 have hA2:=(hb2.block w1.heap.size (by simp)).trans (heap_alloc_new w1 _)
 have HA2:=Hid.mk hA2
 have a4:=zaX hA2 4
 simp at a4
 have hAl:w1.heap.size<w2.heap.size:=zaY hA2
 have HO2:=Hid.mk (zh5 HO1.out hB12)
 have HB2:=Hid.mk (HB1.out.trans (hB12.mono HB1.out.size))
 have HSM:Hid (∀ W',Below w2.heap.size w2 W' → Calls Tryz.prog 17 #[.slice ad1 fd.length cp1,.slice ad2 fd.length cp2] W' fun e w' => e = .returned (.bool true)∧Below W'.heap.size W' w'):=fun W' hW' => zkY _ _ fd W' (zlD rfl (zh5 HO2.out hW')) (hs2.below hW') (by omega)
 clear hb2 hA2 HD HP c0 c1 hWl hB12 hs2
 go_wp2_with fail
 refine (HSM.out _ (zaO (Below.refl _ _) _)).mono ?_
 rintro e w3 ⟨rfl,hb3⟩
 have hA3:w3.heap[w1.heap.size]? = some (.cells #[.int .i64 fk,.int .i64 fs,.int .i64 ft,.int .i64 fu,.slice ad1 fd.length cp1] 110 (0,0)):=(hb3.block w1.heap.size (by simp;omega)).trans ((((Below.refl _ w2).alloc (Nat.le_refl _) _).block _ hAl).trans HA2.out)
 have hB3:w3.heap[w2.heap.size]? = some (.cells #[.int .i64 fk,.int .i64 fs,.int .i64 ft,.int .i64 fu,.slice ad2 fd.length cp2] 110 (0,0)):=(hb3.block w2.heap.size (by simp)).trans (heap_alloc_new w2 _)
 have HN3:=Hid.mk ((HN2.out.same (zaO (Below.refl _ _) _)).same hb3)
 have hb23:Below w2.heap.size w2 w3:=(zaO (Below.refl _ _) _).trans (hb3.mono (by simp))
 have hbw:Below w.heap.size w w3:=HB2.out.trans (hb23.mono HB2.out.size)
 have c2:=zaX HN3.out.wb 2
 simp at c2
 have a0:=zaX hA3 0
 have a1:=zaX hA3 1
 have a2:=zaX hA3 2
 have a3:=zaX hA3 3
 have a4:=zaX hA3 4
 have b0:=zaX hB3 0
 have b1:=zaX hB3 1
 have b2:=zaX hB3 2
 have b3:=zaX hB3 3
 simp at a0 a1 a2 a3 a4 b0 b1 b2 b3
 have HC:=Hid.mk (HN.out.ownA hM hbw.drew (v := .slice ad1 fd.length cp1) (l:=fd) (zh5 HO2.out hb23.drew) (by omega))
 clear hb3 hA3 hB3 HSM hb23 hbw HO2 HO1 HB1 HB2 HN1 HN2 HA2
 go_wp2_with fail
 refine znN 6 (S:=fun w' => w'.cell? ⟨W,2,none⟩=some (.pointer (some ⟨B,0,none⟩))∧w'.cell? ⟨w1.heap.size,4,none⟩=some (.slice ad1 fd.length cp1)) (by kernel_rfl) ⟨c2,a4⟩ (fun hHeld => ?_)
 refine znF (i:=0) (oi:=_) (v := ?_) rfl (by kernel_rfl) (by kernel_rfl) (by kernel_rfl) (by kernel_rfl) (fun _ _ _ h=>h) (Or.inl ⟨by rfl,?_⟩) (by assumption) ?_
 rotate_left
 ·intro w _
  go_simp <;> with_reducible rfl
 simp only [Act.put,List.setIfInBounds_toArray]
 refine znF (i:=1) (oi:=_) (v := ?_) rfl (by kernel_rfl) (by kernel_rfl) (by kernel_rfl) (by kernel_rfl) (fun _ _ _ h=>h) (Or.inl ⟨by rfl,?_⟩) (by assumption) ?_
 rotate_left
 ·intro w _
  go_simp <;> with_reducible rfl
 simp only [Act.put]
 refine znF (i:=2) (oi:=_) (v := ?_) rfl (by kernel_rfl) (by kernel_rfl) (by kernel_rfl) (by kernel_rfl) (fun _ _ _ h=>h) (Or.inl ⟨by rfl,?_⟩) (by assumption) ?_
 rotate_left
 ·intro w _
  go_simp <;> with_reducible rfl
 simp only [Act.put]
 refine znE (i:=3) (oi:=_) (v := ?_) rfl (by kernel_rfl) (by kernel_rfl) (by kernel_rfl) (by kernel_rfl) (fun _ _ _ h=>h) (Or.inl ⟨by rfl,?_⟩) (by assumption) (by kernel_rfl) ?_
 rotate_left
 ·intro w hSw
  try dsimp only at hSw
  go_simp <;> with_reducible rfl
 simp only [Act.put]
 refine znF (i:=4) (oi:=_) (v := ?_) rfl (by kernel_rfl) (by kernel_rfl) (by kernel_rfl) (by kernel_rfl) (fun _ _ _ h=>h) (Or.inl ⟨by rfl,?_⟩) (by assumption) ?_
 rotate_left
 ·intro w _
  go_simp <;> with_reducible rfl
 simp only [Act.put]
 refine znE (i:=5) (oi:=_) (v := ?_) rfl (by kernel_rfl) (by kernel_rfl) (by kernel_rfl) (by kernel_rfl) (fun _ _ _ h=>h) (Or.inl ⟨by rfl,?_⟩) (by assumption) (by kernel_rfl) ?_
 rotate_left
 ·intro w hSw
  try dsimp only at hSw
  go_simp <;> with_reducible rfl
 simp only [Act.put]
 refine znD (rs := [6]) (by kernel_rfl) (by simp) ?_
 refine AllReadyL.cons (o:=_) rfl (fun K hK => ?_) AllReadyL.nil
 go_simp
 refine HC.out.mono ?_
 rintro e w4 ⟨rfl,hn4⟩
 have HR:=Hid.mk hn4
 clear HC hn4
 go_wp2_with fail
 refine hK.out _ _ (fun h=>zg4 (by kernel_rfl) h) (fun _ => ?_)
 clear hK K
 refine znA (by kernel_rfl) ?_ _
 go_wp2
 go_ret
 exact ⟨rfl,_,HR.out⟩
end
theorem zc4 {c:Clu}(h:c.far)(a:ActV):(c.acted a).far:=by
 unfold Clu.acted
 split
 ·unfold Clu.update;split
  ·exact zc9 h rfl (zlp _ _ _)
  ·exact h
 split
 ·unfold Clu.tornOp;split
  ·exact zc9 h rfl (zlp _ _ _)
  ·exact h
 split
 ·unfold Clu.crash;split
  ·exact zc9 h rfl (zlp _ _ _)
  ·exact h
 split
 ·unfold Clu.start;split
  ·exact zc9 h rfl (zlp _ _ _)
  ·exact h
 split
 ·unfold Clu.compact;split
  ·exact zc9 h rfl (zlp _ _ _)
  ·exact h
 ·exact h
section
variable {Z:Snap} {w w' : World} {W x y B M N t:Nat} {U:List At} {c cR cP:Clu} {ob:Obj}
theorem Gt.pDeliverN (h:Gt Z w W x y B M t ob cR c)(hok:c.ok U N)(hL:Lim U N)(hfar:c.far)(k:Int) :
  Calls Tryz.prog 49 #[.pointer (some ⟨x,0,none⟩),.int .i64 k] w fun e w' => e = .returned (.int .i64 (c.netErr k))∧Gt Z w' W x y B M t ob cR (c.deliver k):=by
 obtain ⟨col,KR,KP,g,ht,hb⟩:=h
 exact (ziW g.prg (by decide) g.tab hok hL hfar k).mono fun e w' ⟨h1,K',col',h2,h3⟩=>⟨h1,Gt.byPrg g ht hb h3.out h2.out⟩
theorem Gt.dDeliverN (h:Gt Z w W x y B M t ob c cP)(hok:c.ok U N)(hL:Lim U N)(k:Int) :
  Calls Tryz.prog 82 #[.pointer (some ⟨y,0,none⟩),.int .i64 k] w fun e w' => e = .returned (.int .i64 (c.netErr k))∧Gt Z w' W x y B M t ob (c.deliver k) cP:=by
 obtain ⟨col,KR,KP,g,ht,hb⟩:=h
 exact (zj3 g.ref hok hL k).mono fun e w' ⟨h1,K',col',h2,h3⟩=>⟨h1,Gt.byRef g ht hb h3.out h2.out⟩
theorem Gt.pDropN (h:Gt Z w W x y B M t ob cR c)(hok:c.ok U N)(k:Int) :
  Calls Tryz.prog 13 #[.pointer (some ⟨x,0,none⟩),.int .i64 k] w fun e w' => e = .returned (.int .i64 (c.netErr k))∧Gt Z w' W x y B M t ob cR (c.dropF k):=by
 obtain ⟨col,KR,KP,g,ht,hb⟩:=h
 exact (ziY g.prg hok k).mono fun e w' ⟨h1,K',col',h2,h3⟩=>⟨h1,Gt.byPrg g ht hb h3.out h2.out⟩
theorem Gt.dDropN (h:Gt Z w W x y B M t ob c cP)(hok:c.ok U N)(k:Int) :
  Calls Tryz.prog 83 #[.pointer (some ⟨y,0,none⟩),.int .i64 k] w fun e w' => e = .returned (.int .i64 (c.netErr k))∧Gt Z w' W x y B M t ob (c.dropF k) cP:=by
 obtain ⟨col,KR,KP,g,ht,hb⟩:=h
 exact (zj6 g.ref hok k).mono fun e w' ⟨h1,K',col',h2,h3⟩=>⟨h1,Gt.byRef g ht hb h3.out h2.out⟩
theorem Gt.pCopyN (h:Gt Z w W x y B M t ob cR c)(hok:c.ok U N)(k:Int) :
  Calls Tryz.prog 84 #[.pointer (some ⟨x,0,none⟩),.int .i64 k] w fun e w' => e = .returned (.int .i64 (c.netErr k))∧Gt Z w' W x y B M t ob cR (c.copyF k):=by
 obtain ⟨col,KR,KP,g,ht,hb⟩:=h
 exact (ziT g.prg hok k).mono fun e w' ⟨h1,K',col',h2,h3⟩=>⟨h1,Gt.byPrg g ht hb h3.out h2.out⟩
theorem Gt.dCopyN (h:Gt Z w W x y B M t ob c cP)(hok:c.ok U N)(k:Int) :
  Calls Tryz.prog 85 #[.pointer (some ⟨y,0,none⟩),.int .i64 k] w fun e w' => e = .returned (.int .i64 (c.netErr k))∧Gt Z w' W x y B M t ob (c.copyF k) cP:=by
 obtain ⟨col,KR,KP,g,ht,hb⟩:=h
 exact (zj1 g.ref hok k).mono fun e w' ⟨h1,K',col',h2,h3⟩=>⟨h1,Gt.byRef g ht hb h3.out h2.out⟩
theorem Gt.pSend (h:Gt Z w W x y B M t ob cR c)(hok:c.ok U N)(hL:Lim U N)(r q:Int) :
  Calls Tryz.prog 32 #[.pointer (some ⟨x,0,none⟩),.int .i64 r,.int .i64 q] w fun e w' => e = .returned (.int .i64 (c.sendErr r q))∧Gt Z w' W x y B M t ob cR (c.send r q):=by
 obtain ⟨col,KR,KP,g,ht,hb⟩:=h
 exact (zjh g.prg (by decide) g.tab hok hL r q).mono fun e w' ⟨h1,K',col',h2,h3⟩=>⟨h1,Gt.byPrg g ht hb h3.out h2.out⟩
theorem Gt.dSend (h:Gt Z w W x y B M t ob c cP)(hok:c.ok U N)(hL:Lim U N)(r q:Int) :
  Calls Tryz.prog 33 #[.pointer (some ⟨y,0,none⟩),.int .i64 r,.int .i64 q] w fun e w' => e = .returned (.int .i64 (c.sendErr r q))∧Gt Z w' W x y B M t ob (c.send r q) cP:=by
 obtain ⟨col,KR,KP,g,ht,hb⟩:=h
 exact (zki g.ref hok hL r q).mono fun e w' ⟨h1,K',col',h2,h3⟩=>⟨h1,Gt.byRef g ht hb h3.out h2.out⟩
theorem Gt.dFlightN (h:Gt Z w W x y B M t ob c cP) :
  Calls Tryz.prog 38 #[.pointer (some ⟨y,0,none⟩)] w fun e w' => e = .returned (.int .i64 c.net.length)∧w' = w:=by
 obtain ⟨col,KR,KP,g,ht,hb⟩:=h
 exact zj8 g.ref
theorem Gm.lFrameN (h:Gm Z w W x y B M c)(hok:c.ok U N)(hL:Lim U N)(hM:M≤15000000)(k:Int) :
  Calls Tryz.prog 39 #[.pointer (some ⟨W,0,none⟩),.int .i64 k] w fun e w' => e = .returned (.bool true)∧Gm Z w' W x y B (M+4) c:=by
 obtain ⟨col,KR,KP,g⟩:=h
 exact (g.lFrameN hok hL hM k).mono fun e w' ⟨h1,col',h2⟩=>⟨h1,col',KR,KP,h2⟩
set_option maxRecDepth 100000 in
theorem zlV (a:Int)(n:Nat)(hn:n≤200)(w:World) :
  Calls Tryz.prog 81 #[.int .i64 a,.int .i64 n] w fun e w' => ∃ k,e = .returned (.int .i64 k)∧w' = w:=by
 have hn0:(0:Int)≤(n:Int):=by omega
 have hn2:(n:Int)≤200:=by omega
 have hn3:¬ (n:Int)+1=0:=by omega
 by_cases h:a<0
 ·go_enter Tryz.func81,Tryz.ntmps81
  go_wp2
  go_ret
  exact ⟨a,rfl,rfl⟩
 ·go_enter Tryz.func81,Tryz.ntmps81
  go_wp2
  go_ret
  first | exact ⟨⟨_,rfl⟩,rfl⟩ | exact ⟨_,rfl,rfl⟩
end
end Go.Proofs.YtahdlejgjcjeoabGreatDoor
