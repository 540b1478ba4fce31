/- Walks of the document's cluster: take. -/
import Derived.Test.YtahdlejgjcjeoabGreatDoorA16
import Derived.Test.YtahdlejgjcjeoabGreatDoorA23
import Derived.Test.YtahdlejgjcjeoabGreatDoorA18
import Derived.Deep.Cut
namespace Go.Proofs.YtahdlejgjcjeoabGreatDoor
set_option maxHeartbeats 8000000
open Go.RowKit Go.MuLone
set_option maxRecDepth 100000 in
theorem zje {w:World}{x R n i:Nat}(up:Bool)(nu ba fr we:Nat)(ak:Nat→Nat)(h0:ClAt w x R n n)(h1:1≤n)(h6:n≤6)(hi:i<n)(p0:w.cell? ⟨R,i*14,none⟩=some (.bool up))(p1:w.cell? ⟨R,i*14+1,none⟩=some (.int .i64 nu))(p2:w.cell? ⟨R,i*14+2,none⟩=some (.int .i64 ba))(p12:w.cell? ⟨R,i*14+12,none⟩=some (.int .i64 fr))(p13:w.cell? ⟨R,i*14+13,none⟩=some (.int .i64 we))(pak:∀ q,q<6→w.cell? ⟨R,i*14+(5+q),none⟩=some (.int .i64 (ak q))) :
  Calls Tryz.prog 59 #[.pointer (some ⟨x,0,none⟩),.int .i64 i] w fun e w' => ∃ v,e = .returned (.tuple #[.agg #[.bool up,.int .i64 nu,.int .i64 ba,v,.int .i64 fr,.int .i64 we],.int .i64 0])∧w'.ownsRow w.heap.size 3 1 v n (ints ((List.range n).map ak))∧Below w.heap.size w w' := by
 have h:ClAt (w.alloc (.cells zRep.toArray 134)) x R n n:=h0.below ((Below.refl _ w).alloc (Nat.le_refl _) _) h0.lt
 have hlt:=h0.lt
 have hxR:=h0.xR
 go_enter_defers Tryz.func59,Tryz.ntmps59
 go_wp2_with (go_at_call 44;refine (lock_free zgD ⟨x,0,none⟩ _ h.c0 h.f0).mono ?_;rintro e wl ⟨rfl,hwl⟩;have HL:=Hid.mk (zga h0 hwl);clear hwl)
 refine (zht x R i n n _ HL.out.c41 hi).mono ?_
 rintro e w1 ⟨rfl,rfl⟩
 have c41:=HL.out.c41
 have b0:=HL.out.old R _ _ (Ne.symm hxR) p0
 have b1:=HL.out.old R _ _ (Ne.symm hxR) p1
 have b2:=HL.out.old R _ _ (Ne.symm hxR) p2
 have b12:=HL.out.old R _ _ (Ne.symm hxR) p12
 have b13:=HL.out.old R _ _ (Ne.symm hxR) p13
 have HC:Hid (∀ W,Below w1.heap.size w1 W→Calls Tryz.prog 107 #[.slice (some ⟨R,i*14+5,none⟩) n 6] W fun e w' => ∃ v,e = .returned v∧w'.ownsRow W.heap.size 3 1 v n (ints ((List.range n).map ak))∧Below W.heap.size W w'):=by
  intro W hW
  have hRl:R<w1.heap.size:=by
   obtain ⟨cs,e,fz,hh,_⟩:=Go.Sort.cells_of_cell? b0
   exact (Array.getElem?_eq_some_iff.1 hh).1
  have hcell:∀ j,j<6→W.cell? ⟨R,i*14+5+j,none⟩=some (.int .i64 (ak j)):=by
   intro j hj
   rw [hW.cell (p:=⟨R,_,none⟩) hRl]
   refine HL.out.old R _ _ (Ne.symm hxR) ?_
   have:=pak j hj
   rwa [← Nat.add_assoc] at this
  refine (zbX R (i*14+5) n 6 ((List.range n).map fun q=>(ak q:Int)) W (by simp) (fun j hj => ?_) (by omega) (by omega)).mono ?_
  ·have hj' : j<n:=by simpa using hj
   rw [List.getElem_map,List.getElem_range]
   exact hcell j (by omega)
  ·rintro e w' ⟨v,rfl,ho,hb⟩
   refine ⟨v,rfl,?_,hb⟩
   have he:((List.range n).map fun q=>(ak q:Int)).map (.int .i64 ·)=ints ((List.range n).map ak):=by simp [ints]
   rw [← he]
   exact ho
 have HFX:Hid (∀ W,Below w1.heap.size w1 W→(W.cell? ⟨w.heap.size,0,none⟩=some (.bool false)∧W.cell? ⟨w.heap.size,1,none⟩=some (.int .i64 0)∧W.cell? ⟨w.heap.size,2,none⟩=some (.int .i64 0)∧W.cell? ⟨w.heap.size,3,none⟩=some (.slice none 0 0)∧W.cell? ⟨w.heap.size,4,none⟩=some (.int .i64 0)∧W.cell? ⟨w.heap.size,5,none⟩=some (.int .i64 0))∧(∀ k,W.frozen? ⟨w.heap.size,k,none⟩=false)∧W.heap[w.heap.size]? = some (.cells zRep.toArray 134 (0,0))):=by
  intro W hW
  have hr1:=(hW.block _ (zaY HL.out.blk)).trans HL.out.blk
  exact ⟨⟨zaX hr1 0,zaX hr1 1,zaX hr1 2,zaX hr1 3,zaX hr1 4,zaX hr1 5⟩,zaZ hr1,hr1⟩
 have hRl:R<w1.heap.size:=by
  obtain ⟨cs,e,fz,hh,_⟩:=Go.Sort.cells_of_cell? b0
  exact (Array.getElem?_eq_some_iff.1 hh).1
 have hRq:R ≠ w.heap.size:=by
  obtain ⟨cs,e,fz,hh,_⟩:=Go.Sort.cells_of_cell? p0
  have:=(Array.getElem?_eq_some_iff.1 hh).1
  omega
 have hxq:x ≠ w.heap.size:=by omega
 have hRq' : w.heap.size ≠ R:=Ne.symm hRq
 have hxq' : w.heap.size ≠ x:=Ne.symm hxq
 have hxl:x<w1.heap.size:=by rw [HL.out.size];omega
 have hql:w.heap.size<w1.heap.size:=by rw [HL.out.size];omega
 clear p0 p1 p2 p12 p13 pak h h0
 have q1:(i:Int)<(n:Int):=by omega
 have q6:(n:Int)≤6:=by omega
 have q0:(0:Int)≤(n:Int):=by omega
 go_wp2
 go_region_held3 (fun w' => w'.cell? ⟨x,41,none⟩=some (.slice (some ⟨R,0,none⟩) n n)∧w'.cell? ⟨R,i*14,none⟩=some (.bool up)∧w'.cell? ⟨R,i*14+1,none⟩=some (.int .i64 nu)∧w'.cell? ⟨R,i*14+2,none⟩=some (.int .i64 ba)∧w'.cell? ⟨R,i*14+12,none⟩=some (.int .i64 fr)∧w'.cell? ⟨R,i*14+13,none⟩=some (.int .i64 we)) (first | go_keep | (go_split_ands;refine ⟨?_,?_,?_,?_,?_,?_⟩ <;> (first | (rw [hb2.cell (p:=⟨R,_,none⟩) (by simpa using hRl)];assumption) | (rw [hb2.cell (p:=⟨x,_,none⟩) (by simpa using hxl)];assumption)))) (first | (go_at_call 107;refine (HC.out _ (Below.refl _ _).drew).mono ?_;rintro e w2 ⟨v,rfl,ho2,hb2⟩;obtain ⟨ad2,cp2,hv2⟩:=zh1 ho2;subst hv2;obtain ⟨⟨t0,t1,t2,t3,t4,t5⟩,tf,tb⟩:=HFX.out w2 ((Below.refl _ w1).drew.trans hb2)))
 all_goals go_wp2
 have HB:=Hid.mk (zhV (l' := [.bool up,.int .i64 nu,.int .i64 ba,.slice ad2 n cp2,.int .i64 fr,.int .i64 we]) (zhV (l' := zRep) tb rfl) rfl)
 have hq2:w.heap.size≤w2.heap.size:=by have:=hb2.size;simp at this;omega
 have HBL:Hid (Below w.heap.size w1 ((w2.setCells w.heap.size 0 zRep).setCells w.heap.size 0 [.bool up,.int .i64 nu,.int .i64 ba,.slice ad2 n cp2,.int .i64 fr,.int .i64 we])):=zaS (zaS (((Below.refl _ w1).drew.trans hb2).mono (Nat.le_of_lt hql)) hq2) (Nat.le_trans hq2 (zeu _ _ _).size)
 have HO:Hid (((w2.setCells w.heap.size 0 zRep).setCells w.heap.size 0 [.bool up,.int .i64 nu,.int .i64 ba,.slice ad2 n cp2,.int .i64 fr,.int .i64 we]).ownsRow (w.heap.size+1) 3 1 (.slice ad2 n cp2) n (ints ((List.range n).map ak))):=by
  have ho3:w2.ownsRow (w.heap.size+1) 3 1 (.slice ad2 n cp2) n (ints ((List.range n).map ak)):=zic ho2 (by have:=HL.out.size;simp;omega)
  exact zie (zie (zie (zie (zie (zie (zie (zie (zie (zie (zie (zie ho3 (by omega)) (by omega)) (by omega)) (by omega)) (by omega)) (by omega)) (by omega)) (by omega)) (by omega)) (by omega)) (by omega)) (by omega)
 clear t0 t1 t2 t3 t4 t5 tf tb ho2 hb2 HC HFX b0 b1 b2 b12 b13 c41
 show Leaves _ _ _ _ _ _ _
 refine leaves_cons (f:=45) (args:=#[.pointer (some ⟨x,0,none⟩)]) (by simp) (by simp [go_sem]) ?_
 obtain ⟨u0,u1,u2,u3⟩:=HL.out.done (w2:=(w2.setCells w.heap.size 0 zRep).setCells w.heap.size 0 [.bool up,.int .i64 nu,.int .i64 ba,.slice ad2 n cp2,.int .i64 fr,.int .i64 we]) HBL.out hlt (zaY HB.out)
 refine (unlock_deferred zgD ⟨x,0,none⟩ .returning _ u0 u1).mono ?_
 rintro e u' w'' ⟨rfl,rfl,rfl⟩
 exact ⟨.tuple #[.agg [.bool up,.int .i64 nu,.int .i64 ba,.slice ad2 n cp2,.int .i64 fr,.int .i64 we].toArray,.int .i64 0],zkK Tryz.results59 _ rfl rfl (run_loadVar_row _ _ _ _ _ _ _ (u3.trans HB.out) Tryz.underlying134 rfl zfh),_,rfl,zic (zie HO.out (by omega)) (by omega),u2⟩
theorem zjB {p:Rep}{n:Nat}{ak:Nat→Nat}(hn:p.acked.length=n)(h6:n≤6)(h:∀ q,q<6→ak q=p.acked.getD q 0):(List.range n).map ak=p.acked:=by
 apply List.ext_getElem
 ·simp [hn]
 ·intro k h1 h2
  rw [List.getElem_map,List.getElem_range,h k (by omega)]
  simp [List.getD,h2]
theorem zjd {w:World}{col:Col}{o x N:Nat}{U:List At}{K:PrK}{c:Clu}(h:PrgAt w col o x K c)(hok:c.ok U N)(r:Int) :
  Calls Tryz.prog 59 #[.pointer (some ⟨x,0,none⟩),.int .i64 r] w fun e w' => ∃ v,e = .returned (.tuple #[.agg #[.bool (!(c.repAt r).down),.int .i64 (c.repAt r).num,.int .i64 (c.repAt r).base,v,.int .i64 (c.repAt r).frames,.int .i64 (c.repAt r).weight],.int .i64 (c.thereErr r)])∧w'.ownsRow w.heap.size 3 1 v (c.repAt r).acked.length (ints (c.repAt r).acked)∧Below w.heap.size w w' := by
 have hcl:=h.at_.clAt h.is.lk
 by_cases hr:0≤r∧r<c.reps.length
 ·obtain ⟨i,rfl⟩:∃ i:Nat,r=i:=⟨r.toNat,by omega⟩
  have hi:i<c.reps.length:=by omega
  have hi' : i<K.Ds.length:=by rw [h.is.len];exact hi
  have hth:c.there (i:Int)=true:=by simp [Clu.there,hr]
  have e1:c.repAt (i:Int)=c.rep i:=by simp [Clu.repAt,hth]
  have e2:c.thereErr (i:Int)=0:=by simp [Clu.thereErr,hth]
  have hc:=h.at_.cells hi'
  have hD:=h.is.reps i hi'
  have hak:=(hok.rep hi).ackL
  have hR:=zje (K.Ds[i]).up (K.Ds[i]).num (K.Ds[i]).base (K.Ds[i]).frames (K.Ds[i]).weight (K.Ds[i]).ak hcl (by rw [h.is.len];exact hok.n1) (by rw [h.is.len];exact hok.n6) hi' hc.c0 hc.c1 hc.c2 hc.c12 hc.c13 hc.ak
  rw [zjB (p:=c.rep i) (by rw [h.is.len];exact hak) (by rw [h.is.len];exact hok.n6) hD.ak,hD.up,hD.num,hD.base,hD.frames,hD.weight,h.is.len,← hak] at hR
  rw [e1,e2]
  exact hR
 ·have hth:c.there r=false:=by simp only [Clu.there,decide_eq_false_iff_not];exact hr
  have e1:c.repAt r=⟨true,[],0,0,[],[],[],[],0,0⟩:=by simp [Clu.repAt,hth]
  have e2:c.thereErr r=5:=by simp [Clu.thereErr,hth]
  rw [e1,e2]
  refine (zjf x K.R _ _ r w hcl (by rw [h.is.len];exact hr)).mono ?_
  rintro e w' ⟨rfl,hb⟩
  exact ⟨.slice none 0 0,rfl,World.ownsRow_nil _ _ _ _,hb⟩
set_option maxRecDepth 100000 in
theorem zdO (x:Nat)(k:Int)(w:World)(ad:Option Addr)(m cp:Nat)(c42:w.cell? ⟨x,42,none⟩=some (.slice ad m cp))(hk:¬ (0≤k∧k<m)) :
  Calls Tryz.prog 46 #[.pointer (some ⟨x,0,none⟩),.int .i64 k] w fun e w' => e = .returned (.tuple #[.agg #[.int .i64 0,.int .i64 0,.int .i64 0,.int .i64 0,.slice none 0 0],.int .i64 10])∧Below w.heap.size w w' := by
 have hr1:=heap_alloc_new w (.cells zFrm.toArray 110)
 have k42:=zbp c42 (.cells #[.int .i64 0,.int .i64 0,.int .i64 0,.int .i64 0,.slice none 0 0] 110)
 have HB:=Hid.mk hr1
 have HW:=Hid.mk (zaO (Below.refl _ w) (.cells zFrm.toArray 110))
 clear hr1
 go_enter Tryz.func46,Tryz.ntmps46
 by_cases h0:k<0
 ·go_wp2
  refine bodyPost_ret (v := .tuple #[.agg #[.int .i64 0,.int .i64 0,.int .i64 0,.int .i64 0,.slice none 0 0],.int .i64 10]) ?_ rfl ⟨rfl,HW.out⟩
  exact zkK Tryz.results46 _ rfl rfl (run_loadVar_row _ _ _ _ _ _ _ HB.out Tryz.underlying110 rfl ze9)
 ·have q1:0≤k:=by omega
  have q2:(m:Int)≤k:=by omega
  go_wp2
  refine bodyPost_ret (v := .tuple #[.agg #[.int .i64 0,.int .i64 0,.int .i64 0,.int .i64 0,.slice none 0 0],.int .i64 10]) ?_ rfl ⟨rfl,HW.out⟩
  exact zkK Tryz.results46 _ rfl rfl (run_loadVar_row _ _ _ _ _ _ _ HB.out Tryz.underlying110 rfl ze9)
set_option maxRecDepth 100000 in
theorem zi4 (x R n cap:Nat)(k:Int)(w:World)(h0:ClAt w x R n cap)(ad:Option Addr)(m cp:Nat)(c42:w.cell? ⟨x,42,none⟩=some (.slice ad m cp))(hk:¬ (0≤k∧k<m)) :
  Calls Tryz.prog 91 #[.pointer (some ⟨x,0,none⟩),.int .i64 k] w fun e w' => e = .returned (.tuple #[.agg #[.int .i64 0,.int .i64 0,.int .i64 0,.int .i64 0,.slice none 0 0],.int .i64 10])∧Below w.heap.size w w' := by
 have h:ClAt (w.alloc (.cells zFrm.toArray 110)) x R n cap:=h0.below ((Below.refl _ w).alloc (Nat.le_refl _) _) h0.lt
 have hlt:=h0.lt
 go_enter_defers Tryz.func91,Tryz.ntmps91
 go_wp2_with (go_at_call 44;refine (lock_free zgD ⟨x,0,none⟩ _ h.c0 h.f0).mono ?_;rintro e wl ⟨rfl,hwl⟩;have k42:wl.cell? ⟨x,42,none⟩=some (.slice ad m cp):=(by rw [hwl];exact (World.cell?_setCell_other _ ⟨x,0,none⟩ ⟨x,42,none⟩ _ (by simp)).trans (zbp c42 _));have HL:=Hid.mk (zga h0 hwl);clear hwl)
 refine (zdO x k _ ad m cp k42 hk).mono ?_
 rintro e w2 ⟨rfl,hb2⟩
 have hr1:=(hb2.block _ (zaY HL.out.blk)).trans HL.out.blk
 have HBW:=Hid.mk hb2
 have hq2:w.heap.size<w2.heap.size:=zaY hr1
 have HB:=Hid.mk hr1
 have r0:w2.cell? ⟨w.heap.size,0,none⟩=some (.int .i64 0):=zaX hr1 0
 have r1:w2.cell? ⟨w.heap.size,1,none⟩=some (.int .i64 0):=zaX hr1 1
 have r2:w2.cell? ⟨w.heap.size,2,none⟩=some (.int .i64 0):=zaX hr1 2
 have r3:w2.cell? ⟨w.heap.size,3,none⟩=some (.int .i64 0):=zaX hr1 3
 have r4:w2.cell? ⟨w.heap.size,4,none⟩=some (.slice none 0 0):=zaX hr1 4
 have rf:=zaZ hr1
 clear hr1 h hb2 k42
 go_wp2
 clear r0 r1 r2 r3 r4 rf
 have hq:(w2.setCells w.heap.size 0 zFrm).heap.size=w2.heap.size:=by simp
 have HO:=Hid.mk (zhV (l' := zFrm) HB.out rfl)
 have HO2:Hid (((w2.setCells w.heap.size 0 zFrm).alloc (.cells #[.int .i64 0,.int .i64 0,.int .i64 0,.int .i64 0,.slice none 0 0] 110)).heap[w.heap.size]? = some (.cells zFrm.toArray 110 (0,0))):=(((Below.refl _ _).alloc (Nat.le_refl _) _).block _ (zaY HO.out)).trans HO.out
 have hs1:w.heap.size≤wl.heap.size:=by rw [HL.out.size];omega
 have HBL:Hid (Below w.heap.size wl ((w2.setCells w.heap.size 0 zFrm).alloc (.cells #[.int .i64 0,.int .i64 0,.int .i64 0,.int .i64 0,.slice none 0 0] 110))):=(zaS (l:=zFrm) (HBW.out.mono hs1) (Nat.le_of_lt hq2)).alloc (by rw [hq];omega) _
 show Leaves _ _ _ _ _ _ _
 refine leaves_cons (f:=45) (args:=#[.pointer (some ⟨x,0,none⟩)]) (by simp) (by simp [go_sem]) ?_
 obtain ⟨u0,u1,u2,u3⟩:=HL.out.done (w2:=(w2.setCells w.heap.size 0 zFrm).alloc (.cells #[.int .i64 0,.int .i64 0,.int .i64 0,.int .i64 0,.slice none 0 0] 110)) HBL.out hlt (zaY HO2.out)
 refine (unlock_deferred zgD ⟨x,0,none⟩ .returning _ u0 u1).mono ?_
 rintro e u' w'' ⟨rfl,rfl,rfl⟩
 exact ⟨.tuple #[.agg zFrm.toArray,.int .i64 10],zkK Tryz.results91 _ rfl rfl (run_loadVar_row _ _ _ _ _ _ _ (u3.trans HO2.out) Tryz.underlying110 rfl ze9),rfl,u2⟩
set_option maxRecDepth 100000 in
theorem ziZ (x R n cap:Nat)(k:Int)(w:World)(h:ClAt w x R n cap)(ad:Option Addr)(m cp:Nat)(c42:w.cell? ⟨x,42,none⟩=some (.slice ad m cp))(hk:¬ (0≤k∧k<m)) :
  Calls Tryz.prog 13 #[.pointer (some ⟨x,0,none⟩),.int .i64 k] w fun e w' => e = .returned (.int .i64 10)∧Below w.heap.size w w' := by
 have k42:(w.setCell ⟨x,0,none⟩ (.int .i32 1)).cell? ⟨x,42,none⟩=some (.slice ad m cp):=(World.cell?_setCell_other _ ⟨x,0,none⟩ ⟨x,42,none⟩ _ (by simp)).trans c42
 have hfr:=zdO x k (w.setCell ⟨x,0,none⟩ (.int .i32 1)) ad m cp k42 hk
 rw [zgb] at hfr
 go_enter_defers Tryz.func13,Tryz.ntmps13
 go_wp2_with (go_at_call 44;refine (lock_free zgD ⟨x,0,none⟩ _ h.c0 h.f0).mono ?_;rintro e w' ⟨rfl,rfl⟩)
 refine hfr.mono ?_
 rintro e w2 ⟨rfl,hb2⟩
 go_wp2
 refine leaves_cons (f:=45) (args:=#[.pointer (some ⟨x,0,none⟩)]) (by simp) (by simp [go_sem]) ?_
 obtain ⟨u0,u1,u2⟩:=h.unlock (w2:=_) (hb2.alloc (by have:=hb2.size;rwa [zgb] at this) _)
 refine (unlock_deferred zgD ⟨x,0,none⟩ .returning _ u0 u1).mono ?_
 rintro e u' w'' ⟨rfl,rfl,rfl⟩
 exact ⟨_,results_tmp rfl _ _ _,rfl,u2⟩
set_option maxRecDepth 100000 in
theorem ziX (x R n cap:Nat)(k:Int)(w:World)(h:ClAt w x R n cap)(ad:Option Addr)(m cp:Nat)(c42:w.cell? ⟨x,42,none⟩=some (.slice ad m cp))(hk:¬ (0≤k∧k<m)) :
  Calls Tryz.prog 49 #[.pointer (some ⟨x,0,none⟩),.int .i64 k] w fun e w' => e = .returned (.int .i64 10)∧Below w.heap.size w w' := by
 have k42:(w.setCell ⟨x,0,none⟩ (.int .i32 1)).cell? ⟨x,42,none⟩=some (.slice ad m cp):=(World.cell?_setCell_other _ ⟨x,0,none⟩ ⟨x,42,none⟩ _ (by simp)).trans c42
 have hfr:=zdO x k (w.setCell ⟨x,0,none⟩ (.int .i32 1)) ad m cp k42 hk
 rw [zgb] at hfr
 go_enter_defers Tryz.func49,Tryz.ntmps49
 go_wp2_with (go_at_call 44;refine (lock_free zgD ⟨x,0,none⟩ _ h.c0 h.f0).mono ?_;rintro e w' ⟨rfl,rfl⟩)
 refine hfr.mono ?_
 rintro e w2 ⟨rfl,hb2⟩
 go_wp2
 refine leaves_cons (f:=45) (args:=#[.pointer (some ⟨x,0,none⟩)]) (by simp) (by simp [go_sem]) ?_
 obtain ⟨u0,u1,u2⟩:=h.unlock (w2:=_) (hb2.alloc (by have:=hb2.size;rwa [zgb] at this) _)
 refine (unlock_deferred zgD ⟨x,0,none⟩ .returning _ u0 u1).mono ?_
 rintro e u' w'' ⟨rfl,rfl,rfl⟩
 exact ⟨_,results_tmp rfl _ _ _,rfl,u2⟩
set_option maxRecDepth 100000 in
theorem ziU (x R n cap:Nat)(k:Int)(w:World)(h:ClAt w x R n cap)(ad:Option Addr)(m cp:Nat)(c42:w.cell? ⟨x,42,none⟩=some (.slice ad m cp))(hk:¬ (0≤k∧k<m)) :
  Calls Tryz.prog 84 #[.pointer (some ⟨x,0,none⟩),.int .i64 k] w fun e w' => e = .returned (.int .i64 10)∧Below w.heap.size w w' := by
 have k42:(w.setCell ⟨x,0,none⟩ (.int .i32 1)).cell? ⟨x,42,none⟩=some (.slice ad m cp):=(World.cell?_setCell_other _ ⟨x,0,none⟩ ⟨x,42,none⟩ _ (by simp)).trans c42
 have hfr:=zdO x k (w.setCell ⟨x,0,none⟩ (.int .i32 1)) ad m cp k42 hk
 rw [zgb] at hfr
 go_enter_defers Tryz.func84,Tryz.ntmps84
 go_wp2_with (go_at_call 44;refine (lock_free zgD ⟨x,0,none⟩ _ h.c0 h.f0).mono ?_;rintro e w' ⟨rfl,rfl⟩)
 refine hfr.mono ?_
 rintro e w2 ⟨rfl,hb2⟩
 go_wp2
 refine leaves_cons (f:=45) (args:=#[.pointer (some ⟨x,0,none⟩)]) (by simp) (by simp [go_sem]) ?_
 obtain ⟨u0,u1,u2⟩:=h.unlock (w2:=_) (hb2.alloc (by have:=hb2.size;rwa [zgb] at this) _)
 refine (unlock_deferred zgD ⟨x,0,none⟩ .returning _ u0 u1).mono ?_
 rintro e u' w'' ⟨rfl,rfl,rfl⟩
 exact ⟨_,results_tmp rfl _ _ _,rfl,u2⟩
theorem zi2 {w:World}{col:Col}{o x:Nat}{K:PrK}{c:Clu}(h:PrgAt w col o x K c) :
  Calls Tryz.prog 12 #[.pointer (some ⟨x,0,none⟩)] w fun e w' => e = .returned (.int .i64 c.net.length)∧Below w.heap.size w w' := by
 obtain ⟨ad,cap,hv,_⟩:=h.at_.net.form
 have c42:=h.at_.cl.2.2.2.2.2.1
 rw [hv] at c42
 have:=zi1 x K.R _ _ ad K.ns.length cap w (h.at_.clAt h.is.lk) c42
 rwa [show K.ns.length=c.net.length by rw [← h.is.nets,List.length_map]] at this
open Go.RowKit
theorem zhl {o i:Nat}:¬ ofRep o i (o,1):=fun h=>by
 have:10≤1:=h.2.1
 omega
theorem RefRep.pushLog {w1 w2 w3:World}{col:Col}{o i g cap H:Nat}{near:List Bool}{D:RefD}{p:Rep}{r:Rc}(h:RefRep w1 col o i near D p)(hi:i<6)(hu:p.down=false)(hb:Below w1.heap.size w1 w2)
  (hown:w3.ownsRow 0 152 5 (.slice (some ⟨g,0,none⟩) (D.rs.length+1) cap) (D.rs.length+1) (D.rs.flatMap Rc.cells ++ r.cells)) (hg:w2.grownBy w3 D.vl.ownBlock) (hat:D.vl.ownBlock=some g∨g=H) (hH:w1.heap.size≤H) (hd:Held w1 col (o,1) r.v r.d) (ht:r.torn=false) :
  (w3.cell? ⟨D.ρ,7,none⟩=some D.vl∧w3.frozen? ⟨D.ρ,7,none⟩=false)∧RefRep (w3.setCell ⟨D.ρ,7,none⟩ (.slice (some ⟨g,0,none⟩) (D.rs.length+1) cap)) (paint col w1.heap.size (o,50+i)) o i near { D with vl := .slice (some ⟨g,0,none⟩) (D.rs.length+1) cap,rs:=D.rs ++ [r] } { p with log:=p.log ++ [r.rec'] }∧FrC (ofRep o i) col (paint col w1.heap.size (o,50+i)) w1 (w3.setCell ⟨D.ρ,7,none⟩ (.slice (some ⟨g,0,none⟩) (D.rs.length+1) cap)):=by
 obtain ⟨hr3,hf3⟩:=h.log.lies hb hown hg hat hH
 have ne:∀ j,j ≠ 50+i→¬ ((o,j)=(o,50+i)):=fun j hj e=>hj (congrArg Prod.snd e)
 have hblk:=hf3.block h.blk (by rw [h.cρ];exact ne _ (by omega))
 have hρ:paint col w1.heap.size (o,50+i) D.ρ=(o,10+i):=(hf3.colB h.blk).trans h.cρ
 have f4:FrC (fun x=>x=(o,50+i)∨x=(o,10+i)) col (paint col w1.heap.size (o,50+i)) w1 (w3.setCell ⟨D.ρ,7,none⟩ (.slice (some ⟨g,0,none⟩) (D.rs.length+1) cap)):=(hf3.mono fun x e => .inl e).trans (zdK (S:=fun x=>x=(o,50+i)∨x=(o,10+i)) 7 _ (.inr hρ))
 have f5:FrC (fun x=>x=(o,10+i)) (paint col w1.heap.size (o,50+i)) (paint col w1.heap.size (o,50+i)) w3 (w3.setCell ⟨D.ρ,7,none⟩ (.slice (some ⟨g,0,none⟩) (D.rs.length+1) cap)):=zdK (S:=fun x=>x=(o,10+i)) 7 _ hρ
 have n4:∀ j,j ≠ 50+i→j ≠ 10+i→¬ ((o,j)=(o,50+i)∨(o,j)=(o,10+i)):=fun j h1 h2 e=>by
  rcases e with e | e
  ·exact h1 (congrArg Prod.snd e)
  ·exact h2 (congrArg Prod.snd e)
 have hrest:=h.toRefRest
 refine ⟨⟨zaX hblk 7,zaZ hblk 7⟩,{ atoms:=hrest.atoms.kept f4 (n4 _ (by omega) (by omega)),taken:=hrest.taken.kept f4 (n4 _ (by omega) (by omega)),tkd:=fun t ht=>(hrest.tkd t ht).kept f4 (n4 _ (by omega) (by omega)),tsl:=hrest.tsl,buf:=hrest.buf,near:=hrest.near.kept f4 (n4 _ (by omega) (by omega)),acked:=hrest.acked.kept f4 (n4 _ (by omega) (by omega)),log := ?_,rcd:=fun q hq => ?_,logs := ?_,blk:=zeJ (o:=7) hblk _,cρ:=hρ },f4.mono fun x e => ?_⟩
 ·show RowC _ _ _ _ 5 _ (D.rs ++ [r]).length ((D.rs ++ [r]).flatMap Rc.cells)
  rw [List.length_append,List.flatMap_append]
  simpa using hr3.kept f5 (fun e=>by have:=congrArg Prod.snd e;simp only at this;omega)
 ·rcases List.mem_append.1 hq with hq | hq
  ·exact (hrest.rcd q hq).kept f4 (n4 _ (by omega) (by omega))
  ·obtain rfl:=List.mem_singleton.1 hq
   exact hd.kept f4 (n4 _ (by omega) (by omega))
 ·obtain ⟨A,B,e,hA,hm,hB⟩:=hrest.logs
  rcases hB with ⟨rfl,hB⟩ | ⟨_,_,_,_,h5⟩
  ·refine ⟨A ++ [r],[],by show D.rs ++ [r]=_;rw [e];simp,fun q hq => ?_,by rw [List.map_append,hm];rfl,.inl ⟨rfl,hB⟩⟩
   rcases List.mem_append.1 hq with hq | hq
   ·exact hA q hq
   ·obtain rfl:=List.mem_singleton.1 hq
    exact ht
  ·rw [hu] at h5
   cases h5
 ·rcases e with e | e
  ·rw [e];exact zhn hi (k:=5) (by omega)
  ·rw [e];exact zhn hi (k:=1) (by omega)
theorem RefRep.pushTaken {w1 w2 w3:World}{col:Col}{o i g cap H:Nat}{near:List Bool}{D:RefD}{p:Rep}{t:Tk}(h:RefRep w1 col o i near D p)(hi:i<6)(hb:Below w1.heap.size w1 w2)
  (hown:w3.ownsRow 0 164 4 (.slice (some ⟨g,0,none⟩) (D.ts.length+1) cap) (D.ts.length+1) (D.ts.flatMap Tk.cells ++ t.cells)) (hg:w2.grownBy w3 D.vt.ownBlock) (hat:D.vt.ownBlock=some g∨g=H) (hH:w1.heap.size≤H) (hd:Held w1 col (o,1) t.v t.d) (ht:t.kept=true) (hn:D.ts.length+1≤p.num) :
  (w3.cell? ⟨D.ρ,4,none⟩=some D.vt∧w3.frozen? ⟨D.ρ,4,none⟩=false)∧RefRep (w3.setCell ⟨D.ρ,4,none⟩ (.slice (some ⟨g,0,none⟩) (D.ts.length+1) cap)) (paint col w1.heap.size (o,20+i)) o i near { D with vt := .slice (some ⟨g,0,none⟩) (D.ts.length+1) cap,ts:=D.ts ++ [t] } { p with buf:=p.buf ++ [t.ent] }∧FrC (ofRep o i) col (paint col w1.heap.size (o,20+i)) w1 (w3.setCell ⟨D.ρ,4,none⟩ (.slice (some ⟨g,0,none⟩) (D.ts.length+1) cap)):=by
 obtain ⟨hr3,hf3⟩:=h.taken.lies hb hown hg hat hH
 have ne:∀ j,j ≠ 20+i→¬ ((o,j)=(o,20+i)):=fun j hj e=>hj (congrArg Prod.snd e)
 have hblk:=hf3.block h.blk (by rw [h.cρ];exact ne _ (by omega))
 have hρ:paint col w1.heap.size (o,20+i) D.ρ=(o,10+i):=(hf3.colB h.blk).trans h.cρ
 have f4:FrC (fun x=>x=(o,20+i)∨x=(o,10+i)) col (paint col w1.heap.size (o,20+i)) w1 (w3.setCell ⟨D.ρ,4,none⟩ (.slice (some ⟨g,0,none⟩) (D.ts.length+1) cap)):=(hf3.mono fun x e => .inl e).trans (zdK (S:=fun x=>x=(o,20+i)∨x=(o,10+i)) 4 _ (.inr hρ))
 have f5:FrC (fun x=>x=(o,10+i)) (paint col w1.heap.size (o,20+i)) (paint col w1.heap.size (o,20+i)) w3 (w3.setCell ⟨D.ρ,4,none⟩ (.slice (some ⟨g,0,none⟩) (D.ts.length+1) cap)):=zdK (S:=fun x=>x=(o,10+i)) 4 _ hρ
 have n4:∀ j,j ≠ 20+i→j ≠ 10+i→¬ ((o,j)=(o,20+i)∨(o,j)=(o,10+i)):=fun j h1 h2 e=>by
  rcases e with e | e
  ·exact h1 (congrArg Prod.snd e)
  ·exact h2 (congrArg Prod.snd e)
 have hrest:=h.toRefRest
 refine ⟨⟨zaX hblk 4,zaZ hblk 4⟩,{ atoms:=hrest.atoms.kept f4 (n4 _ (by omega) (by omega)),taken := ?_,tkd:=fun q hq => ?_,tsl := ?_,buf := ?_,near:=hrest.near.kept f4 (n4 _ (by omega) (by omega)),acked:=hrest.acked.kept f4 (n4 _ (by omega) (by omega)),log:=hrest.log.kept f4 (n4 _ (by omega) (by omega)),rcd:=fun q hq=>(hrest.rcd q hq).kept f4 (n4 _ (by omega) (by omega)),logs:=hrest.logs.same rfl rfl rfl,blk:=zeJ (o:=4) hblk _,cρ:=hρ },f4.mono fun x e => ?_⟩
 ·show RowC _ _ _ _ 4 _ (D.ts ++ [t]).length ((D.ts ++ [t]).flatMap Tk.cells)
  rw [List.length_append,List.flatMap_append]
  simpa using hr3.kept f5 (fun e=>by have:=congrArg Prod.snd e;simp only at this;omega)
 ·rcases List.mem_append.1 hq with hq | hq
  ·exact (hrest.tkd q hq).kept f4 (n4 _ (by omega) (by omega))
  ·obtain rfl:=List.mem_singleton.1 hq
   exact hd.kept f4 (n4 _ (by omega) (by omega))
 ·show (D.ts ++ [t]).length≤p.num
  rw [List.length_append]
  exact hn
 ·show ((D.ts ++ [t]).filter (·.kept)).map Tk.ent=p.buf ++ [t.ent]
  rw [List.filter_append,List.map_append,hrest.buf]
  simp [ht]
 ·rcases e with e | e
  ·rw [e];exact zhn hi (k:=2) (by omega)
  ·rw [e];exact zhn hi (k:=1) (by omega)
def Stage (w:World)(col:Col)(o i:Nat)(near:List Bool)(ρ m:Nat)(q:Rep)(wc:World):Prop:=∃ D' col',D'.ρ=ρ∧D'.ts.length≤m∧RefRep wc col' o i near D' q∧FrC (ofRep o i) col col' w wc
set_option maxRecDepth 100000 in
theorem zko {w:World}{col:Col}{o i x N n room org:Nat}{U:List At}{near:List Bool}{D:RefD}{p:Rep}{vd:Value}{d:List At}(h:RefRep w col o i near D p)(hi:i<6)(hd:Held w col (o,1) vd d)(hp:p.ok U N n room)(hu:p.down=false)(hL:Lim U N)(hr:1≤room)(hdl:d.length≤131072)
  (c4:w.cell? ⟨x,4,none⟩=some (.int .i64 room)) (cx:col x=(o,0)) (_ho:org<6) (hr8:room≤8) :
  Calls Tryz.prog 64 #[.pointer (some ⟨x,0,none⟩),.pointer (some ⟨D.ρ,0,none⟩),vd,.int .i64 org] w fun e w' => e = .returned (.tuple #[])∧∃ D' col',D'.ρ=D.ρ∧Hid (RefRep w' col' o i near D' (p.take room d org))∧Hid (FrC (ofRep o i) col col' w w'):=by
 obtain ⟨add,cpd,hvd,_⟩:=id hd
 subst hvd
 have HD:Hid (Held w col (o,1) (.slice add d.length cpd) d):=hd
 obtain ⟨d0,d1,d2,d3,d4,d5,d6,d7,d8,d9,hfz⟩:=h.cells
 have hρ:=zaY h.blk
 have hx:x<w.heap.size:=World.block_lt_of_cell? w ⟨x,4,none⟩ c4
 have f2:=hfz 2
 have f7:=hfz 7
 have hnum:=hp.num
 have hN:=hL.1
 have hρx:D.ρ ≠ x:=fun e=>by
  have:=h.cρ
  rw [e,cx] at this
  have:=congrArg Prod.snd this
  simp only at this
  omega
 obtain ⟨adl,cpl,hvl,hcl⟩:=h.log.form
 have hrl:=(h.logs.fine hp hL).2
 obtain ⟨h1,fr1⟩:=h.set (k:=2) (u := .int .i64 ((p.num:Int)+1)) (D' := D) (p' := { p with num:=p.num+1 }) hi rfl rfl { h.toRefRest with tsl:=Nat.le_succ_of_le h.tsl,logs:=h.logs.same rfl rfl rfl }
 obtain ⟨w1,hw1⟩:∃ w1,w1=w.setCell ⟨D.ρ,2,none⟩ (.int .i64 ((p.num:Int)+1)):=⟨_,rfl⟩
 rw [← hw1] at h1 fr1
 have HD1:Held w1 col (o,1) (.slice add d.length cpd) d:=HD.out.kept fr1 zhl
 obtain ⟨i0,hi0,hz0,hz1,hz2⟩:=info_parts zff
 have HPL:Hid (∀ g cap w3,w3.ownsRow 0 152 5 (.slice (some ⟨g,0,none⟩) (D.rs.length+1) cap) (D.rs.length+1) (D.rs.flatMap Rc.cells ++ [.int .i64 1,.int .i64 ((p.num:Int)+1),.slice add d.length cpd,.bool false,.string ⟨#[]⟩])→∀ w2,Below w1.heap.size w1 w2→w2.grownBy w3 (Value.slice adl D.rs.length cpl).ownBlock→(Value.slice adl D.rs.length cpl).ownBlock=some g∨g=w1.heap.size+1→_):=fun g cap w3 k1 w2 k2 k3 k4=>RefRep.pushLog (r:=⟨1,p.num+1,.slice add d.length cpd,d,false,⟨#[]⟩⟩) h1 hi hu k2 k1 (by rw [hvl];exact k3) (by rw [hvl];exact k4) (Nat.le_succ _) HD1 rfl
 have HZ1:Hid (w1.heap.size=w.heap.size):=by rw [hw1];simp [Hid,World.setCell]
 have e2:w1.cell? ⟨D.ρ,2,none⟩=some (.int .i64 ((p.num:Int)+1)):=h1.cells.2.2.1
 have e7:w1.cell? ⟨D.ρ,7,none⟩=some (.slice adl D.rs.length cpl):=by rw [← hvl];exact h1.cells.2.2.2.2.2.2.2.1
 have g7:w1.frozen? ⟨D.ρ,7,none⟩=false:=zaZ h1.blk 7
 have hρ1:=zaY h1.blk
 have HOW:Hid (w1.ownsRow 0 152 5 (.slice adl D.rs.length cpl) D.rs.length (D.rs.flatMap Rc.cells)):=by rw [← hvl];exact h1.log.own
 have HFR1:Hid (FrC (ofRep o i) col col w w1):=fr1
 have HTS:Hid (D.ts.length≤p.num):=h.tsl
 clear h1 fr1 hfz d0 d1 d3 d4 d5 d6 d8 d9 h hcl
 go_enter Tryz.func64,Tryz.ntmps64
 go_wp2
 rw [← hw1]
 clear hw1
 go_cut [] from 9 (fun wc=>Hid (Stage w col o i near D.ρ p.num { p with num:=p.num+1,log:=p.log ++ [⟨1,p.num+1,d⟩] } wc))
 case first =>
  go_region_law (refine step_append_lies _ rfl _ _ 140 rfl 0 152 i0 _ 5 64 Tryz.underlying140 hi0 hz0 hz1 hz2 rfl (by decide) _ D.rs.length _ rfl (HOW.out.alloc _) ⟨w1.heap.size,0,none⟩ 1 1 [.int .i64 1,.int .i64 ((p.num:Int)+1),.slice add d.length cpd,.bool false,.string ⟨#[]⟩] rfl rfl (World.news_of_block (heap_alloc_new w1 _)) (zdn rfl _ _) (by decide) (by unfold maxLen;omega) (by omega) (by simp) (w1.heap.size+1) (by simp) ?_;intro g3 capn w3 hown3 hgrow3 hat3 hlt3;obtain ⟨⟨k7,l7⟩,hrep3,hfr3⟩:=HPL.out g3 capn w3 hown3 (w1.alloc (.cells #[.int .i64 1,.int .i64 ((p.num:Int)+1),.slice add d.length cpd,.bool false,.string ⟨#[]⟩] 152)) (zaO (Below.refl _ _) _) (zeq hgrow3) hat3)
  all_goals go_wp2
  all_goals go_meet
  all_goals (case rel=>exact ⟨_,_,by rfl,(by exact HTS.out),hrep3,HFR1.out.trans hfr3⟩)
 case rest =>
  clear HPL HOW e2 e7 g7 hρ1 HFR1
  obtain ⟨D2,col2,hρ2,htl',hR2,hF2⟩:=hcut
  have hc2:=hR2.cells
  rw [hρ2] at hc2
  obtain ⟨a0,a1,a2,a3,a4,a5,a6,a7,a8,a9,afz⟩:=hc2
  obtain ⟨adA,cpA,hvA,hAA⟩:=id hR2.atoms
  rw [hvA] at a1
  have g1:=afz 1
  have HDc:=HD.out.kept hF2 zhl
  have hlA:p.atoms.length≤274878038016:=Nat.le_trans hp.alen hL.prod
  have hbo:=za0 (.slice adA p.atoms.length cpA) (.slice add d.length cpd) p.atoms d wc (by rw [← hvA];exact hR2.atoms.slice) HDc.slice (by omega) (by omega)
  have HR2:Hid (RefRep wc col2 o i near D2 { p with num:=p.num+1,log:=p.log ++ [⟨1,p.num+1,d⟩] }):=hR2
  have HF2:Hid (FrC (ofRep o i) col col2 w wc):=hF2
  have hρc:D.ρ<wc.heap.size:=by rw [← hρ2];exact zaY hR2.blk
  clear a0 a2 a3 a4 a5 a6 a7 a8 a9 afz hR2 hF2 hvA hAA HDc
  go_wp2_with fail
  refine hbo.mono ?_
  rintro e w4 ⟨v4,rfl,hown4,hb4⟩
  have hR4:=HR2.out.below hb4 (o,1)
  have hF4:=HF2.out.below hb4 (o,1)
  obtain ⟨hR5,hF5⟩:=hR4.set (k:=1) (u:=v4) (D' := { D2 with va:=v4 }) (p' := { p with num:=p.num+1,log:=p.log ++ [⟨1,p.num+1,d⟩],atoms:=p.atoms ++ d }) hi rfl rfl { hR4.toRefRest with atoms:=zeP rfl hown4,logs:=hR4.logs.same rfl rfl rfl }
  obtain ⟨adB,cpB,hvB⟩:=zh1 hown4
  subst hvB
  rw [hρ2] at hR5 hF5
  have b1:w4.cell? ⟨D.ρ,1,none⟩=some (.slice adA p.atoms.length cpA):=by rw [hb4.cell (p:=⟨D.ρ,1,none⟩) hρc];exact a1
  have b1f:w4.frozen? ⟨D.ρ,1,none⟩=false:=by rw [hb4.frozen (p:=⟨D.ρ,1,none⟩) hρc];exact g1
  have hF6:=hF4.trans hF5
  rw [List.length_append] at hR5 hF6
  clear hR4 hF4 hF5 hown4 hbo a1 g1
  obtain ⟨w5,hw5⟩:∃ w5,w5=w4.setCell ⟨D.ρ,1,none⟩ (.slice adB (p.atoms.length+d.length) cpB):=⟨_,rfl⟩
  rw [← hw5] at hR5 hF6
  have hc5:=hR5.cells
  simp only at hc5
  obtain ⟨a0,a1,a2,a3,a4,a5,a6,a7,a8,a9,afz⟩:=hc5
  obtain ⟨adt,cpt,hvt,hct⟩:=hR5.taken.form
  rw [hvt] at a4
  have g4:=afz 4
  have hd5:=HD.out.kept hF6 zhl
  have HPT:Hid (∀ g cap w3,w3.ownsRow 0 164 4 (.slice (some ⟨g,0,none⟩) (D2.ts.length+1) cap) (D2.ts.length+1) (D2.ts.flatMap Tk.cells ++ [.int .i64 ((p.num:Int)+1),.int .i64 org,.slice add d.length cpd,.bool true])→∀ w2,Below w5.heap.size w5 w2→w2.grownBy w3 (Value.slice adt D2.ts.length cpt).ownBlock→(Value.slice adt D2.ts.length cpt).ownBlock=some g∨g=w5.heap.size+1→_):=fun g cap w3 k1 w2 k2 k3 k4=>RefRep.pushTaken (t:=⟨p.num+1,org,.slice add d.length cpd,d,true⟩) hR5 hi k2 k1 (by rw [show D2.vt=_ from hvt];exact k3) (by rw [show D2.vt=_ from hvt];exact k4) (Nat.le_succ _) hd5 rfl (Nat.succ_le_succ htl')
  have HOW:Hid (w5.ownsRow 0 164 4 (.slice adt D2.ts.length cpt) D2.ts.length (D2.ts.flatMap Tk.cells)):=by rw [← hvt];exact hR5.taken.own
  have hρ5:D.ρ<w5.heap.size:=zaY hR5.blk
  have HF6:=Hid.mk hF6
  obtain ⟨i1,hi1,hy0,hy1,hy2⟩:=info_parts zfk
  clear hR5 hF6 a0 a1 a3 a5 a6 a7 a8 a9 afz hvt hct hd5 HR2 HF2
  go_wp2
  rw [← hw5]
  clear hw5 b1 b1f hb4
  go_cut [] from 9 (fun wc=>Hid (Stage w col o i near D.ρ (p.num+1) (p.take1 d org) wc))
  case first =>
   go_region_law (refine step_append_lies _ rfl _ _ 139 rfl 0 164 i1 _ 4 48 Tryz.underlying139 hi1 hy0 hy1 hy2 rfl (by decide) _ D2.ts.length _ rfl (HOW.out.alloc _) ⟨w5.heap.size,0,none⟩ 1 1 [.int .i64 ((p.num:Int)+1),.int .i64 org,.slice add d.length cpd,.bool true] rfl rfl (World.news_of_block (heap_alloc_new w5 _)) (zdG rfl _) (by decide) (by unfold maxLen;omega) (by omega) (by simp) (w5.heap.size+1) (by simp) ?_;intro g3 capn w3 hown3 hgrow3 hat3 hlt3;obtain ⟨⟨k4,l4⟩,hrep3,hfr3⟩:=HPT.out g3 capn w3 hown3 (w5.alloc (.cells #[.int .i64 ((p.num:Int)+1),.int .i64 org,.slice add d.length cpd,.bool true] 164)) (zaO (Below.refl _ _) _) (zeq hgrow3) hat3)
   all_goals go_wp2
   all_goals go_meet
   all_goals (case rel=>exact ⟨_,_,by rfl,(by simp;omega),hrep3,HF6.out.trans hfr3⟩)
  case rest =>
   obtain ⟨D3,col3,hρ3,htl3,hR3,hF3⟩:=hcut
   have hx3:wc.heap[x]? = w.heap[x]? := hF3.fr.block x hx (by rw [cx];intro hh;have:10≤0:=hh.2.1;omega)
   have c43:wc.cell? ⟨x,4,none⟩=some (.int .i64 room):=(World.cell?_of_block hx3).trans c4
   have hxc:x<wc.heap.size:=Nat.lt_of_lt_of_le hx hF3.size
   have hkeep:=zfz hR3 (by show p.num+1≤_;omega)
   rw [hρ3] at hkeep
   have HBF:Hid ((D3.ts.filter (·.kept)).map Tk.ent=p.buf ++ [⟨p.num+1,org,d⟩]):=hR3.buf
   have hbl:(D3.ts.filter (·.kept)).length=p.buf.length+1:=by
    have:=congrArg List.length HBF.out
    rw [List.length_map,List.length_append] at this
    exact this
   have hbuf:=hp.bufL
   have HR3:=Hid.mk hR3
   have HF3:=Hid.mk hF3
   generalize hts:D3.ts.filter (·.kept)=ts at *
   clear HPT HOW hρ5 HF6 hR3 hF3 hρc htl' a2 a4 g4 hts hx3
   go_wp2_with fail
   refine hkeep.mono ?_
   rintro e w7 ⟨v7,rfl,hown7,hb7⟩
   have c47:w7.cell? ⟨x,4,none⟩=some (.int .i64 room):=by rw [hb7.cell (p:=⟨x,4,none⟩) hxc];exact c43
   have hR7:=HR3.out.below hb7 (o,1)
   have hF7:=HF3.out.below hb7 (o,1)
   rw [hbl] at hown7
   obtain ⟨ad7,cp7,hv7⟩:=zh1 hown7
   subst hv7
   clear hkeep HR3 HF3
   by_cases hro:room<p.buf.length+1
   ·have q1:(room:Int)<((p.buf.length:Int)+1):=by omega
    obtain ⟨t0,hts0⟩:∃ t0,ts[0]? = some t0:=⟨ts[0]'(by omega),List.getElem?_eq_getElem (by omega)⟩
    have hrow7:RowC w7 (fun _=>(0,0)) (0,0) 164 4 (.slice ad7 (p.buf.length+1) cp7) (p.buf.length+1) (ts.flatMap Tk.cells):=⟨zic hown7 (Nat.zero_le _),fun _ _=>rfl⟩
    rw [← hbl] at hrow7
    obtain ⟨ad',cp',hv',hc',H'⟩:=hrow7.elem zmI
    obtain ⟨g7,hg7,hg7l,-,-,hcl7⟩:=H' (by omega)
    cases hv'
    subst hg7
    have hl0:0<ts.length:=by omega
    have ht0:ts[0]=t0:=by rw [List.getElem?_eq_getElem hl0] at hts0;exact Option.some.inj hts0
    have e0:w7.cell? ⟨g7,0,none⟩=some (.int .i64 t0.num):=by
     have:=hcl7 0 hl0 0 (.int .i64 t0.num) (by rw [ht0];rfl)
     simpa using this
    have HN0:Hid (t0.num=(p.buf.head?.map (·.num)).getD (p.num+1)):=by
     have h0:=congrArg List.head? HBF.out
     rw [List.head?_map,List.head?_eq_getElem?,hts0] at h0
     cases hb:p.buf with
     | nil=>rw [hb] at h0;have:=congrArg Ent.num (Option.some.inj h0);exact this
     | cons a l=>rw [hb] at h0;have:=congrArg Ent.num (Option.some.inj h0);exact this
    have hn0:t0.num≤4294967296:=by
     rw [HN0.out]
     cases hb:p.buf with
     | nil=>simp;omega
     | cons a l =>
      have:=(hp.buf a (by rw [hb];simp)).2.2.1
      simp
      omega
    have hdr:=zj5 hR7 hi t0.num (by show p.num+1≤_;omega) hn0 (by show p.base≤_;have:=hp.base;omega)
    rw [hρ3] at hdr
    have HT:Hid (p.take room d org=(p.take1 d org).drop t0.num):=by unfold Hid Rep.take;rw [if_pos hro,HN0.out]
    rw [hbl] at *
    clear hrow7 hcl7 hR7 H' hc'
    go_wp2_with fail
    refine hdr.mono ?_
    rintro e w8 ⟨rfl,D8,col8,hρ8,hR8,hF8⟩
    go_wp2
    go_end0
    exact ⟨rfl,D8,col8,hρ8,by rw [HT.out];exact hR8,hF7.trans hF8.out⟩
   ·have q1:((p.buf.length:Int)+1)≤(room:Int):=by omega
    have HT:Hid (p.take room d org=p.take1 d org):=by unfold Hid Rep.take;rw [if_neg hro]
    go_wp2
    go_end0
    exact ⟨rfl,D3,_,hρ3,by rw [HT.out];exact hR7,hF7⟩
end Go.Proofs.YtahdlejgjcjeoabGreatDoor
