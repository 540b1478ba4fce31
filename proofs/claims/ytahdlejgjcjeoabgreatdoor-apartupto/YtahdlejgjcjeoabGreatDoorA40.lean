/- The program's Send. -/
import Derived.Test.YtahdlejgjcjeoabGreatDoorA39
import Derived.Test.YtahdlejgjcjeoabGreatDoorA35
import Derived.Test.YtahdlejgjcjeoabGreatDoorA07
import Derived.Test.YtahdlejgjcjeoabGreatDoorA29
namespace Go.Proofs.YtahdlejgjcjeoabGreatDoor
set_option maxHeartbeats 8000000
open Go.RowKit Go.MuLone
theorem PrB.nearC {w:World}{col:Col}{o x:Nat}{ex:Option Nat}{K:PrK}(h:PrB w col o x ex K){r q:Nat}(hr:r<6)(hq:q<6):w.cell? ⟨x,5+r*6+q,none⟩=some (.bool (K.near r q)):=by
 have hl:(linkB K.near).length=36:=by simp [linkB]
 rw [zaX h.blk,List.getElem?_toArray]
 unfold PrK.block
 rw [List.getElem?_append_right (by simp;omega),List.getElem?_append_left (by rw [hl];simp;omega)]
 have e:5+r*6+q - ([.int .i32 K.lk,.int .u32 0,.bool K.bp,.bool K.rr,.int .i64 K.room]:List Value).length=r*6+q:=by simp;omega
 rw [e]
 have:=zf2 K.near (r*6+q) (by omega)
 rw [List.getElem?_toArray] at this
 rw [this,show (r*6+q) / 6=r by omega,show (r*6+q) % 6=q by omega]
set_option maxRecDepth 100000 in
theorem zji {w:World}{col:Col}{o x:Nat}{K:PrK}(h:PrAt w col o x K)(h6:K.Ds.length≤6)(r q:Nat)(hr:r<K.Ds.length)(hq:q<K.Ds.length) :
  Calls Tryz.prog 77 #[.pointer (some ⟨x,0,none⟩),.int .i64 r,.int .i64 q] w fun e w' => Below w.heap.size w w' ∧ e = .returned (.tuple #[.pointer (if K.near r q=true∧(K.Ds[r]).up=true then some ⟨K.R,r*14,none⟩ else none),.int .i64 (if K.near r q=false then 7 else if (K.Ds[r]).up=true then 0 else 8)]):=by
 have HB:=Hid.mk (zaO (Below.refl _ w) (.cells #[.int .i64 r,.int .i64 q] 3))
 have hb:=HB.out
 have hA:=h.same hb
 have k41:=hA.cl.2.2.2.2.1
 have nr:=hA.nearC (r:=r) (q:=q) (by omega) (by omega)
 have cu:=(hA.cells hr).c0
 have HO1:=Hid.mk (zht x K.R r K.Ds.length K.Ds.length _ k41 hr)
 have HO2:=Hid.mk (zht x K.R q K.Ds.length K.Ds.length _ k41 hq)
 have HUP:=Hid.mk (znb x K.R r K.Ds.length K.Ds.length (K.Ds[r]).up _ k41 hr cu)
 have hrow:=heap_alloc_new w (.cells #[.int .i64 r,.int .i64 q] 3)
 have r0:(w.alloc (.cells #[.int .i64 r,.int .i64 q] 3)).cell? ⟨w.heap.size,0,none⟩=some (.int .i64 r):=zaX hrow 0
 have r1:(w.alloc (.cells #[.int .i64 r,.int .i64 q] 3)).cell? ⟨w.heap.size,1,none⟩=some (.int .i64 q):=zaX hrow 1
 have hx:=zaY h.blk
 have g1:(r:Int)<6:=by omega
 have g2:(q:Int)<6:=by omega
 have g3:(0:Int)≤r:=by omega
 have g4:(0:Int)≤q:=by omega
 clear h hA cu k41 hb hrow
 go_enter Tryz.func77,Tryz.ntmps77
 go_wp2
 generalize w.alloc (.cells #[.int .i64 r,.int .i64 q] 3)=w1 at *
 go_loopw [16] (fun s wr=>∃ i:Nat,i≤2∧s = .int .i64 i∧wr=w1) (fun s _=>2 - (intOf s).toNat)
 case atStart=>exact ⟨0,by omega,rfl,rfl⟩
 case round =>
  obtain ⟨i,hi,rfl,rfl⟩:=hrel
  rcases (by omega:i=0∨i=1∨i=2) with rfl | rfl | rfl
  ·go_wp2_with fail
   refine HO1.out.mono ?_
   rintro e w2 ⟨rfl,rfl⟩
   go_wp2
   all_goals exact ⟨⟨1,by omega,by go_num,by trivial⟩,by simp [intOf]⟩
  ·go_wp2_with fail
   refine HO2.out.mono ?_
   rintro e w2 ⟨rfl,rfl⟩
   go_wp2
   all_goals exact ⟨⟨2,by omega,by go_num,by trivial⟩,by simp [intOf]⟩
  ·cases hn:K.near r q with
   | false =>
    rw [hn] at nr
    go_wp2
    all_goals refine bodyPost_ret (v := .tuple #[.pointer none,.int .i64 7]) (by simp [results,Tryz.results77,go_sem]) rfl ⟨HB.out,by rfl⟩
   | true =>
    rw [hn] at nr
    cases hu:(K.Ds[r]).up with
    | false =>
     rw [hu] at HUP
     go_wp2_with fail
     refine HUP.out.mono ?_
     rintro e w2 ⟨rfl,rfl⟩
     go_wp2
     all_goals refine bodyPost_ret (v := .tuple #[.pointer none,.int .i64 8]) (by simp [results,Tryz.results77,go_sem]) rfl ⟨HB.out,by simp⟩
    | true =>
     rw [hu] at HUP
     go_wp2_with fail
     refine HUP.out.mono ?_
     rintro e w2 ⟨rfl,rfl⟩
     go_wp2
     all_goals refine bodyPost_ret (v := .tuple #[.pointer (some ⟨K.R,r*14,none⟩),.int .i64 0]) (by simp [results,Tryz.results77,go_sem]) rfl ⟨HB.out,by simp⟩
set_option maxRecDepth 100000 in
theorem zjj {w:World}{col:Col}{o x:Nat}{K:PrK}(h:PrAt w col o x K)(r q:Int)(hno:¬ (0≤r∧r<K.Ds.length)∨¬ (0≤q∧q<K.Ds.length)) :
  Calls Tryz.prog 77 #[.pointer (some ⟨x,0,none⟩),.int .i64 r,.int .i64 q] w fun e w' => Below w.heap.size w w' ∧ e = .returned (.tuple #[.pointer none,.int .i64 5]):=by
 have HB:=Hid.mk (zaO (Below.refl _ w) (.cells #[.int .i64 r,.int .i64 q] 3))
 have hb:=HB.out
 have hA:=h.same hb
 have k41:=hA.cl.2.2.2.2.1
 have hrow:=heap_alloc_new w (.cells #[.int .i64 r,.int .i64 q] 3)
 have r0:(w.alloc (.cells #[.int .i64 r,.int .i64 q] 3)).cell? ⟨w.heap.size,0,none⟩=some (.int .i64 r):=zaX hrow 0
 have r1:(w.alloc (.cells #[.int .i64 r,.int .i64 q] 3)).cell? ⟨w.heap.size,1,none⟩=some (.int .i64 q):=zaX hrow 1
 have hx:=zaY h.blk
 clear h hA hb hrow
 go_enter Tryz.func77,Tryz.ntmps77
 go_wp2
 generalize w.alloc (.cells #[.int .i64 r,.int .i64 q] 3)=w1 at *
 by_cases hr:0≤r∧r<K.Ds.length
 ·obtain ⟨i,rfl⟩:∃ i:Nat,r=i:=⟨r.toNat,by omega⟩
  have HO1:=Hid.mk (zht x K.R i K.Ds.length K.Ds.length _ k41 (by omega))
  have HO2:=Hid.mk (zhs x q _ K.Ds.length K.Ds.length _ k41 (by rcases hno with h | h;exact absurd hr h;exact h))
  clear hno hr k41
  go_loopw [16] (fun s wr=>∃ i:Nat,i≤1∧s = .int .i64 i∧wr=w1) (fun s _=>2 - (intOf s).toNat)
  case atStart=>exact ⟨0,by omega,rfl,rfl⟩
  case round =>
   obtain ⟨j,hj,rfl,rfl⟩:=hrel
   rcases (by omega:j=0∨j=1) with rfl | rfl
   ·go_wp2_with fail
    refine HO1.out.mono ?_
    rintro e w2 ⟨rfl,rfl⟩
    go_wp2
    all_goals exact ⟨⟨1,by omega,by go_num,by trivial⟩,by simp [intOf]⟩
   ·go_wp2_with fail
    refine HO2.out.mono ?_
    rintro e w2 ⟨rfl,rfl⟩
    go_wp2
    all_goals refine bodyPost_ret (v := .tuple #[.pointer none,.int .i64 5]) (by simp [results,Tryz.results77,go_sem]) rfl ⟨HB.out,by rfl⟩
 ·have HO1:=Hid.mk (zhs x r _ K.Ds.length K.Ds.length _ k41 hr)
  clear hno hr k41
  go_loopw [16] (fun s wr=>s = .int .i64 0∧wr=w1) (fun s _=>0)
  case atStart=>exact ⟨rfl,rfl⟩
  case round =>
   obtain ⟨rfl,rfl⟩:=hrel
   go_wp2_with fail
   refine HO1.out.mono ?_
   rintro e w2 ⟨rfl,rfl⟩
   go_wp2
   all_goals refine bodyPost_ret (v := .tuple #[.pointer none,.int .i64 5]) (by simp [results,Tryz.results77,go_sem]) rfl ⟨HB.out,by rfl⟩
open Go.RowKit
def goesTo (bp:Bool)(ak k:Nat)(t:Tk):Bool:=t.kept && (decide (ak<t.num) && !(bp && decide (t.org=k)))
def sendOf (bp:Bool)(ak k:Nat)(ts:List Tk):List At:=((ts.filter (goesTo bp ak k)).map (·.d)).flatten
theorem zlg {bp:Bool}{ak k i:Nat}{ts:List Tk}(h:i<ts.length)(hg:goesTo bp ak k ts[i]=true):sendOf bp ak k (ts.take (i+1))=sendOf bp ak k (ts.take i) ++ ts[i].d:=by
 rw [List.take_succ_eq_append_getElem h,sendOf,sendOf,List.filter_append,List.filter_cons_of_pos hg]
 simp
theorem zlf {bp:Bool}{ak k i:Nat}{ts:List Tk}(h:i<ts.length)(hg:goesTo bp ak k ts[i]=false):sendOf bp ak k (ts.take (i+1))=sendOf bp ak k (ts.take i):=by
 rw [List.take_succ_eq_append_getElem h,sendOf,sendOf,List.filter_append,List.filter_cons_of_neg (by simp [hg])]
 simp
theorem zld {bp:Bool}{k:Nat}{ts:List Tk}{p:Rep}(h:(ts.filter (·.kept)).map Tk.ent=p.buf):sendOf bp (p.acked.getD k 0) k ts=((p.toSend bp k).map (·.d)).flatten:=by
 unfold sendOf Rep.toSend
 rw [← h,List.filter_map,List.map_map,List.filter_filter]
 congr 2
 apply List.filter_congr
 intro t _
 simp only [goesTo,Function.comp_apply,Tk.ent]
 exact Bool.and_comm _ _
theorem zle {bp:Bool}{ak k i M:Nat}:∀ {ts:List Tk},(∀ t∈ts,t.kept=true→t.d.length≤M)→(sendOf bp ak k ts).length≤ts.length*M
 | [],_=>by simp [sendOf]
 | t :: ts,h=>by
  have ih:=zle (bp:=bp) (ak:=ak) (k:=k) (i:=i) (M:=M) (ts:=ts) (fun x hx=>h x (List.mem_cons_of_mem _ hx))
  have e:(t :: ts).length*M=ts.length*M+M:=by rw [List.length_cons,Nat.succ_mul]
  rw [e]
  unfold sendOf at ih ⊢
  rw [List.filter_cons]
  split
  ·rename_i hg
   have hk:t.kept=true:=by unfold goesTo at hg;simp only [Bool.and_eq_true] at hg;exact hg.1
   have:=h t (List.mem_cons_self ..) hk
   simp only [List.map_cons,List.flatten_cons,List.length_append]
   omega
  ·omega
theorem zlh {w wz:World}{col:Col}{o x N m k:Nat}{U:List At}{K:RefC}{c:Clu}{D:RefD}{vS:Value}{DD:List At}{kd:Nat}(h:RefAt w col o x K c)(hok:c.ok U N)(hm:m<c.reps.length)(hD:K.Ds[m]? = some D)(hR:RefRep w col o m (nearRow c m) D (c.rep m))
  (hZ:Below w.heap.size w wz) (hO:wz.ownsRow w.heap.size 76 6 vS DD.length (flat DD)) (hfr:(c.rep m).frame c.bp m k=⟨kd,m,k,(c.rep m).num,DD⟩) :
  (∀ W,Below ((wz.setCell ⟨D.ρ,8,none⟩ (.int .i64 (((c.rep m).frames:Int)+1))).setCell ⟨D.ρ,9,none⟩ (.int .i64 (((c.rep m).weight:Int)+DD.length))).heap.size ((wz.setCell ⟨D.ρ,8,none⟩ (.int .i64 (((c.rep m).frames:Int)+1))).setCell ⟨D.ρ,9,none⟩ (.int .i64 (((c.rep m).weight:Int)+DD.length))) W →
   Calls Tryz.prog 80 #[.pointer (some ⟨x,0,none⟩),.agg #[.int .i64 kd,.int .i64 m,.int .i64 k,.int .i64 (c.rep m).num,vS]] W fun e w' => e = .returned (.tuple #[])∧∃ K' col',Hid (RefAt w' col' o x K' (c.sent m k))∧Hid (FrC (ofOwner o) col col' w w')):=by
 intro W hW
 have hn6:=hok.n6
 have HRz:=h.below hZ (o,1)
 have HPz:=hR.below hZ (o,1)
 have HVz:Held wz (paint col w.heap.size (o,1)) (o,1) vS DD:=zeP rfl hO
 obtain ⟨s1,g1⟩:=HPz.set (k:=8) (u := .int .i64 (((c.rep m).frames:Int)+1)) (D' := D) (p' := { c.rep m with frames:=(c.rep m).frames+1 }) (by omega) (by simp [RefD.block]) rfl { HPz.toRefRest with logs:=HPz.logs.same rfl rfl rfl }
 obtain ⟨s2,g2⟩:=s1.set (k:=9) (u := .int .i64 (((c.rep m).weight:Int)+DD.length)) (D' := D) (p' := { c.rep m with frames:=(c.rep m).frames+1,weight:=(c.rep m).weight+DD.length }) (by omega) (by simp [RefD.block]) rfl { s1.toRefRest with logs:=s1.logs.same rfl rfl rfl }
 have HFz:=g1.trans g2
 have HRA:=HRz.setRep hn6 hm HFz (fun h' => (zcy hD h').symm) s2
 have HFF:FrC (ofOwner o) col (paint col w.heap.size (o,1)) w _:=(zdH (S:=ofOwner o) hZ (o,1)).trans (HFz.mono zhm)
 have HSN:c.sent m k=(c.setRep m { c.rep m with frames:=(c.rep m).frames+1,weight:=(c.rep m).weight+DD.length }).put ⟨kd,m,k,(c.rep m).num,DD⟩:=by unfold Clu.sent;rw [hfr]
 have hp:=zke (f:=⟨kd,m,k,(c.rep m).num,DD⟩) (v:=vS) (HRA.same hW) (show c.net.length≤200 from hok.netL) ((HVz.kept HFz zhl).kept (S:=fun _=>False) (zdJ hW) id)
 refine hp.mono fun e w' ⟨h1,K',col',h2,h3⟩=>⟨h1,K',col',by rw [HSN];exact h2,(HFF.trans (zdJ hW)).trans h3.out⟩
def goesE (bp:Bool)(ak q:Nat)(e:Pe):Bool:=decide (ak<e.num) && !(bp && decide (e.org=q))
def sendE (bp:Bool)(ak q:Nat)(es:List Pe):List At:=((es.filter (goesE bp ak q)).map (·.d)).flatten
theorem zk9 {bp:Bool}{ak k i:Nat}{ts:List Pe}(h:i<ts.length)(hg:goesE bp ak k ts[i]=true):sendE bp ak k (ts.take (i+1))=sendE bp ak k (ts.take i) ++ ts[i].d:=by
 rw [List.take_succ_eq_append_getElem h,sendE,sendE,List.filter_append,List.filter_cons_of_pos hg]
 simp
theorem zk8 {bp:Bool}{ak k i:Nat}{ts:List Pe}(h:i<ts.length)(hg:goesE bp ak k ts[i]=false):sendE bp ak k (ts.take (i+1))=sendE bp ak k (ts.take i):=by
 rw [List.take_succ_eq_append_getElem h,sendE,sendE,List.filter_append,List.filter_cons_of_neg (by simp [hg])]
 simp
theorem zk5 {bp:Bool}{k:Nat}{es:List Pe}{p:Rep}(h:es.map Pe.ent=p.buf):sendE bp (p.acked.getD k 0) k es=((p.toSend bp k).map (·.d)).flatten:=by
 unfold sendE Rep.toSend
 rw [← h,List.filter_map,List.map_map]
 rfl
theorem zk6 {bp:Bool}{ak k M:Nat}:∀ {es:List Pe},(∀ t∈es,t.d.length≤M)→(sendE bp ak k es).length≤es.length*M
 | [],_=>by simp [sendE]
 | t :: es,h=>by
  have ih:=zk6 (bp:=bp) (ak:=ak) (k:=k) (M:=M) (es:=es) (fun x hx=>h x (List.mem_cons_of_mem _ hx))
  have e:(t :: es).length*M=es.length*M+M:=by rw [List.length_cons,Nat.succ_mul]
  rw [e]
  unfold sendE at ih ⊢
  rw [List.filter_cons]
  have:=h t (List.mem_cons_self ..)
  split
  ·simp only [List.map_cons,List.flatten_cons,List.length_append]
   omega
  ·omega
theorem zk7 {bp:Bool}{ak k:Nat}{es:List Pe}{a:At}(h:a∈sendE bp ak k es):∃ e∈es,a∈e.d:=by
 unfold sendE at h
 obtain ⟨l,hl,ha⟩:=List.mem_flatten.1 h
 obtain ⟨e,he,rfl⟩:=List.mem_map.1 hl
 exact ⟨e,(List.mem_filter.1 he).1,ha⟩
set_option maxRecDepth 100000 in
theorem zja (R i q:Nat)(bp:Bool)(D:PrD)(w:World)(hT:RulesAt w)(hc:Cells14 w R i D)(hq:q<6)(hst:StMap w D.b D.n D.M)(hmm:MayMap D.M)(hbn:D.n≤8388608)
  (hrow:w.ownsRow 0 85 3 D.vb D.es.length (D.es.flatMap Pe.cells)) (hd:∀ e∈D.es,SliceOf w e.v e.d) (hl:∀ e∈D.es,e.d.length≤131072) (hmay:∀ e∈D.es,∀ a∈e.d,mayB a=true) (hn:D.es.length≤9) :
  Calls Tryz.prog 78 #[.pointer (some ⟨R,i*14,none⟩),.int .i64 q,.bool bp] w fun e w' => ∃ v out,e = .returned (.tuple #[.int .i64 (if D.ak q<D.base then 2 else 1),v])∧w'.ownsRow w.heap.size 76 6 v out.length (flat out)∧Hid (TellOf (if D.ak q<D.base then D.M else addTo (fun _=>none) (sendE bp (D.ak q) q D.es)) out)∧Below w.heap.size w w' := by
 have c2:=hc.c2
 have c3:=hc.c3
 have c4:=hc.c4
 have ca:=hc.ak q hq
 have e5:i*14+(5+q)=i*14+5+q:=by omega
 rw [e5] at ca
 have hqi:(q:Int)<6:=by omega
 have hq0:(0:Int)≤q:=by omega
 have hR:R<w.heap.size:=World.block_lt_of_cell? w ⟨R,i*14+2,none⟩ c2
 have HT:=Hid.mk hT
 by_cases hlt:D.ak q<D.base
 ·have hlt' : (D.ak q:Int)<(D.base:Int):=by omega
  rw [if_pos hlt,if_pos hlt]
  have HTL:Hid (∀ W,Below w.heap.size w W→_):=fun W hW=>zmo D.b D.n D.M W (hT.below hW hT.1) (hst.block (hW.block _ hst.lt)) hmm hbn
  clear hT hc hst hmm hrow hd hl hmay
  go_enter Tryz.func78,Tryz.ntmps78
  go_wp2
  go_quiet (fail)
  go_wp2_with fail
  refine (HTL.out _ (below_drewN (Below.refl _ _) _)).mono ?_
  rintro e w1 ⟨v1,out,rfl,ho,htl,hb1⟩
  obtain ⟨ad1,cp1,hv1⟩:=zh1 ho
  subst hv1
  have HO:=Hid.mk ho
  have HB1:=Hid.mk ((below_drewN (Below.refl _ w) nq).trans hb1)
  clear ho hb1
  go_wp2
  go_ret2
  exact ⟨_,out,by rfl,HO.out,htl,HB1.out⟩
 ·have hlt' : (D.base:Int)≤(D.ak q:Int):=by omega
  rw [if_neg hlt,if_neg hlt]
  obtain ⟨ad,cap,hv⟩:=zh1 hrow
  rw [hv] at c4 hrow
  have HROW:=Hid.mk hrow
  have HD:=Hid.mk hd
  have HL:=Hid.mk hl
  have HMY:=Hid.mk hmay
  have HMM:Hid (∀ l:List At,(∀ a∈l,mayB a=true)→MayMap (addTo (fun _=>none) l)):=fun l hl=>(zeV l).mayMap hl
  clear hT hst hmm hrow hd hl hmay hv hc
  generalize D.ak q=ak at *
  generalize D.es=es at *
  generalize hbs:D.base=bs at *
  have hmk:=@run_makeMap Tryz.prog
  go_enter Tryz.func78,Tryz.ntmps78
  have h4:∀ k,((w.drewN k).alloc (.map #[] 0)).cell? ⟨R,i*14+4,none⟩=some (.slice ad es.length cap):=fun k=>((zaO (below_drewN (Below.refl _ w) k) _).cell (p:=⟨R,i*14+4,none⟩) hR).trans c4
  have HBA:Hid (∀ k,Below w.heap.size w ((w.drewN k).alloc (.map #[] 0))):=fun k=>zaO (below_drewN (Below.refl _ w) k) _
  have HMA:Hid (∀ k,StMap ((w.drewN k).alloc (.map #[] 0)) w.heap.size 0 (fun _=>none)):=fun k=>zlW (w.drewN k)
  go_wp2
  go_quiet (fail)
  go_wp2
  have HB0:=Hid.mk (HBA.out nq)
  have HM0:=Hid.mk (HMA.out nq)
  clear HBA HMA h4
  generalize (w.drewN nq).alloc (.map #[] 0)=w0 at *
  go_loopw [34] (fun s wr=>∃ k:Nat,k≤es.length∧s = .int .i64 k∧Hid (Below w.heap.size w wr∧StMap wr w.heap.size (sendE bp ak q (es.take k)).length (addTo (fun _=>none) (sendE bp ak q (es.take k))))) (fun s _=>es.length - (intOf s).toNat)
  case atStart=>exact ⟨0,Nat.zero_le _,rfl,HB0.out,HM0.out⟩
  case round =>
   obtain ⟨k,hk,rfl,hst⟩:=hrel
   have hwr:=hst.out.1
   have x5:=(hwr.cell (p:=⟨R,i*14+5+q,none⟩) hR).trans ca
   have hRr:=Nat.lt_of_lt_of_le hR hwr.size
   have hRn:R ≠ wr.heap.size:=by omega
   have hRn2:¬ wr.heap.size=R:=by omega
   have hsl:=zk6 (bp:=bp) (ak:=ak) (k:=q) (M:=131072) (es:=es.take k) (fun t ht=>HL.out t (List.mem_of_mem_take ht))
   have htk:(es.take k).length≤9:=by rw [List.length_take];omega
   by_cases hkl:k<es.length
   ·obtain ⟨g,rfl,hg,d0,d1,d2⟩:=zcV HROW.out hkl
    have e0:=(hwr.cell (p:=⟨g,k*3,none⟩) hg).trans d0
    have e1:=(hwr.cell (p:=⟨g,k*3+1,none⟩) hg).trans d1
    have e2:=(hwr.cell (p:=⟨g,k*3+2,none⟩) hg).trans d2
    have hgr:=Nat.lt_of_lt_of_le hg hwr.size
    have hmem:=List.getElem_mem hkl
    have HSD:=Hid.mk (HD.out _ hmem)
    have htl:=HL.out _ hmem
    have HMD:=Hid.mk (HMY.out _ hmem)
    have hYN:Hid (∀ b,goesE bp ak q es[k]=b→sendE bp ak q (es.take (k+1))=if b then sendE bp ak q (es.take k) ++ es[k].d else sendE bp ak q (es.take k)):=fun b hb=>by
     cases b
     ·exact zk8 hkl hb
     ·exact zk9 hkl hb
    clear hmem d0 d1 d2
    generalize es[k]=t at *
    obtain ⟨tn,tg,tv,td⟩:=t
    simp only [goesE] at hYN
    simp only at e0 e1 e2 HSD htl HMD
    obtain ⟨adv,cpv,hrv,-⟩:=id HSD.out
    subst hrv
    have hkl' : (k:Int)<(es.length:Int):=by omega
    have hk0:(0:Int)≤(k:Int):=by omega
    have hBe:∀ n,Below w.heap.size w ((wr.alloc (.cells #[.int .i64 tn,.int .i64 tg,.slice adv td.length cpv] 85)).drewN n):=fun n=>below_drewN (zaO hwr _) n
    have hBr:∀ n,Below wr.heap.size wr ((wr.alloc (.cells #[.int .i64 tn,.int .i64 tg,.slice adv td.length cpv] 85)).drewN n):=fun n=>below_drewN (zaO (Below.refl _ _) _) n
    have HAD:Hid (∀ n,Calls Tryz.prog 110 #[.map (some w.heap.size),.slice adv td.length cpv] ((wr.alloc (.cells #[.int .i64 tn,.int .i64 tg,.slice adv td.length cpv] 85)).drewN n) fun e w' => e = .returned (.tuple #[])∧StMap w' w.heap.size ((sendE bp ak q (es.take k)).length+td.length) (addTo (addTo (fun _=>none) (sendE bp ak q (es.take k))) td)∧((wr.alloc (.cells #[.int .i64 tn,.int .i64 tg,.slice adv td.length cpv] 85)).drewN n).grownBy w' (some w.heap.size)):=fun n=>zan _ td w.heap.size _ _ _ (HT.out.below (hBe n) HT.out.1) (hst.out.2.block ((hBr n).block _ hst.out.2.lt)) (HSD.out.below (hBe n)) HMD.out (by omega)
    have HNO:Hid ((decide (ak<tn) && !(bp && decide (tg=q)))=false→∀ n,Hid (Below w.heap.size w ((wr.alloc (.cells #[.int .i64 tn,.int .i64 tg,.slice adv td.length cpv] 85)).drewN n)∧StMap ((wr.alloc (.cells #[.int .i64 tn,.int .i64 tg,.slice adv td.length cpv] 85)).drewN n) w.heap.size (sendE bp ak q (es.take (k+1))).length (addTo (fun _=>none) (sendE bp ak q (es.take (k+1)))))):=fun hgo n=>by
     have e:=hYN.out false hgo
     simp only [Bool.false_eq_true,if_false] at e
     rw [e]
     exact ⟨hBe n,hst.out.2.block ((hBr n).block _ hst.out.2.lt)⟩
    have HYS:Hid ((decide (ak<tn) && !(bp && decide (tg=q)))=true→∀ (w4:World) (n:Nat),StMap w4 w.heap.size ((sendE bp ak q (es.take k)).length+td.length) (addTo (addTo (fun _=>none) (sendE bp ak q (es.take k))) td)→((wr.alloc (.cells #[.int .i64 tn,.int .i64 tg,.slice adv td.length cpv] 85)).drewN n).grownBy w4 (some w.heap.size)→Hid (Below w.heap.size w w4∧StMap w4 w.heap.size (sendE bp ak q (es.take (k+1))).length (addTo (fun _=>none) (sendE bp ak q (es.take (k+1)))))):=fun hgo w4 n h1 h2=>by
     have e:=hYN.out true hgo
     simp only [if_true] at e
     rw [e,List.length_append,zal]
     exact ⟨(hBe n).grown h2 (hBe n).size (fun q hq=>by cases hq;exact Nat.le_refl _),h1⟩
    clear hst hYN HSD HMD hBe hBr hwr HL HMY HD
    generalize hsn:sendE bp ak q (es.take k)=sl at *
    cases bp with
    | false =>
     by_cases hnn:(ak:Int)<(tn:Int)
     ·have HY:=Hid.mk (HYS.out (by simp;omega))
      clear HNO HYS
      go_wp2
      go_quiet (fail)
      go_wp2_with fail
      refine (HAD.out nq).mono ?_
      rintro e w4 ⟨rfl,hst4,hg4⟩
      have HX:=Hid.mk (HY.out w4 nq hst4 hg4)
      clear hst4 hg4
      go_wp2
      exact ⟨⟨k+1,by omega,by go_num,HX.out⟩,by simp [intOf];omega⟩
     ·have HX:=Hid.mk (HNO.out (by simp;omega))
      have hnn' : (tn:Int)≤(ak:Int):=by omega
      clear HNO HYS HAD
      go_wp2
      have hd:decide ((ak:Int)<(tn:Int))=false:=by simpa using hnn'
      have hd2:decide (ak<tn)=false:=by simp;omega
      have hd3:¬ (ak:Int)<(tn:Int):=by omega
      go_quiet (fail)
      go_wp2
      exact ⟨⟨k+1,by omega,by go_num,HX.out nq⟩,by simp [intOf];omega⟩
    | true =>
     by_cases hgk:(tg:Int)=(q:Int)
     ·obtain rfl:tg=q:=by omega
      have HX:=Hid.mk (HNO.out (by simp))
      clear HNO HYS HAD
      by_cases hnn:(ak:Int)<(tn:Int)
      ·go_wp2
       go_quiet (fail)
       go_wp2
       exact ⟨⟨k+1,by omega,by go_num,HX.out nq⟩,by simp [intOf];omega⟩
      ·have hnn' : (tn:Int)≤(ak:Int):=by omega
       go_wp2
       have hd:decide ((ak:Int)<(tn:Int))=false:=by simpa using hnn'
       have hd2:decide (ak<tn)=false:=by simp;omega
       have hd3:¬ (ak:Int)<(tn:Int):=by omega
       go_quiet (fail)
       go_wp2
       exact ⟨⟨k+1,by omega,by go_num,HX.out nq⟩,by simp [intOf];omega⟩
     ·by_cases hnn:(ak:Int)<(tn:Int)
      ·have HY:=Hid.mk (HYS.out (by
        have h1:¬ tg=q:=by omega
        have h2:ak<tn:=by omega
        simp [h1,h2]))
       clear HNO HYS
       go_wp2
       have hk2:decide ((tg:Int)=(q:Int))=false:=by simpa using hgk
       have hk3:decide (tg=q)=false:=by simp;omega
       have hk4:((tg:Int) == (q:Int))=false:=by simpa using hgk
       go_quiet (fail)
       go_wp2_with fail
       refine (HAD.out nq).mono ?_
       rintro e w4 ⟨rfl,hst4,hg4⟩
       have HX:=Hid.mk (HY.out w4 nq hst4 hg4)
       clear hst4 hg4
       go_wp2
       exact ⟨⟨k+1,by omega,by go_num,HX.out⟩,by simp [intOf];omega⟩
      ·have HX:=Hid.mk (HNO.out (by
        have h2:¬ ak<tn:=by omega
        simp [h2]))
       have hnn' : (tn:Int)≤(ak:Int):=by omega
       clear HNO HYS HAD
       go_wp2
       have hd:decide ((ak:Int)<(tn:Int))=false:=by simpa using hnn'
       have hd2:decide (ak<tn)=false:=by simp;omega
       have hd3:¬ (ak:Int)<(tn:Int):=by omega
       go_quiet (fail)
       go_wp2
       exact ⟨⟨k+1,by omega,by go_num,HX.out nq⟩,by simp [intOf];omega⟩
   ·have hke:k=es.length:=by omega
    subst hke
    have hkl' : ¬ (es.length:Int)<(es.length:Int):=by omega
    rw [List.take_of_length_le (Nat.le_refl _)] at hst hsl
    have HTL:=Hid.mk (zmo w.heap.size _ _ wr (HT.out.below hwr HT.out.1) hst.out.2 (HMM.out _ (fun a ha=>by obtain ⟨e,he,hae⟩:=zk7 ha;exact HMY.out e he a hae)) (by omega))
    have HW:=Hid.mk hwr
    clear hst hwr
    go_wp2_with fail
    refine HTL.out.mono ?_
    rintro e w1 ⟨v1,out,rfl,ho,htl,hb1⟩
    obtain ⟨ad1,cp1,hv1⟩:=zh1 ho
    subst hv1
    have HO:=Hid.mk (zic ho HW.out.size)
    have HB1:=Hid.mk (HW.out.trans (hb1.mono HW.out.size))
    clear ho hb1 HTL
    go_wp2
    go_ret2
    exact ⟨_,out,by rfl,HO.out,htl,HB1.out⟩
theorem setD_n {K:PrK}{D:PrD}{m:Nat}{hm:m<K.Ds.length}(h:∀ i (h:i<K.Ds.length),(K.Ds[i]).n≤4194304)(hD:D.n=(K.Ds[m]).n):∀ i (h:i<(K.setD m D).Ds.length),((K.setD m D).Ds[i]).n≤4194304:=by
 intro j hj
 by_cases e:j=m
 ·subst e
  rw [K.setD_at,hD]
  exact h j hm
 ·have hj' : j<K.Ds.length:=by rw [← K.setD_len m D];exact hj
  have h1:(K.setD m D).Ds[j]=K.Ds[j]:=List.getElem_set_ne (fun e' => e e'.symm) _
  rw [h1]
  exact h j hj'
theorem zjv {w w3:World}{col:Col}{o x N m q:Nat}{U:List At}{K:PrK}{c:Clu}{vS:Value}{DD:List At}{kd:Nat}(h:PrgAt w col o x K c)(hok:c.ok U N)(hm:m<c.reps.length)
  (hZ:Below (w.setCell ⟨x,0,none⟩ (.int .i32 1)).heap.size (w.setCell ⟨x,0,none⟩ (.int .i32 1)) w3) (hO:w3.ownsRow (w.setCell ⟨x,0,none⟩ (.int .i32 1)).heap.size 76 6 vS DD.length (flat DD)) (hfr:(c.rep m).frame c.bp m q=⟨kd,m,q,(c.rep m).num,DD⟩) :
  (∀ W,Below ((w3.setCell ⟨K.R,m*14+12,none⟩ (.int .i64 (((c.rep m).frames:Int)+1))).setCell ⟨K.R,m*14+13,none⟩ (.int .i64 (((c.rep m).weight:Int)+DD.length))).heap.size ((w3.setCell ⟨K.R,m*14+12,none⟩ (.int .i64 (((c.rep m).frames:Int)+1))).setCell ⟨K.R,m*14+13,none⟩ (.int .i64 (((c.rep m).weight:Int)+DD.length))) W →
   Calls Tryz.prog 79 #[.pointer (some ⟨x,0,none⟩),.agg #[.int .i64 kd,.int .i64 m,.int .i64 q,.int .i64 (c.rep m).num,vS]] W fun e w' => e = .returned (.tuple #[])∧w'.cell? ⟨x,0,none⟩=some (.int .i32 1)∧w'.frozen? ⟨x,0,none⟩=false∧∃ K' col',Hid (PrgAt (w'.setCell ⟨x,0,none⟩ (.int .i32 0)) col' o x K' (c.sent m q))∧Hid (FrC (ofOwn o) col col' w (w'.setCell ⟨x,0,none⟩ (.int .i32 0)))):=by
 intro W hW
 have hm' : m<K.Ds.length:=by rw [h.is.len];exact hm
 obtain ⟨k1,k2⟩:=h.locked
 have hD:=h.is.reps m hm'
 have hI:=(PrAt.inside k1 (by show K.Ds.length≤6;rw [h.is.len];exact hok.n6) hm').below hZ (o,1)
 have HV:Held w3 (paint col (w.setCell ⟨x,0,none⟩ (.int .i32 1)).heap.size (o,1)) (o,1) vS DD:=zeP rfl hO
 have f3:=k2.trans (zdH (S:=ofOwn o) hZ (o,1))
 generalize paint col (w.setCell ⟨x,0,none⟩ (.int .i32 1)).heap.size (o,1)=col3 at *
 obtain ⟨i1,g1⟩:=hI.put (k:=12) (u := .int .i64 (((c.rep m).frames:Int)+1)) (by omega) { K.Ds[m] with frames:=(c.rep m).frames+1 } (by simp [PrD.cells]) rfl rfl rfl rfl rfl rfl rfl
 obtain ⟨i2,g2⟩:=i1.put (k:=13) (u := .int .i64 (((c.rep m).weight:Int)+DD.length)) (by omega) { K.Ds[m] with frames:=(c.rep m).frames+1,weight:=(c.rep m).weight+DD.length } (by simp [PrD.cells]) rfl rfl rfl rfl rfl rfl rfl
 have g12:=g1.trans g2
 have hA:=i2.close.same hW
 have hV2:=(HV.kept g12 (zhj (Nat.lt_of_lt_of_le hm hok.n6))).kept (S:=fun _=>False) (zdJ hW) id
 have hl200:K.ns.length≤200:=by rw [h.lenN];exact hok.netL
 have hp:=zi5 (f:=⟨kd,m,q,(c.rep m).num,DD⟩) (v:=vS) hA hl200 hV2
 refine hp.mono ?_
 rintro e w' ⟨rfl,v',ns',col',p1,p2,p3⟩
 obtain ⟨u0,u1,u2,u3⟩:=PrB.unlock (K:=(K.setD m { K.Ds[m] with frames:=(c.rep m).frames+1,weight:=(c.rep m).weight+DD.length }).setN v' ns') p1.out h.is.lk
 refine ⟨rfl,u0,u1,(K.setD m { K.Ds[m] with frames:=(c.rep m).frames+1,weight:=(c.rep m).weight+DD.length }).setN v' ns',col',⟨u2,?_,?_⟩,(((f3.trans (g12.mono zhi)).trans (zdJ hW)).trans (p3.out.mono zgS)).trans (u3.mono zhh)⟩
 ·have hs:c.sent m q=(c.setRep m { c.rep m with frames:=(c.rep m).frames+1,weight:=(c.rep m).weight+DD.length }).put ⟨kd,m,q,(c.rep m).num,DD⟩:=by unfold Clu.sent;rw [hfr]
  rw [hs,zjA]
  have hset:=h.is.set (i:=m) (p:={ c.rep m with frames:=(c.rep m).frames+1,weight:=(c.rep m).weight+DD.length }) (D:={ K.Ds[m] with frames:=(c.rep m).frames+1,weight:=(c.rep m).weight+DD.length }) hm ⟨hD.up,hD.num,hD.base,hD.M,hD.buf,hD.ak,hD.bytes,rfl,rfl⟩
  exact hset.setN (by rw [p2.out];show putN (K.ns.map Fm.f) _=_;rw [h.is.nets];rfl)
 ·exact setD_n h.n rfl
theorem zla {c:Clu}{r q:Int}(h:c.there r=false∨c.there q=false):c.sendErr r q=5∧c.send r q=c:=by
 have e:c.sendErr r q=5:=by unfold Clu.sendErr;rw [if_pos h]
 exact ⟨e,by unfold Clu.send;rw [e];rfl⟩
theorem zlb {c:Clu}{m q:Nat}(hm:m<c.reps.length)(hq:q<c.reps.length):c.sendErr m q=(if c.near m q=false then 7 else if (c.rep m).down then 8 else 0)∧c.send m q=if c.sendErr m q=0 then c.sent m q else c:=by
 refine ⟨?_,rfl⟩
 unfold Clu.sendErr
 rw [if_neg (by simp [Clu.there];omega)]
 rfl
set_option maxRecDepth 100000 in
theorem zjh {w:World}{col:Col}{o x N:Nat}{U:List At}{K:PrK}{c:Clu}(h:PrgAt w col o x K c)(ho:o ≠ 0)(hT:Tab w col)(hok:c.ok U N)(hL:Lim U N)(r q:Int) :
  Calls Tryz.prog 32 #[.pointer (some ⟨x,0,none⟩),.int .i64 r,.int .i64 q] w fun e w' => e = .returned (.int .i64 (c.sendErr r q))∧∃ K' col',Hid (PrgAt w' col' o x K' (c.send r q))∧Hid (FrC (ofOwn o) col col' w w'):=by
 have hcl:=h.at_.clAt h.is.lk
 obtain ⟨k1,k2⟩:=h.locked
 have HK:=zeT h
 by_cases hth:c.there r=false∨c.there q=false
 ·obtain ⟨e1,e2⟩:=zla hth
  rw [e1,e2]
  have HS:=Hid.mk (zjj k1 r q (by
   have hl:({ K with lk:=1 }:PrK).Ds.length=c.reps.length:=h.is.len
   rw [hl]
   simpa [Clu.there] using hth))
  clear h hT hok hL k1 k2 e1 e2 hth
  go_enter_defers Tryz.func32,Tryz.ntmps32
  go_wp2_with (go_at_call 44;refine (lock_free zgD ⟨x,0,none⟩ _ hcl.c0 hcl.f0).mono ?_;rintro e w' ⟨rfl,rfl⟩)
  refine HS.out.mono ?_
  rintro e w2 ⟨hb2,rfl⟩
  rw [zgb] at hb2
  go_wp2
  refine leaves_cons (f:=45) (args:=#[.pointer (some ⟨x,0,none⟩)]) (by simp) (by simp [go_sem]) ?_
  obtain ⟨u0,u1,u2⟩:=hcl.unlock hb2
  refine (unlock_deferred zgD ⟨x,0,none⟩ .returning _ u0 u1).mono ?_
  rintro e u' w'' ⟨rfl,rfl,rfl⟩
  exact ⟨_,results_tmp rfl _ _ _,rfl,K,col,HK.out.same u2,zdJ u2⟩
 ·obtain ⟨m,rfl⟩:∃ m:Nat,r=m:=⟨r.toNat,by simp [Clu.there] at hth;omega⟩
  obtain ⟨k,rfl⟩:∃ k:Nat,q=k:=⟨q.toNat,by simp [Clu.there] at hth;omega⟩
  have hm:m<c.reps.length:=by simp [Clu.there] at hth;omega
  have hk:k<c.reps.length:=by simp [Clu.there] at hth;omega
  have hn6:=hok.n6
  have hm' : m<K.Ds.length:=by rw [h.is.len];exact hm
  have hk' : k<K.Ds.length:=by rw [h.is.len];exact hk
  obtain ⟨e1,e2⟩:=zlb hm hk
  have hD:=h.is.reps m hm'
  have hrep:=hok.rep hm
  have hup:(K.Ds[m]).up = !(c.rep m).down:=hD.up
  have HS:=Hid.mk (zji k1 (by show K.Ds.length≤6;rw [h.is.len];exact hn6) m k hm' hk')
  have hnr:K.near m k=c.near m k:=h.is.near m k (by omega) (by omega)
  have hS2:Hid (Calls Tryz.prog 77 #[.pointer (some ⟨x,0,none⟩),.int .i64 m,.int .i64 k] (w.setCell ⟨x,0,none⟩ (.int .i32 1)) fun e w' => Below (w.setCell ⟨x,0,none⟩ (.int .i32 1)).heap.size (w.setCell ⟨x,0,none⟩ (.int .i32 1)) w' ∧ e = .returned (.tuple #[.pointer (if c.sendErr m k=0 then some ⟨K.R,m*14,none⟩ else none),.int .i64 (c.sendErr m k)])):=by
   refine HS.out.mono fun e w' ⟨a1,a2⟩=>⟨a1,?_⟩
   rw [a2,e1]
   show Ending.returned (.tuple #[.pointer (if K.near m k=true∧(K.Ds[m]).up=true then some ⟨K.R,m*14,none⟩ else none),.int .i64 (if K.near m k=false then 7 else if (K.Ds[m]).up=true then 0 else 8)])=_
   rw [hnr,hup]
   cases c.near m k <;> cases (c.rep m).down <;> rfl
  clear HS
  by_cases he:c.sendErr m k=0
  ·have hT1:=hT.kept k2 (fun e=>ho e.symm)
   have hmay:∀ a∈(c.rep m).atoms,mayB a=true:=fun a ha=>hok.may a (hrep.sub a ha)
   have hbuf:∀ e∈(K.Ds[m]).es,e.d.length≤131072∧∀ a∈e.d,mayB a=true:=fun e he=>by
    have hin:e.ent∈(c.rep m).buf:=by rw [← hD.buf];exact List.mem_map_of_mem he
    obtain ⟨h1,h2,-⟩:=hrep.buf _ hin
    exact ⟨Nat.le_trans (h1.length h2) hL.2,fun a ha=>hok.may a (h2 a ha)⟩
   have hes:(K.Ds[m]).es.length≤9:=by
    have:=hrep.bufL
    rw [← hD.buf,List.length_map] at this
    have:=hok.room8
    omega
   obtain ⟨F,HF⟩:∃ F,Hid ((c.rep m).frame c.bp m k=F):=⟨_,rfl⟩
   have hFh:=zdN (c.rep m) c.bp m k
   rw [HF.out] at hFh
   have hFl:F.d.length≤131072:=by
    have hfo:=zdP hok (r:=m) (q:=k) hm hk
    rw [HF.out] at hfo
    exact Nat.le_trans (hfo.told.length hfo.sub) hL.2
   have HNW:Hid (∀ W,Below (w.setCell ⟨x,0,none⟩ (.int .i32 1)).heap.size (w.setCell ⟨x,0,none⟩ (.int .i32 1)) W→Calls Tryz.prog 78 #[.pointer (some ⟨K.R,m*14,none⟩),.int .i64 k,.bool K.bp] W fun e w' => ∃ v,e = .returned (.tuple #[.int .i64 F.kind,v])∧w'.ownsRow W.heap.size 76 6 v F.d.length (flat F.d)∧Below W.heap.size W w'):=fun W hW=>by
    have kW:=k1.same hW
    have pW:=kW.reps m hm' (by simp)
    refine (zja K.R m k K.bp K.Ds[m] W (hT1.below hW).rules (kW.cells hm') (by omega) pW.st (by rw [hD.M];exact (zeV _).mayMap hmay) (by have:=h.n m hm';omega) pW.buf.own (fun e he=>(pW.ed e he).slice) (fun e he=>(hbuf e he).1) (fun e he=>(hbuf e he).2) hes).mono ?_
    rintro e w' ⟨v,out,rfl,ho',ht,hb⟩
    have hak:(K.Ds[m]).ak k=(c.rep m).acked.getD k 0:=hD.ak k (by omega)
    have hFF:F=if (c.rep m).acked.getD k 0<(c.rep m).base then ⟨2,m,k,(c.rep m).num,tell (c.rep m).atoms⟩ else ⟨1,m,k,(c.rep m).num,tell ((((c.rep m).toSend c.bp k).map (·.d)).flatten)⟩:=HF.out.symm
    have ht:=ht.out
    rw [hak,hD.base,h.is.bp] at ht
    rw [hak,hD.base]
    by_cases hlt:(c.rep m).acked.getD k 0<(c.rep m).base
    ·rw [if_pos hlt] at hFF ht ⊢
     rw [hD.M] at ht
     have:=zmn hmay ht
     subst this hFF
     exact ⟨v,rfl,ho',hb⟩
    ·rw [if_neg hlt] at hFF ht ⊢
     have hmy:∀ a∈sendE c.bp ((c.rep m).acked.getD k 0) k (K.Ds[m]).es,mayB a=true:=fun a ha=>by obtain ⟨e,he,hae⟩:=zk7 ha;exact (hbuf e he).2 a hae
     have:=zmn hmy ht
     rw [zk5 hD.buf] at this
     subst this hFF
     exact ⟨v,rfl,ho',hb⟩
   have HC3:Hid (∀ W,Below (w.setCell ⟨x,0,none⟩ (.int .i32 1)).heap.size (w.setCell ⟨x,0,none⟩ (.int .i32 1)) W→W.cell? ⟨x,2,none⟩=some (.bool K.bp)∧W.cell? ⟨K.R,m*14+1,none⟩=some (.int .i64 (c.rep m).num)∧W.cell? ⟨K.R,m*14+12,none⟩=some (.int .i64 (c.rep m).frames)∧W.cell? ⟨K.R,m*14+13,none⟩=some (.int .i64 (c.rep m).weight)∧(∀ j,W.frozen? ⟨K.R,j,none⟩=false)∧K.R<W.heap.size∧x<W.heap.size∧x ≠ K.R):=fun W hW=>by
    have kW:=k1.same hW
    have cW:=kW.cells hm'
    refine ⟨kW.cl.2.1,?_,?_,?_,cW.fz,zaY kW.row,zaY kW.blk,kW.xR⟩
    ·rw [← hD.num];exact cW.c1
    ·rw [← hD.frames];exact cW.c12
    ·rw [← hD.weight];exact cW.c13
   have HTA:Hid (∀ w3 vS,Below (w.setCell ⟨x,0,none⟩ (.int .i32 1)).heap.size (w.setCell ⟨x,0,none⟩ (.int .i32 1)) w3→w3.ownsRow (w.setCell ⟨x,0,none⟩ (.int .i32 1)).heap.size 76 6 vS F.d.length (flat F.d)→_):=fun w3 vS hZ hO=>zjv (q:=k) (kd:=F.kind) h hok hm hZ hO (by rw [HF.out];obtain ⟨a,b,c,d,e⟩:=F;obtain ⟨x1,x2,x3,-⟩:=hFh;simp only at x1 x2 x3;rw [x1,x2,x3])
   rw [if_pos he] at e2 hS2
   rw [e2,he]
   rw [he] at hS2
   have hfrN:=hrep.fr
   have hwtN:=Nat.le_trans hrep.wt (Nat.mul_le_mul hL.1 hL.2)
   have hLN:=hL.1
   clear h hT hok hL k1 k2 e1 e2 hth hD hrep hup hnr HK hT1 hmay hbuf hes HF hFh
   generalize (c.rep m).frames=fr at *
   generalize (c.rep m).weight=wt at *
   generalize (c.rep m).num=nm at *
   generalize F.kind=fk at *
   generalize F.d=fd at *
   go_enter_defers Tryz.func32,Tryz.ntmps32
   go_wp2_with (go_at_call 44;refine (lock_free zgD ⟨x,0,none⟩ _ hcl.c0 hcl.f0).mono ?_;rintro e w' ⟨rfl,rfl⟩)
   refine hS2.out.mono ?_
   rintro e w2 ⟨hb2,rfl⟩
   obtain ⟨z2,-,-,-,-,-,zx,-⟩:=HC3.out w2 hb2
   go_wp2_with fail
   refine (HNW.out _ hb2).mono ?_
   rintro e w3 ⟨v3,rfl,ho3,hb3⟩
   have hb23:=hb2.trans (hb3.mono hb2.size)
   obtain ⟨ad3,cp3,hv3⟩:=zh1 ho3
   subst hv3
   obtain ⟨-,y1,y12,y13,yf,yR,yx,yne⟩:=HC3.out w3 hb23
   have HPU:=Hid.mk (HTA.out w3 _ hb23 (zic ho3 hb2.size))
   have yf12:=yf (m*14+12)
   have yf13:=yf (m*14+13)
   clear ho3 hb3 hb2 hb23 HTA HNW HC3 hS2 yf z2 zx
   go_wp2_with fail
   refine (HPU.out _ (Below.refl _ _)).mono ?_
   rintro e w7 ⟨rfl,u0,u1,K7,col7,hR7,hF7⟩
   clear HPU
   go_wp2
   refine leaves_cons (f:=45) (args:=#[.pointer (some ⟨x,0,none⟩)]) (by simp) (by simp [go_sem]) ?_
   refine (unlock_deferred zgD ⟨x,0,none⟩ .returning _ u0 u1).mono ?_
   rintro e u' w'' ⟨rfl,rfl,rfl⟩
   exact ⟨_,results_tmp rfl _ _ _,rfl,K7,col7,hR7,hF7⟩
  ·rw [if_neg he] at e2
   rw [e2]
   rw [if_neg he] at hS2
   generalize c.sendErr m k=er at *
   clear h hT hok hL k1 k2 e1 e2 hth hD hrep hup hnr
   go_enter_defers Tryz.func32,Tryz.ntmps32
   go_wp2_with (go_at_call 44;refine (lock_free zgD ⟨x,0,none⟩ _ hcl.c0 hcl.f0).mono ?_;rintro e w' ⟨rfl,rfl⟩)
   refine hS2.out.mono ?_
   rintro e w2 ⟨hb2,rfl⟩
   rw [zgb] at hb2
   go_wp2
   refine leaves_cons (f:=45) (args:=#[.pointer (some ⟨x,0,none⟩)]) (by simp) (by simp [go_sem]) ?_
   obtain ⟨u0,u1,u2⟩:=hcl.unlock hb2
   refine (unlock_deferred zgD ⟨x,0,none⟩ .returning _ u0 u1).mono ?_
   rintro e u' w'' ⟨rfl,rfl,rfl⟩
   exact ⟨_,results_tmp rfl _ _ _,rfl,K,col,HK.out.same u2,zdJ u2⟩
end Go.Proofs.YtahdlejgjcjeoabGreatDoor
