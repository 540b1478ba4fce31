/- Walks of the document's cluster: Buffer. -/
import Derived.Test.YtahdlejgjcjeoabGreatDoorA16
import Derived.Test.YtahdlejgjcjeoabGreatDoorA08
import Derived.Deep.RegionHeldLaw
namespace Go.Proofs.YtahdlejgjcjeoabGreatDoor
set_option maxHeartbeats 8000000
open Go.RowKit
theorem zcR {d U:List At}(h:ToldMay d)(hs:∀ a∈d,a∈U)(hU:U.length≤131072):(encS d).length≤2752520:=by
 have hl:=h.length hs
 unfold encS
 rw [h.tell,List.length_append,zaL]
 have:=zcP d (fun a ha=>zdi (h.2 a ha))
 omega
def Two (w:World)(a b:Value)(wK:World):Prop:=wK.cell? ⟨w.heap.size,0,none⟩=some a∧wK.cell? ⟨w.heap.size,1,none⟩=some b∧Below w.heap.size w wK∧w.heap.size<wK.heap.size
theorem zm2 {w wK wN:World}{a b:Value}(h:wK.cell? ⟨w.heap.size,0,none⟩=some a∧wK.cell? ⟨w.heap.size,1,none⟩=some b∧Below w.heap.size w wK∧w.heap.size<wK.heap.size)(hb:Below wK.heap.size wK wN):wN.cell? ⟨w.heap.size,0,none⟩=some a∧wN.cell? ⟨w.heap.size,1,none⟩=some b∧Below w.heap.size w wN∧w.heap.size<wN.heap.size :=
 ⟨by rw [hb.cell (p:=⟨w.heap.size,0,none⟩) h.2.2.2];exact h.1,by rw [hb.cell (p:=⟨w.heap.size,1,none⟩) h.2.2.2];exact h.2.1,h.2.2.1.trans (hb.mono (by have:=h.2.2.2;omega)),Nat.lt_of_lt_of_le h.2.2.2 hb.size⟩
theorem zm1 {w wK:World}{a b:Value}(h:wK.cell? ⟨w.heap.size,0,none⟩=some a∧wK.cell? ⟨w.heap.size,1,none⟩=some b∧Below w.heap.size w wK∧w.heap.size<wK.heap.size):wK.drew.cell? ⟨w.heap.size,0,none⟩=some a∧wK.drew.cell? ⟨w.heap.size,1,none⟩=some b∧Below w.heap.size w wK.drew∧w.heap.size<wK.drew.heap.size :=
 ⟨h.1,h.2.1,h.2.2.1.drew,h.2.2.2⟩
set_option maxRecDepth 100000 in
theorem zjZ (kd nm:Nat)(v:Value)(d:List At)(bs:ByteArray)(w:World)(hv:SliceOf w v d)(ht:ToldMay d)(hlen:d.length≤131072)(hk:kd≤2)(hn:nm≤4294967296) :
  Calls Tryz.prog 66 #[.agg #[.int .i64 kd,.int .i64 nm,v,.bool false,.string bs]] w fun e w' => e = .returned (.string (bstr (recBytes ⟨kd,nm,d⟩)))∧Below w.heap.size w w' := by
 have HV:Hid (SliceOf w v d):=hv
 have HT:Hid (ToldMay d):=ht
 obtain ⟨ad,cp,rfl,-⟩:=hv
 clear ht
 go_enter Tryz.func66,Tryz.ntmps66
 go_wp2_with fail
 have hal:=zaO (Below.refl _ w) (.cells #[.int .i64 kd,.int .i64 nm,.slice ad d.length cp,.bool false,.string bs] 152)
 have hst:(w.alloc (.cells #[.int .i64 kd,.int .i64 nm,.slice ad d.length cp,.bool false,.string bs] 152)).cell? ⟨w.heap.size,0,none⟩=some (.int .i64 kd)∧(w.alloc (.cells #[.int .i64 kd,.int .i64 nm,.slice ad d.length cp,.bool false,.string bs] 152)).cell? ⟨w.heap.size,1,none⟩=some (.int .i64 nm)∧Below w.heap.size w (w.alloc (.cells #[.int .i64 kd,.int .i64 nm,.slice ad d.length cp,.bool false,.string bs] 152))∧w.heap.size<(w.alloc (.cells #[.int .i64 kd,.int .i64 nm,.slice ad d.length cp,.bool false,.string bs] 152)).heap.size:=⟨World.news_of_block (heap_alloc_new w _) 0 _ rfl,World.news_of_block (heap_alloc_new w _) 1 _ rfl,hal,by simp⟩
 generalize w.alloc (.cells #[.int .i64 kd,.int .i64 nm,.slice ad d.length cp,.bool false,.string bs] 152)=w0 at *
 refine (zmP _ d w0 (HV.out.below hal) (fun a ha=>zdj (HT.out.2 a ha)) (by omega)).mono ?_
 rintro e w1 ⟨v1,out,rfl,hown1,ht1,hb1⟩
 have hod:out=d:=ht1.out.unique HT.out.2 HT.out.1
 subst hod
 have hst1:=zm2 hst hb1
 have hcon:=zbi v1 out w1 (zlD rfl hown1) (fun a ha=>zdi (HT.out.2 a ha)) (by omega)
 have HE:Hid (encS out=be out.length 8 ++ encL out):=by unfold Hid encS;rw [HT.out.tell]
 rw [← HE.out] at hcon
 have hlS:(encS out).length≤8+21*out.length:=by
  rw [HE.out,List.length_append,zaL]
  have:=zcP out (fun a ha=>zdi (HT.out.2 a ha))
  omega
 have HRB:Hid (recBytes ⟨kd,nm,out⟩=(be kd 1 ++ (be nm 8 ++ (be (encS out).length 8 ++ encS out))) ++ be (adler (be kd 1 ++ (be nm 8 ++ (be (encS out).length 8 ++ encS out)))) 4):=rfl
 clear hst hal hb1 HE ht1
 go_wp2_with fail
 refine hcon.mono ?_
 rintro e w2 ⟨rfl,hb2⟩
 have hst2:=zm2 hst1 hb2
 clear hcon hst1 hb2 hown1
 generalize encS out=S at *
 have HC1:Hid (∀ W,Calls Tryz.prog 117 #[.int .i64 kd,.int .i64 1] W fun e w' => e = .returned (.string (bstr (be kd 1)))∧Below W.heap.size W w'):=fun W=>znQ 1 kd W (by omega) (by omega)
 have HC2:Hid (∀ W,Calls Tryz.prog 117 #[.int .i64 nm,.int .i64 8] W fun e w' => e = .returned (.string (bstr (be nm 8)))∧Below W.heap.size W w'):=fun W=>znQ 8 nm W (by omega) (by omega)
 have HC3:Hid (∀ W,Calls Tryz.prog 117 #[.int .i64 S.length,.int .i64 8] W fun e w' => e = .returned (.string (bstr (be S.length 8)))∧Below W.heap.size W w'):=fun W=>znQ 8 S.length W (by omega) (by omega)
 have hsS:=za8 S
 have hs1:(bstr (be kd 1)).size=1:=by rw [za8,zaL]
 have hs2:(bstr (be nm 8)).size=8:=by rw [za8,zaL]
 have hs3:(bstr (be S.length 8)).size=8:=by rw [za8,zaL]
 have HT1:Hid (bstr (be kd 1) ++ bstr (be nm 8) ++ bstr (be S.length 8) ++ bstr S=bstr (be kd 1 ++ (be nm 8 ++ (be S.length 8 ++ S)))):=by rw [Hid];simp only [za1,List.append_assoc]
 have hlT:(be kd 1 ++ (be nm 8 ++ (be S.length 8 ++ S))).length≤5000000:=by simp only [List.length_append,zaL];omega
 generalize hL:be kd 1 ++ (be nm 8 ++ (be S.length 8 ++ S))=L at *
 generalize bstr (be kd 1)=K1 at *
 generalize bstr (be nm 8)=K2 at *
 generalize bstr (be S.length 8)=K3 at *
 clear hL
 generalize hn:S.length=ns at *
 have HNS:Hid (S.length=ns):=hn
 generalize bstr S=K4 at *
 clear hn
 have hsa:∀ x y:ByteArray,(x ++ y).size=x.size+y.size:=fun x y=>by simp
 have p1:¬ 9223372036854775807<1+8:=by omega
 have p2:¬ 9223372036854775807<1+8+8:=by omega
 have p3:¬ 9223372036854775807<1+8+8+ns:=by omega
 go_wp2
 go_region_held3 (fun w' => w'.cell? ⟨w.heap.size,0,none⟩=some (.int .i64 kd)∧w'.cell? ⟨w.heap.size,1,none⟩=some (.int .i64 nm)∧Below w.heap.size w w' ∧ w.heap.size<w'.heap.size) (first | assumption | exact zm2 (by assumption) hbN | exact zm1 (by assumption) | go_keep) (first | (go_at_call 117;refine zbk (rfl:_=#[Value.int IntKind.i64 kd,Value.int IntKind.i64 1]) (HC1.out _) ?_;rintro e wN ⟨rfl,hbN⟩) | (go_at_call 117;refine zbk (rfl:_=#[Value.int IntKind.i64 nm,Value.int IntKind.i64 8]) (HC2.out _) ?_;rintro e wN ⟨rfl,hbN⟩) | (go_at_call 117;refine zbk (rfl:_=#[Value.int IntKind.i64 ns,Value.int IntKind.i64 8]) (HC3.out _) ?_;rintro e wN ⟨rfl,hbN⟩) | fail)
 obtain ⟨-,-,hfin,-⟩:wN.cell? ⟨w.heap.size,0,none⟩=some (.int .i64 kd)∧wN.cell? ⟨w.heap.size,1,none⟩=some (.int .i64 nm)∧Below w.heap.size w wN∧w.heap.size<wN.heap.size:=by assumption
 rw [HT1.out]
 clear HC1 HC2 HC3 hsa p1 p2 p3 hs1 hs2 hs3 hsS HT1
 have had:=zao L
 have HC4:Hid (∀ W,Calls Tryz.prog 117 #[.int .i64 (adler L),.int .i64 4] W fun e w' => e = .returned (.string (bstr (be (adler L) 4)))∧Below W.heap.size W w'):=fun W=>znQ 4 (adler L) W (by omega) (by omega)
 have HSM:Hid (∀ W,Calls Tryz.prog 118 #[.string (bstr L)] W fun e w' => e = .returned (.int .i64 (adler L))∧Below W.heap.size W w'):=fun W=>refSum L W (by omega)
 have hsz:=za8 L
 have hs4:(bstr (be (adler L) 4)).size=4:=by rw [za8,zaL]
 have HRB2:Hid (bstr (recBytes ⟨kd,nm,out⟩)=bstr L ++ bstr (be (adler L) 4)):=by rw [Hid,HRB.out,za1]
 clear HRB
 generalize bstr (be (adler L) 4)=K5 at *
 generalize adler L=ad5 at *
 generalize L.length=nl at *
 generalize bstr L=KL at *
 have p4:¬ 9223372036854775807<nl+4:=by omega
 have hsb:(KL ++ K5).size=KL.size+K5.size:=by simp
 go_wp2_with fail
 refine (HSM.out _).mono ?_
 rintro e w5 ⟨rfl,hb5⟩
 have hf5:=hfin.trans (hb5.mono hfin.size)
 clear HSM
 go_wp2_with fail
 refine (HC4.out _).mono ?_
 rintro e w6 ⟨rfl,hb6⟩
 clear HC4
 go_wp2
 go_ret
 exact ⟨by rw [HRB2.out];rfl,hf5.trans (hb6.mono hf5.size)⟩
set_option maxRecDepth 100000 in
theorem zks (kd nm:Nat)(ad:Option Addr)(n cp:Nat)(bs:ByteArray)(w:World) :
  Calls Tryz.prog 66 #[.agg #[.int .i64 kd,.int .i64 nm,.slice ad n cp,.bool true,.string bs]] w fun e w' => e = .returned (.string bs)∧Below w.heap.size w w' := by
 go_enter Tryz.func66,Tryz.ntmps66
 go_wp2_with fail
 go_ret
 exact ⟨rfl,zaO (Below.refl _ _) _⟩
def Rc.out (r:Rc):List UInt8:=if r.torn then r.bytes.data.toList else recBytes r.rec'
structure Rc.fine (r:Rc):Prop where
 told:r.torn=false→ToldMay r.d∧r.d.length≤131072∧r.kind≤2∧r.num≤4294967296
 len:r.out.length≤2752600
theorem LogIs.out {rs:List Rc}{p:Rep}(h:LogIs rs p):rs.flatMap Rc.out=logBytes p:=by
 obtain ⟨A,B,rfl,hA,hm,hB⟩:=h
 have h1:A.flatMap Rc.out=(p.log.map recBytes).flatten:=by
  rw [← hm,List.map_map,List.flatMap_def]
  congr 1
  apply List.map_congr_left
  intro r hr
  simp [Rc.out,hA r hr]
 unfold logBytes
 rw [List.flatMap_append,h1]
 congr 1
 rcases hB with ⟨rfl,ht⟩ | ⟨r,rfl,ht,hb,_⟩
 ·rw [ht];rfl
 ·simp [Rc.out,ht,hb,za3]
theorem LogIs.fine {U:List At}{N n room:Nat}{rs:List Rc}{p:Rep}(h:LogIs rs p)(hp:p.ok U N n room)(hL:Lim U N):(∀ r∈rs,r.fine)∧rs.length≤N+2:=by
 obtain ⟨A,B,rfl,hA,hm,hB⟩:=h
 have hlen:A.length=p.log.length:=by rw [← hm,List.length_map]
 have hN:=hL.1
 have hU:=hL.2
 have hlog:=hp.logL
 refine ⟨fun r hr => ?_,?_⟩
 ·rcases List.mem_append.1 hr with hr | hr
  ·have hin:r.rec' ∈ p.log:=by rw [← hm];exact List.mem_map_of_mem hr
   obtain ⟨h1,h2,h3,h4⟩:=hp.log _ hin
   have h1' : ToldMay r.d:=h1
   refine ⟨fun _=>⟨h1',Nat.le_trans (h1'.length h2) hU,by rcases h4 with e | e <;> (have:r.kind=_:=e;omega),by have:r.num≤N:=h3;omega⟩,?_⟩
   have:=zcR h1' h2 hU
   simp only [Rc.out,hA r hr]
   rw [if_neg (by simp),zjT]
   show 21+(encS r.d).length≤_
   omega
  ·rcases hB with ⟨rfl,_⟩ | ⟨r',rfl,ht,hb,hd⟩
   ·cases hr
   ·obtain rfl:=List.mem_singleton.1 hr
    refine ⟨(fun e=>by rw [ht] at e;cases e),?_⟩
    simp only [Rc.out,ht,if_true,hb,za3]
    rcases hp.torn with e | ⟨_,r2,k,h1,h2,h3,h4,h5,h6⟩
    ·rw [e];simp
    ·rw [h6,List.length_take,zjT]
     have:=zcR h1 h2 hU
     omega
 ·rw [List.length_append]
  rcases hB with ⟨rfl,_⟩ | ⟨r',rfl,_⟩ <;> simp <;> omega
theorem zjD (r:Rc):r.cells.length=5:=rfl
theorem zhU {l:List Rc}(h:∀ r∈l,r.fine):(l.flatMap Rc.out).length≤l.length*2752600:=by
 induction l with
 | nil=>simp
 | cons r l ih =>
  have h1:=(h r (by simp)).len
  have h2:=ih fun x hx=>h x (by simp [hx])
  rw [List.flatMap_cons,List.length_append,List.length_cons,Nat.add_mul]
  omega
set_option maxRecDepth 100000 in
theorem refLog {w:World}{col:Col}{o x N:Nat}{U:List At}{K:RefC}{c:Clu}(h:RefAt w col o x K c)(hok:c.ok U N)(hL:Lim U N)(r:Int) :
  Calls Tryz.prog 133 #[.pointer (some ⟨x,0,none⟩),.int .i64 r] w fun e w' => e = .returned (.tuple #[.string (bstr (logBytes (c.repAt r))),.int .i64 (c.thereErr r)])∧Below w.heap.size w w' := by
 have HW:=zkr h r
 unfold Clu.repAt Clu.thereErr
 cases hh:c.there r
 ·rw [hh] at HW
  go_enter Tryz.func133,Tryz.ntmps133
  go_wp2_with fail
  refine HW.mono ?_
  rintro e w' ⟨rfl,rfl⟩
  go_wp2
  go_ret2
  exact ⟨rfl,Below.refl _ _⟩
 ·obtain ⟨h0,hr⟩:=zmw hh
  obtain ⟨n,rfl⟩:∃ n:Nat,r=n:=⟨r.toNat,by omega⟩
  simp only [Int.toNat_natCast,↓reduceIte] at hr ⊢
  obtain ⟨g,cap,D,hv,hc,hD,hp,hR⟩:=h.ptr hr
  have c5:=h.cells.2.2.2.2.2.1
  rw [hv] at c5
  have d7:=hR.cells.2.2.2.2.2.2.2.1
  have hn6:=hok.n6
  have hx:=zaY h.blk
  have hg:g<w.heap.size:=World.block_lt_of_cell? w ⟨g,n,none⟩ hp
  have hρ:=zaY hR.blk
  obtain ⟨adl,capl,hvl,hcl,HR⟩:=hR.log.elem zjD
  rw [hvl] at d7
  obtain ⟨hfine,hrl⟩:=hR.logs.fine (hok.rep hr) hL
  have hN:=hL.1
  have HF:Hid (∀ r∈D.rs,r.fine):=hfine
  have HO:Hid (D.rs.flatMap Rc.out=logBytes (c.rep n)):=hR.logs.out
  have HS:Hid (∀ r∈D.rs,SliceOf w r.v r.d):=fun r hr=>(hR.rcd r hr).slice
  have HRW:Hid (0<D.rs.length→∃ g,adl=some ⟨g,0,none⟩∧g<w.heap.size∧∀ k (hk:k<D.rs.length) j u,(D.rs[k].cells)[j]? = some u→w.cell? ⟨g,k*5+j,none⟩=some u):=fun h0=>by
   obtain ⟨g,h1,h2,_,_,h3⟩:=HR h0
   exact ⟨g,h1,h2,h3⟩
  rw [hh] at HW
  clear h hok hh hD hv HR hR hfine hvl hL
  generalize D.ρ=ρ at *
  generalize D.rs=rs at *
  generalize logBytes (c.rep n)=LB at *
  generalize c.reps.length=L at *
  have q1:(n:Int)<(L:Int):=by omega
  go_enter Tryz.func133,Tryz.ntmps133
  go_wp2_with fail
  refine HW.mono ?_
  rintro e w' ⟨rfl,rfl⟩
  go_wp2
  go_loopw [7,8] (fun s j wr=>∃ k:Nat,k≤rs.length∧j = .int .i64 k∧Hid (s = .string (bstr ((rs.take k).flatMap Rc.out)))∧Below w'.heap.size w' wr) (fun _ j _=>rs.length - (intOf j).toNat)
  case atStart=>exact ⟨0,Nat.zero_le _,rfl,rfl,Below.refl _ _⟩
  case round =>
   obtain ⟨k,hk,rfl,hs,hbw⟩:=hrel
   have c5r:wr.cell? ⟨x,5,none⟩=some (.slice (some ⟨g,0,none⟩) L cap):=by rw [hbw.cell (p:=⟨x,5,none⟩) hx];exact c5
   have hpr:wr.cell? ⟨g,n,none⟩=some (.pointer (some ⟨ρ,0,none⟩)):=by rw [hbw.cell (p:=⟨g,n,none⟩) hg];exact hp
   have d7r:wr.cell? ⟨ρ,7,none⟩=some (.slice adl rs.length capl):=by rw [hbw.cell (p:=⟨ρ,7,none⟩) hρ];exact d7
   obtain rfl:=hs.out
   by_cases hl:k<rs.length
   ·obtain ⟨gl,rfl,hgl,hrow⟩:=HRW.out (by omega)
    have e0:wr.cell? ⟨gl,k*5,none⟩=some (.int .i64 rs[k].kind):=by rw [hbw.cell (p:=⟨gl,k*5,none⟩) hgl];exact hrow k hl 0 _ rfl
    have e1:wr.cell? ⟨gl,k*5+1,none⟩=some (.int .i64 rs[k].num):=by rw [hbw.cell (p:=⟨gl,k*5+1,none⟩) hgl];exact hrow k hl 1 _ rfl
    have e2:wr.cell? ⟨gl,k*5+2,none⟩=some rs[k].v:=by rw [hbw.cell (p:=⟨gl,k*5+2,none⟩) hgl];exact hrow k hl 2 _ rfl
    have e3:wr.cell? ⟨gl,k*5+3,none⟩=some (.bool rs[k].torn):=by rw [hbw.cell (p:=⟨gl,k*5+3,none⟩) hgl];exact hrow k hl 3 _ rfl
    have e4:wr.cell? ⟨gl,k*5+4,none⟩=some (.string rs[k].bytes):=by rw [hbw.cell (p:=⟨gl,k*5+4,none⟩) hgl];exact hrow k hl 4 _ rfl
    have hsl:=(HS.out _ (List.getElem_mem hl)).below hbw
    have hfi:=HF.out _ (List.getElem_mem hl)
    have hle:=zhU (l:=rs.take k) fun r hr=>HF.out r (List.mem_of_mem_take hr)
    rw [List.length_take] at hle
    have HSN:Hid (bstr ((rs.take (k+1)).flatMap Rc.out)=bstr ((rs.take k).flatMap Rc.out) ++ bstr rs[k].out):=by rw [Hid,List.take_succ_eq_append_getElem hl,List.flatMap_append,← za1];simp
    have hsz1:=za8 ((rs.take k).flatMap Rc.out)
    have hsz2:=za8 rs[k].out
    have hfl:=hfi.len
    generalize rs[k]=rc at *
    have hcon:Calls Tryz.prog 66 #[.agg #[.int .i64 rc.kind,.int .i64 rc.num,rc.v,.bool rc.torn,.string rc.bytes]] wr fun e w' => e = .returned (.string (bstr rc.out))∧Below wr.heap.size wr w' := by
     cases ht:rc.torn
     ·obtain ⟨f1,f2,f3,f4⟩:=hfi.told ht
      have:=zjZ rc.kind rc.num rc.v rc.d rc.bytes wr hsl f1 f2 f3 f4
      have ho:bstr rc.out=bstr (recBytes ⟨rc.kind,rc.num,rc.d⟩):=by simp [Rc.out,ht,Rc.rec']
      rw [ho]
      exact this
     ·obtain ⟨adq,cpq,hq,-⟩:=hsl
      rw [hq]
      have ho:bstr rc.out=rc.bytes:=by simp [Rc.out,ht,za7]
      rw [ho]
      exact zks rc.kind rc.num adq _ cpq rc.bytes wr
    generalize (rs.take k).flatMap Rc.out=pre at *
    generalize rc.out=po at *
    clear hfi hrow HRW HS HF
    obtain ⟨r0,r1,r2,r3,r4,r5⟩:=rc
    simp only at *
    obtain ⟨adr,cpr,hvr,-⟩:=hsl
    subst hvr
    generalize hpl:pre.length=npre at *
    generalize hpo:po.length=npo at *
    have HPS:Hid (bstr pre ++ bstr po=bstr pre ++ bstr po):=rfl
    generalize bstr pre=KP at *
    generalize bstr po=KO at *
    have hmul:k*2752600≤2097154*2752600:=Nat.mul_le_mul_right _ (by omega)
    have p1:¬ 9223372036854775807<npre+npo:=by omega
    have hsa:(KP ++ KO).size=KP.size+KO.size:=by simp
    go_wp2_with fail
    refine hcon.mono ?_
    rintro e w5 ⟨rfl,hb5⟩
    go_wp2
    exact ⟨⟨k+1,by omega,by go_num,by rw [HSN.out];rfl,hbw.trans (hb5.mono hbw.size)⟩,by simp [intOf];omega⟩
   ·have hkl:k=rs.length:=by omega
    subst hkl
    rw [List.take_of_length_le (Nat.le_refl _),HO.out]
    go_wp2
    go_ret2
    exact ⟨rfl,hbw⟩
structure En where
 e:Ent
 v:Value
def En.cells (n:En):List Value := [.int .i64 n.e.num,.int .i64 n.e.org,n.v]
theorem en_len (n:En):n.cells.length=3:=rfl
theorem ze5:(Tryz.prog.info? 85).map (fun i=>(i.zero,i.size,i.bytes))=some (some (.agg #[.int .i64 0,.int .i64 0,.slice none 0 0]),3,40):=by kernel_rfl
theorem zmG {a b:Int}{v:Value}(h:v.oneCell' = true):∀ u ∈ [Value.int .i64 a,.int .i64 b,v],u.oneCell' = true:=by
 intro u hu
 simp only [List.mem_cons,List.not_mem_nil,or_false] at hu
 rcases hu with rfl | rfl | rfl
 ·rfl
 ·rfl
 ·exact h
theorem zkN {w w' : World}{g k:Nat}{a b c:Value}(h:w.cell? ⟨g,k,none⟩=some a∧w.cell? ⟨g,k+1,none⟩=some b∧w.cell? ⟨g,k+2,none⟩=some c)(hb:w'.heap[g]? = w.heap[g]?):w'.cell? ⟨g,k,none⟩=some a∧w'.cell? ⟨g,k+1,none⟩=some b∧w'.cell? ⟨g,k+2,none⟩=some c :=
 ⟨(World.cell?_of_block hb).trans h.1,(World.cell?_of_block hb).trans h.2.1,(World.cell?_of_block hb).trans h.2.2⟩
structure BufInv (w1 wr:World)(v:Value)(ns:List En):Prop where
 row:∃ col' : Col,RowC wr col' (2,2) 85 3 v ns.length (ns.flatMap En.cells)∧∀ n∈ns,Held wr col' (1,1) n.v n.e.d
 new:∀ q,v.ownBlock=some q→w1.heap.size≤q
 bel:Below w1.heap.size w1 wr
theorem BufInv.more {w1 wr w2 w3:World}{v v2:Value}{ns:List En}{e:Ent}{g3 capn:Nat}{tmp:Obj}(h:BufInv w1 wr v ns)(hb2:Below wr.heap.size wr w2)(hown2:w2.ownsRow wr.heap.size 76 6 v2 e.d.length (flat e.d))
  (hown3:w3.ownsRow 0 85 3 (.slice (some ⟨g3,0,none⟩) (ns.length+1) capn) (ns.length+1) (ns.flatMap En.cells ++ [.int .i64 e.num,.int .i64 e.org,v2])) (hgrow3:(w2.alloc tmp).grownBy w3 v.ownBlock) (hat3:v.ownBlock=some g3∨g3=w2.heap.size+1) :
  BufInv w1 w3 (.slice (some ⟨g3,0,none⟩) (ns.length+1) capn) (ns ++ [⟨e,v2⟩]):=by
 obtain ⟨col',hrow,hheld⟩:=h.row
 have hs1:=h.bel.size
 have hs2:=hb2.size
 have hr2:=hrow.kept (S:=fun _=>False) (zdH hb2 (1,1)) id
 have hh2:∀ n∈ns ++ [⟨e,v2⟩],Held w2 (paint col' wr.heap.size (1,1)) (1,1) n.v n.e.d:=fun n hn=>by
  rcases List.mem_append.1 hn with hn | hn
  ·exact (hheld n hn).kept (S:=fun _=>False) (zdH hb2 (1,1)) id
  ·obtain rfl:=List.mem_singleton.1 hn
   exact zeP rfl hown2
 obtain ⟨hr3,hf3⟩:=hr2.lies (H:=w2.heap.size+1) (zaO (Below.refl _ w2) tmp) hown3 hgrow3 hat3 (by omega)
 refine ⟨⟨_,?_,fun n hn=>(hh2 n hn).kept hf3 (by decide)⟩,fun q hq => ?_,?_⟩
 ·rw [List.length_append,List.flatMap_append]
  simpa [En.cells] using hr3
 ·obtain rfl:=zh2 hq
  rcases hat3 with e | e
  ·exact h.new g3 e
  ·omega
 ·exact ((h.bel.trans (hb2.mono hs1)).alloc (by omega) tmp).grown hgrow3 (by simp;omega) h.new
set_option maxRecDepth 100000 in
theorem zjY {w:World}{col:Col}{o x N:Nat}{U:List At}{K:RefC}{c:Clu}(h:RefAt w col o x K c)(hok:c.ok U N)(hL:Lim U N)(r:Int) :
  Calls Tryz.prog 130 #[.pointer (some ⟨x,0,none⟩),.int .i64 r] w fun e w' => ∃ (v:Value) (ns:List En) (col' : Col),e = .returned (.tuple #[v,.int .i64 (c.works r)])∧Hid (RowC w' col' (2,2) 85 3 v ns.length (ns.flatMap En.cells))∧Hid (∀ n∈ns,Held w' col' (1,1) n.v n.e.d)∧Hid (ns.map En.e=if c.works r=0 then (c.rep r.toNat).buf else [])∧Below w.heap.size w w' := by
 have HW:=zkv h hok.n6 r
 by_cases hw:c.works r=0
 ·obtain ⟨⟨h0,hr⟩,hd⟩:=znz hw
  obtain ⟨n,rfl⟩:∃ n:Nat,r=n:=⟨r.toNat,by omega⟩
  simp only [Int.toNat_natCast] at hr hd ⊢
  obtain ⟨g,cap,D,hv,hc,hD,hp,hR⟩:=h.ptr hr
  have c5:=h.cells.2.2.2.2.2.1
  rw [hv] at c5
  have hrep:=hok.rep hr
  have hN:=hL.1
  have hU:=hL.2
  have hkeep:=zfz hR (by have:=hrep.num;omega)
  have HTK:Hid (∀ t∈D.ts.filter (·.kept),SliceOf w t.v t.d∧ToldMay t.d∧t.d.length≤131072∧t.v.oneCell' = true):=fun t ht=>by
   have hm:=(List.mem_filter.1 ht).1
   have hb:t.ent∈(c.rep n).buf:=by rw [← hR.buf];exact List.mem_map_of_mem ht
   have:=hrep.buf _ hb
   exact ⟨(hR.tkd t hm).slice,this.1,Nat.le_trans (ToldMay.length this.1 this.2.1) hU,zeR (hR.tkd t hm)⟩
  have HBF:Hid ((D.ts.filter (·.kept)).map Tk.ent=(c.rep n).buf):=hR.buf
  have hbl:(D.ts.filter (·.kept)).length≤8:=by
   have h1:=hrep.bufL
   have h2:=hok.room8
   rw [← hR.buf,List.length_map] at h1
   omega
  rw [hw] at HW ⊢
  rw [if_pos rfl]
  clear h hR hok hrep hw hD hv hL
  generalize c.reps.length=L at *
  generalize (c.rep n).buf=B at *
  generalize D.ts.filter (·.kept)=ts at *
  have q1:(n:Int)<(L:Int):=by omega
  obtain ⟨i0,hi,hz0,hz1,hz2⟩:=info_parts ze5
  go_enter Tryz.func130,Tryz.ntmps130
  go_wp2_with fail
  refine HW.mono ?_
  rintro e w' ⟨rfl,rfl⟩
  go_wp2_with fail
  refine hkeep.mono ?_
  rintro e w1 ⟨v1,rfl,hown1,hb1⟩
  clear hkeep HW
  have hrow1:RowC w1 (fun _=>(0,0)) (0,0) 164 4 v1 ts.length (ts.flatMap Tk.cells):=⟨zic hown1 (Nat.zero_le _),fun _ _=>rfl⟩
  obtain ⟨ad1,cp1,hv1,hc1,H1⟩:=hrow1.elem zmI
  have HR1:Hid (0<ts.length→∃ g,ad1=some ⟨g,0,none⟩∧g<w1.heap.size∧∀ k (hk:k<ts.length) j u,(ts[k].cells)[j]? = some u→w1.cell? ⟨g,k*4+j,none⟩=some u):=fun h0=>by
   obtain ⟨g,h1,h2,_,_,h3⟩:=H1 h0
   exact ⟨g,h1,h2,h3⟩
  subst hv1
  clear H1 hrow1 hown1
  go_wp2
  go_loopw [7,9] (fun v j wr=>∃ (k:Nat) (ns:List En),k≤ts.length∧ns.length=k∧j = .int .i64 k∧Hid (BufInv w1 wr v ns)∧Hid (ns.map En.e=(ts.take k).map Tk.ent)) (fun _ j _=>ts.length - (intOf j).toNat)
  case atStart=>exact ⟨0,[],Nat.zero_le _,rfl,rfl,⟨⟨fun _=>(0,0),zkR _ _ _ _ _,(fun n hn=>by cases hn)⟩,(fun q hq=>by cases hq),Below.refl _ _⟩,rfl⟩
  case round =>
   obtain ⟨k,ns,hk,hnl,rfl,hinv,hmap⟩:=hrel
   have hbw:=hinv.out.bel
   obtain ⟨ad0,cp0,hv0⟩:∃ ad cp,u7 = .slice ad k cp:=by
    obtain ⟨col',hrow,_⟩:=hinv.out.row
    obtain ⟨ad,cp,hv,_⟩:=hrow.form
    exact ⟨ad,cp,by rw [hv,hnl]⟩
   subst hv0
   by_cases hl:k<ts.length
   ·obtain ⟨gl,rfl,hgl,hcl⟩:=HR1.out (by omega)
    have e0:wr.cell? ⟨gl,k*4,none⟩=some (.int .i64 ts[k].num):=by rw [hbw.cell (p:=⟨gl,k*4,none⟩) hgl];exact hcl k hl 0 _ rfl
    have e1:wr.cell? ⟨gl,k*4+1,none⟩=some (.int .i64 ts[k].org):=by rw [hbw.cell (p:=⟨gl,k*4+1,none⟩) hgl];exact hcl k hl 1 _ rfl
    have e2:wr.cell? ⟨gl,k*4+2,none⟩=some ts[k].v:=by rw [hbw.cell (p:=⟨gl,k*4+2,none⟩) hgl];exact hcl k hl 2 _ rfl
    obtain ⟨t1,t2,t3,t4⟩:=HTK.out _ (List.getElem_mem hl)
    have HSN:Hid ((ts.take (k+1)).map Tk.ent=(ts.take k).map Tk.ent ++ [ts[k].ent]):=by rw [Hid,List.take_succ_eq_append_getElem hl,List.map_append];rfl
    have t1r:=(t1.below hb1).below hbw
    clear HR1 hcl t1
    generalize ts[k]=t at *
    obtain ⟨tn,tg,tv,td,tb⟩:=t
    simp only at *
    obtain ⟨adt,cpt,rfl,hct⟩:=id t1r
    have HT:Hid (∀ W,Below wr.heap.size wr W→Calls Tryz.prog 76 #[.slice adt td.length cpt] W fun e w' => ∃ ad2 cp2,e = .returned (.slice ad2 td.length cp2)∧Hid (w'.ownsRow W.heap.size 76 6 (.slice ad2 td.length cp2) td.length (flat td))∧Below W.heap.size W w'):=fun W hW=>by
     refine (zmP _ td W (t1r.below hW) (fun a ha=>zdj (t2.2 a ha)) (by omega)).mono ?_
     rintro e w' ⟨v',out,rfl,hown,hto,hb⟩
     obtain rfl:out=td:=hto.out.unique t2.2 t2.1
     obtain ⟨ad,cp,rfl⟩:=zh1 hown
     exact ⟨ad,cp,rfl,hown,hb⟩
    have hglr:gl<wr.heap.size:=by have:=hbw.size;omega
    have hneq:some gl ≠ (Value.slice ad0 k cp0).ownBlock:=fun e=>by
     have:=hinv.out.new gl e.symm
     omega
    have hwr:=hbw.size
    have HOW:Hid (wr.ownsRow 0 85 3 (.slice ad0 k cp0) k (ns.flatMap En.cells)):=by
     obtain ⟨col',hrow,_⟩:=hinv.out.row
     rw [hnl] at hrow
     exact hrow.own
    clear t1r hct t2 t3 t4
    go_wp2
    go_region_held_law (fun w' => w'.cell? ⟨gl,k*4,none⟩=some (.int .i64 tn)∧w'.cell? ⟨gl,k*4+1,none⟩=some (.int .i64 tg)∧w'.cell? ⟨gl,k*4+2,none⟩=some (.slice adt td.length cpt)) (first | assumption | exact zkN (by assumption) (hb2.block gl (by exact hglr)) | exact zkN (by assumption) (hgrow3.block gl (by have:=hb2.size;simp at this ⊢;omega) hneq) | go_keep) (first | (go_at_call 76;refine (HT.out _ (Below.refl _ _).drew).mono ?_;rintro e w2 ⟨ad2,cp2,rfl,hown2,hb2⟩;have hsz2:=hb2.size;have hg2:gl<w2.heap.size:=(by have:=hb2.size;simp at this;omega)) | (refine step_append_lies _ rfl _ _ 81 rfl 0 85 i0 _ 3 40 Tryz.underlying81 hi hz0 hz1 hz2 rfl (by decide) _ k _ rfl ((zh5 HOW.out ((Below.refl _ wr).drew.trans hb2)).alloc _) ⟨w2.heap.size,0,none⟩ 1 1 [.int .i64 tn,.int .i64 tg,.slice ad2 td.length cp2] rfl rfl (World.news_of_block (heap_alloc_new w2 _)) (zmG rfl) (by decide) (by unfold maxLen;omega) (by omega) (by simp) (w2.heap.size+1) (by simp) ?_;intro g3 capn w3 hown3 hgrow3 hat3 hlt3))
    go_wp2
    have hi3:=BufInv.more (e:=⟨tn,tg,td⟩) hinv.out ((Below.refl _ wr).drew.trans hb2) hown2.out (by rw [hnl];exact hown3) hgrow3 hat3
    rw [hnl] at hi3
    exact ⟨⟨k+1,ns ++ [(⟨⟨tn,tg,td⟩,.slice ad2 td.length cp2⟩:En)],by omega,by simp [hnl],by go_num,hi3,by rw [Hid,HSN.out,List.map_append,hmap.out];rfl⟩,by simp [intOf];omega⟩
   ·have hkl:k=ts.length:=by omega
    subst hkl
    rw [List.take_of_length_le (Nat.le_refl _)] at hmap
    obtain ⟨col',hrow,hheld⟩:=hinv.out.row
    go_wp2
    go_ret2
    exact ⟨_,ns,col',rfl,by rw [hnl] at hrow ⊢;exact hrow,hheld,hmap.out.trans HBF.out,hb1.trans (hbw.mono hb1.size)⟩
 ·generalize c.works r=cd at *
  go_enter Tryz.func130,Tryz.ntmps130
  go_wp2_with fail
  refine HW.mono ?_
  rintro e w' ⟨rfl,rfl⟩
  go_wp2
  go_ret2
  exact ⟨.slice none 0 0,rfl,[],fun _=>(0,0),zkR _ _ _ _ _,(fun n hn=>by cases hn),rfl,Below.refl _ _⟩
end Go.Proofs.YtahdlejgjcjeoabGreatDoor
