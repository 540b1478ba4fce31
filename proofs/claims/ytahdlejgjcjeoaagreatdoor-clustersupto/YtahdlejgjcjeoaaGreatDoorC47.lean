/- The card of the law Clusters in its second form is proved: for all settings and scripts of bulk at most 1048576 in all the law answers true (every call, in every order, answers as the document says, and no list that came out changes behind its owner's writing) and the arguments read as before. Conditions: the bulk; the tables ripple/state.steps and ripple/state.rules lie as the program's text lays them (the card ties them, to the pruned copy of the project). -/
import Derived.Test.YtahdlejgjcjeoaaGreatDoorC39
import Derived.Test.YtahdlejgjcjeoaaGreatDoorC09
import Derived.Test.YtahdlejgjcjeoaaGreatDoorC46
import Derived.Test.YtahdlejgjcjeoaaGreatDoorC45
import Derived.Conc.Holds
import Derived.Deep.DeepHandedRow
import Derived.JoinedCond
import Derived.Below
import Derived.SevenTiedAt
import Derived.Test.YtahdlejgjcjeoaaGreatDoorCards
import Derived.Test.YtahdlejgjcjeoaaGreatDoorTie
import Derived.Test.YtahdlejgjcjeoaaGreatDoorC11
import Derived.WalkKit
import Derived.ProofKit
import Derived.OpenShut
import Derived.Carry
import Derived.LaidLaws
namespace Go.Proofs.YtahdlejgjcjeoaaGreatDoor
open Go.RowKit
end Go.Proofs.YtahdlejgjcjeoaaGreatDoor
namespace Go.Proofs.YtahdlejgjcjeoaaGreatDoor
open Go.RowKit
structure PlayN (Z w:World)(W x y B i:Nat)(c:Clu):Prop where
 gm:Gm (Snap.all Z) w W x y B (36*i) c
 far:c.far
 ok:∃ U,U.length≤i∧c.ok U (20*i)
set_option maxRecDepth 100000 in
theorem ziw (v vs:Value)(es:List (Int × Int))(l:List ActV)(reps room:Int)(bp rr:Bool)(w:World)(hr:RulesAt w)(hst:StepsAt w)(hv:EdgesOf w v es)(hlen:es.length≤1048576)(hs:ActsOf w vs l)(hll:l.length≤87381)(hfit:∀ a∈l,a.fit) :
  Calls Tryz.prog 7 #[.agg #[.int .i64 reps,v,.bool bp,.bool rr,.int .i64 room],vs] w fun e w' => e = .returned (.bool true)∧Below w.heap.size w w' := by
 have HR:=Hid.mk hr
 have HST:=Hid.mk hst
 have HV:=Hid.mk hv
 have HS:=Hid.mk hs
 have HF:=Hid.mk hfit
 obtain ⟨ad,cap,rfl,-⟩:=hv
 obtain ⟨adS,capS,rfl,-⟩:=hs
 obtain ⟨n,HLN⟩:∃ n,Hid (l.length=n):=⟨_,rfl⟩
 rw [HLN.out] at hll HS ⊢
 clear hr hst hfit
 have hb0:=zaN (Below.refl _ w) (.cells #[.int .i64 reps,.slice ad es.length cap,.bool bp,.bool rr,.int .i64 room] 24)
 have HB0:=Hid.mk hb0
 clear hb0
 go_enter Tryz.func7,Tryz.ntmps7
 go_wp2_with fail
 refine (zge _ es reps room bp rr _ (HR.out.below HB0.out HR.out.1) (HST.out.block (HB0.out.block 1 HST.out.1) HB0.out.size) (HV.out.below HB0.out) hlen).mono ?_
 generalize w.alloc (.cells #[.int .i64 reps,.slice ad es.length cap,.bool bp,.bool rr,.int .i64 room] 24)=Z at *
 have HSZ:=Hid.mk (HS.out.below HB0.out)
 rintro e w1 ⟨hb1,hcase⟩
 have HB:=Hid.mk (HB0.out.trans (hb1.mono HB0.out.size))
 clear hb1 HS HV
 rcases hcase with rfl | ⟨W,x,y,B,c,rfl,hg,hok,-,hfar⟩
 ·go_wp2
  go_ret
  exact ⟨rfl,HB.out⟩
 ·have HP:Hid (PlayN Z w1 W x y B 0 c):=⟨hg,hfar,[],Nat.le_refl _,hok⟩
  clear hg hok hfar
  go_wp2
  go_loopw [6,7] (fun t s wr=>∃ (i:Nat) (c:Clu),i≤n∧t = .bool true∧s = .int .i64 i∧Hid (PlayN Z wr W x y B i c)) (fun _ s _=>n - (intOf s).toNat)
  case atStart=>exact ⟨0,c,Nat.zero_le _,rfl,rfl,HP⟩
  case round =>
   clear HP HB
   obtain ⟨i,c,hi,rfl,rfl,hp⟩:=hrel
   obtain ⟨U,hU,hok⟩:=hp.out.ok
   have HLM:Hid (Lim U (20*i)):=⟨by omega,by omega⟩
   have HLM2:Hid (Lim U (20*i+20)):=⟨by omega,by omega⟩
   have HK:=Hid.mk hok
   clear hok
   by_cases hlt:i<n
   ·have q1:(i:Int)<(n:Int):=by omega
    have q2:(0:Int)≤(i:Int):=by omega
    have hil:i<l.length:=by rw [HLN.out];exact hlt
    obtain ⟨b,off,cp,hv0,hbl,e0,e1,e2,e3,e4,e5,e6,e7,e8,e9⟩:=(HSZ.out.below hp.out.gm.bel).nth i hil
    cases hv0
    have ha:=HF.out _ (List.getElem_mem hil)
    have HA:=Hid.mk (hp.out.gm.lActAll HK.out HLM2.out hp.out.far (by omega) l[i] ha)
    generalize l[i]=a at *
    obtain ⟨ak,ar,aq,an,⟨ty,ky,sd,el,on⟩,key⟩:=a
    unfold ActV.val at HA
    simp only at HA e0 e1 e2 e3 e4 e5 e6 e7 e8 e9
    clear ha hp
    go_wp2_with fail
    refine HA.out.mono ?_
    rintro e w2 ⟨rfl,c',U',h2,hU2,hok2,hfar2⟩
    have HP2:Hid (PlayN Z w2 W x y B (i+1) c'):=⟨h2.mono (by omega),hfar2,U',by omega,hok2.later (by omega)⟩
    have c2:=h2.cell2
    clear h2 HA hok2 hfar2 e0 e1 e2 e3 e4 e5 e6 e7 e8 e9
    go_wp2_with fail
    refine (HP2.out.gm.looks (by omega)).mono ?_
    rintro e w3 ⟨rfl,hb3⟩
    have HP3:Hid (PlayN Z w3 W x y B (i+1) _):=⟨HP2.out.gm.same hb3,HP2.out.far,HP2.out.ok⟩
    clear HP2 hb3 c2
    go_wp2
    exact ⟨⟨i+1,_,by omega,rfl,by go_num,HP3⟩,by simp [intOf];omega⟩
   ·have q1:¬ (i:Int)<(n:Int):=by omega
    go_wp2_with fail
    refine (hp.out.gm.lLastN HK.out HLM.out (by omega)).mono ?_
    rintro e w2 ⟨rfl,c2,h2⟩
    have HB2:=Hid.mk (HB0.out.trans (h2.bel.mono HB0.out.size))
    clear h2 hp
    go_wp2
    go_ret
    exact ⟨rfl,HB2.out⟩
set_option maxRecDepth 100000 in
theorem zb0 (v vs:Value)(es:List (Int × Int))(l:List ActV)(reps room:Int)(bp rr:Bool)(w:World)(hr:RulesAt w)(hst:StepsAt w)(hv:EdgesOf w v es)(hlen:es.length≤1048576)(hs:ActsOf w vs l)(hll:l.length≤87381)(hfit:∀ a∈l,a.fit) :
  Calls Tryz.prog 6 #[.agg #[.int .i64 reps,v,.bool bp,.bool rr,.int .i64 room],vs] w fun e w' => e = .returned (.bool true)∧Below w.heap.size w w' := by
 have HB0:=Hid.mk (fun ob=>zaN (Below.refl _ w) ob)
 have HC:=Hid.mk (fun ob=>ziw v vs es l reps room bp rr (w.alloc ob) (hr.below (zaN (Below.refl _ w) ob) hr.1) (hst.block ((zaN (Below.refl _ w) ob).block 1 hst.1) (zaN (Below.refl _ w) ob).size) (hv.below (zaN (Below.refl _ w) ob)) hlen (hs.below (zaN (Below.refl _ w) ob)) hll hfit)
 obtain ⟨ad,cap,rfl,-⟩:=hv
 obtain ⟨adS,capS,rfl,-⟩:=hs
 clear hr hst hfit
 go_enter Tryz.func6,Tryz.ntmps6
 go_wp2_with fail
 refine (HC.out _).mono ?_
 rintro e w1 ⟨rfl,hb1⟩
 have HB:=Hid.mk ((HB0.out _).trans (hb1.mono (HB0.out _).size))
 clear hb1 HC
 go_wp2
 go_ret
 exact ⟨rfl,HB.out⟩
end Go.Proofs.YtahdlejgjcjeoaaGreatDoor
namespace Go.Proofs.YtahdlejgjcjeoaaGreatDoor
theorem ziG {H:Type}{enc:TypeId × Value→H}{P:Program}{f:Func}{s:ChangeSpec}{apart fresh handsOn again:Bool}{W W' : World}{args:Array Value}{v:Value}{ds gs:List (DataW H)}{before pa pv:List MemPlace}
  (hW:DataW.Whole enc P f.params.toList s.vars apart W args.toList ds gs before)
  (hres:∀ (b:Nat) (sp:Nat→Bool) (hd:Bool),DataW.TrodAll enc P W' b sp hd f.resultTypes.toList (v.resultList f.resultTypes.size) (s.fn H (ds ++ gs)).results [])
  (hargs:∀ sp:Nat→Bool,(∀ p∈before,sp p.block=true)→DataW.TrodAll enc P W' 0 sp true f.params.toList args.toList (s.fn H (ds ++ gs)).args pa)
  (hvars:∀ sp:Nat→Bool,(∀ p∈before,sp p.block=true)→DataW.TrodVars enc P W' sp s.vars (s.fn H (ds ++ gs)).vars pv)
  (hps:before=pa ++ pv) (hb:RowKit.Below W.heap.size W W')
  (hok:∀ (j:Nat) (t:TypeId) (r:Value),f.resultTypes[j]? = some t→(v.resultList f.resultTypes.size)[j]? = some r→Value.okWide P W' .any 0 t r) :
  s.post enc P f apart fresh handsOn again W args v W' := by
 have hlt:∀ p∈before,p.block<W.heap.size:=fun p hp=>hW.lt p hp
 have hold:∀ p∈before,(fun b=>decide (b<W.heap.size)) p.block=true:=fun p hp=>by simpa using hlt p hp
 refine ⟨ds,gs,before,[],pa,pv,hW,hres _ _ _,hargs _ hold,hvars _ hold,hb.frame _,fun _ => ?_⟩
 obtain ⟨_,_,_,_,_,hz,hn⟩:=hW
 refine ⟨hok,_,_,([] ++ pa) ++ pv,⟨[] ++ pa,pv,ChangeShapes.trodAll_append (hargs _ (fun _ _=>rfl)) (hres _ _ _),hvars _ (fun _ _=>rfl),rfl,?_,?_⟩,?_⟩
 ·intro b off hp
  have hp' : MemPlace.cell b off∈before:=by rw [hps];simpa using hp
  rw [hb.frozen (hlt _ hp')]
  exact hz b off hp'
 ·intro ha
  have:=hn ha
  rw [hps] at this
  simpa using this
 ·intro p hp _
  rw [hps]
  simpa using hp
end Go.Proofs.YtahdlejgjcjeoaaGreatDoor
namespace Go.Proofs.YtahdlejgjcjeoaaGreatDoor.clustersCardP
open Go.ChangeShapes Go.WideShapes Go.ChangeAt Go.RowKit
theorem own:ownKnob Tryz.prog.godebug=none:=by kernel_rfl
theorem lays:laidOutB Tryz.prog=true:=by kernel_rfl
theorem readC:Tryz.prog.readableRec 24=true:=by kernel_rfl
theorem readS:Tryz.prog.readableRec 27=true:=by kernel_rfl
theorem rowS:27<Tryz.prog.types.size:=of_decide_eq_true (by kernel_rfl)
theorem rowC:24<Tryz.prog.types.size:=of_decide_eq_true (by kernel_rfl)
set_option maxRecDepth 100000 in
theorem contract (H:Type)(en:TypeId × Value→H)(W:World)(base:Nat)(args:Array Value)(ds gs:List (DataW H))(before:List MemPlace)
  (hval:∀ (j:Nat) t v,Tryz.f6.params[j]? = some t→args[j]? = some v→Value.okWide Tryz.prog W .any base t v)
  (hW:DataW.Whole en Tryz.prog Tryz.f6.params.toList Rows.clustersSpec.vars false W args.toList ds gs before) (hk:Rows.uptoSmall H (ds ++ gs)=true) (hL:laidMetH Tryz.prog Rows.clustersUptoRow.laid W) :
  Calls Tryz.prog 6 args W fun e W' => ∃ v,e = .returned v∧Rows.clustersSpec.post en Tryz.prog Tryz.f6 false true false false W args v W' := by
 have hW' := hW
 obtain ⟨p,q,hA0,hV,rfl,hfz,hnd⟩:=hW
 have hA:DataW.TrodAll en Tryz.prog W 0 (fun _=>true) true Tryz.f6.params.toList args.toList ds p:=hA0
 rw [Tryz.params6] at hA hval
 obtain ⟨v0,v1,d0,d1,p0,p1,rfl,rfl,rfl,h0,h1⟩:=trodAll_two hA
 obtain ⟨rfl,rfl⟩:=trodVars_none hV
 clear hA0
 have hb:Rows.uptoBulk d0+(Rows.uptoBulk d1+0)≤1048576:=by simpa [Rows.uptoSmall,Rows.uptoBulkAll] using hk
 obtain ⟨reps,room,bp,rr,vE,es,rfl,hed,hel⟩:=zhA (hval 0 _ v0 rfl rfl) h0 (by omega)
 obtain ⟨l,hs,hll,hfit⟩:=zhF (hval 1 _ v1 rfl rfl) h1 (by omega)
 have hr:=zkV hL
 have hst:=zl0 hL
 refine (zb0 vE v1 es l reps room bp rr W hr hst hed hel hs hll hfit).mono fun e W' ⟨he,hbel⟩ => ?_
 subst he
 have hlt:∀ x∈p0 ++ p1,x.block<W.heap.size:=fun x hx=>hW'.lt x (by simpa using hx)
 refine ⟨_,rfl,ziG (pa:=p0 ++ p1) (pv := []) hW' (fun _ _ _=>trodAll_cons_mk (shut_bool Tryz.underlying4 _) trodAll_mk0) (fun sp hsp => ?_) (fun _ _=>rfl) rfl hbel (ok_one (by kernel_rfl) rfl (okWide_bool_mk Tryz.underlying4 _))⟩
 rw [Tryz.params6]
 have k0:DataW.Trod en Tryz.prog W' 0 sp true 24 (.agg #[.int .i64 reps,vE,.bool bp,.bool rr,.int .i64 room]) d0 p0:=WideElems.Trod_stays lays readC rowC h0 (fun x hx=>hbel.same (hlt x (by simp [hx]))) (fun x hx=>hsp x (by simp [hx]))
 have k1:DataW.Trod en Tryz.prog W' 0 sp true 27 v1 d1 p1:=WideElems.Trod_stays lays readS rowS h1 (fun x hx=>hbel.same (hlt x (by simp [hx]))) (fun x hx=>hsp x (by simp [hx]))
 exact trodAll_mk2 k0 k1
def layCells (cs:Array Value):Obj→Obj
 | .cells _ t frozen => .cells cs t frozen
 | o=>o
def laidWorld (P:Program)(os:Os):World :=
 { World.holding P os ⟨#[],#[],[]⟩ with heap:=((World.holding P os ⟨#[],#[],[]⟩).heap.modify 0 (layCells #[.int .i64 0,.int .i64 5,.int .i64 1,.int .i64 2147483647,.int .i64 0,.bool false,.int .i64 1,.int .i64 5,.int .i64 1,.int .i64 2147483647,.int .i64 0,.bool false,.int .i64 0,.int .i64 0,.int .i64 0,.int .i64 0,.int .i64 8,.bool false,.int .i64 1,.int .i64 0,.int .i64 0,.int .i64 0,.int .i64 8,.bool false,.int .i64 0,.int .i64 5,.int .i64 1,.int .i64 2147483647,.int .i64 8,.bool true])).modify 1 (layCells #[.int .i64 0,.int .i64 1,.int .i64 1000,.int .i64 0,.bool false,.int .i64 0,.int .i64 (-1000),.int .i64 1000,.int .i64 0,.bool true,.int .i64 0,.int .i64 0,.int .i64 0,.int .i64 8,.bool false,.int .i64 1,.int .i64 0,.int .i64 0,.int .i64 8,.bool false,.int .i64 0,.int .i64 0,.int .i64 0,.int .i64 8,.bool false]) }
theorem zfD (os:Os):laidMet Tryz.prog Rows.clustersUptoRow.laid ((laidWorld Tryz.prog os).forCall (fun _ _=>0) ⟨#[],#[.agg #[.int .i64 0,.slice none 0 0,.bool false,.bool false,.int .i64 0],.slice none 0 0],[]⟩).memory :=
 laidMet_of_run' 8 (by kernel_rfl) (by kernel_rfl)
theorem zjP (os:Os){H:Type}(en:TypeId × Value→H):∃ places,DataW.whole en Tryz.prog ((laidWorld Tryz.prog os).forCall (fun _ _=>0) ⟨#[],#[.agg #[.int .i64 0,.slice none 0 0,.bool false,.bool false,.int .i64 0],.slice none 0 0],[]⟩).memory Tryz.f6.params.toList Rows.clustersSpec.vars false #[Value.agg #[.int .i64 0,.slice none 0 0,.bool false,.bool false,.int .i64 0],.slice none 0 0].toList 8=some ([.agg [.lit (.int .i64 0),.nil,.lit (.bool false),.lit (.bool false),.lit (.int .i64 0)],.nil],[],places) :=
 ⟨[],by kernel_rfl⟩
set_option maxRecDepth 100000 in
theorem liftedUpto (os:Os)(started:os.Started)(H:Type)(en:TypeId × Value→H)(F:Stop.Interp) :
  ReturnsInHanded {} Tryz.checked os 6 .any ((Rows.OpenSpec.upto Rows.clustersSpec).preRow en Tryz.prog Tryz.f6 Rows.clustersUptoRow.domain false Rows.clustersUptoRow.laid) (((Rows.OpenSpec.upto Rows.clustersSpec).at F).post en Tryz.prog Tryz.f6 false true false false):=by
 obtain ⟨places,hx⟩:=zjP os en
 refine returnsInHanded_of_row (C:=Tryz.checked) (s:=Rows.OpenSpec.upto Rows.clustersSpec) own started (by kernel_rfl) Tryz.func6
  (witness_row_at (enc:=en) (C:=Tryz.checked) false (laidWorld Tryz.prog os) #[.agg #[.int .i64 0,.slice none 0 0,.bool false,.bool false,.int .i64 0],.slice none 0 0] rfl (by kernel_rfl) (by kernel_rfl) (by kernel_rfl)
   (OpenSpec.preRow_of_cond 8 hx (by kernel_rfl) (fun k hk=>by cases hk;kernel_rfl) (by kernel_rfl) (zfD os))) ?_
 intro W base args ds gs before hval hW _ hcond _ hL _ _
 exact contract H en W base args ds gs before hval hW (hcond _ rfl) hL
theorem saidUpto:Rows.ClustersUptoSaid :=
 OpenClaim.holds_of_cond 6 Tryz.f6 rfl rfl rfl rfl rfl rfl rfl ⟨rfl,rfl,rfl,rfl,rfl⟩ rfl rfl rfl rfl rfl (by kernel_rfl) Tryz.func6 (by kernel_rfl)
  (of_decide_eq_true (by kernel_rfl)) (by unfold Func.isWrapper;first | (rw [if_pos (by decide +kernel)];kernel_rfl) | (rw [if_neg (by decide +kernel)];exact ⟨rfl,rfl⟩))
  (fun os started H en _ F=>by rw [OpenClaim.pre_eq_preRow];exact liftedUpto os started H en F)
theorem plain (f : FuncId) (fn : Func) (hf : Tryz.pinned.checked.prog.funcNamed "ripple/ripplelaw.Clusters" = some f) (hfn : Tryz.pinned.checked.prog.funcs[f]? = some fn) :
  false=Tryz.pinned.checked.prog.looks []∧∀ (j:Nat) t,fn.params[j]? = some t→Tryz.pinned.checked.prog.wantsStandIn t=false:=by
 obtain rfl : f = 6 := Option.some.inj ((show Tryz.prog.funcNamed "ripple/ripplelaw.Clusters" = some 6 by kernel_rfl).symm.trans hf) |>.symm
 obtain rfl:fn=Tryz.f6:=(Option.some.inj (Tryz.func6.symm.trans hfn)).symm
 refine ⟨by kernel_rfl,fun j t ht => ?_⟩
 rw [Tryz.params6] at ht
 have hm:t=24∨t=27:=by simpa using Array.mem_of_getElem? ht
 rcases hm with rfl | rfl
 ·exact (show Tryz.prog.wantsStandIn 24=false by kernel_rfl)
 ·exact (show Tryz.prog.wantsStandIn 27=false by kernel_rfl)
theorem cardUpto:Rows.ClustersUptoCardSaid :=
 Claim7.holds_tied_plain_at .later [] _ _ _ _ saidUpto (fun _ h=>by cases h) (by kernel_rfl) (fun _ h=>by cases h) clustersUpto_row_tie rfl ⟨rfl,rfl⟩ (by kernel_rfl) rfl plain (by kernel_rfl)
end Go.Proofs.YtahdlejgjcjeoaaGreatDoor.clustersCardP
namespace Go.Proofs.YtahdlejgjcjeoaaGreatDoor
theorem clustersUpto_holds:Rows.ClustersUptoCardSaid:=clustersCardP.cardUpto
end Go.Proofs.YtahdlejgjcjeoaaGreatDoor
