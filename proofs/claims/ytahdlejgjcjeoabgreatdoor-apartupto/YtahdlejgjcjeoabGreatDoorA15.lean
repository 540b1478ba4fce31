/- The program's cluster: Log, Buffer, Read of a new replica; Replica, Frame. -/
import Derived.Test.YtahdlejgjcjeoabGreatDoorA14
import Derived.Test.YtahdlejgjcjeoabGreatDoorA07
import Derived.Deep.RegionLaw
import Derived.Test.YtahdlejgjcjeoabGreatDoorA08
import Derived.Test.YtahdlejgjcjeoabGreatDoorA12
namespace Go.Proofs.YtahdlejgjcjeoabGreatDoor
set_option maxHeartbeats 8000000
open Go.RowKit Go.Maps
def VarAt (w:World)(q:Nat)(n:Int)(v:Value):Prop:=w.heap[q]? = some (.cells #[.int .i64 n,v] 129 (0,0))
theorem VarAt.cells {w:World}{q:Nat}{n:Int}{v:Value}(h:VarAt w q n v):w.cell? ⟨q,0,none⟩=some (.int .i64 n)∧w.cell? ⟨q,1,none⟩=some v∧w.frozen? ⟨q,0,none⟩=false∧w.frozen? ⟨q,1,none⟩=false:=by
 unfold VarAt at h
 refine ⟨?_,?_,?_,?_⟩ <;> simp [World.cell?,World.frozen?,h]
theorem VarAt.lt {w:World}{q:Nat}{n:Int}{v:Value}(h:VarAt w q n v):q<w.heap.size:=(Array.getElem?_eq_some_iff.1 h).1
theorem VarAt.block {w w' : World}{q:Nat}{n:Int}{v:Value}(h:VarAt w q n v)(hb:w'.heap[q]? = w.heap[q]?):VarAt w' q n v:=by unfold VarAt at *;rw [hb];exact h
theorem VarAt.set0 {w:World}{q:Nat}{n m:Int}{v:Value}(h:VarAt w q n v):VarAt (w.setCell ⟨q,0,none⟩ (.int .i64 m)) q m v:=by
 unfold VarAt at *
 simp [World.setCell,Array.getElem?_modify,h]
theorem VarAt.set1 {w:World}{q:Nat}{n:Int}{v u:Value}(h:VarAt w q n v):VarAt (w.setCell ⟨q,1,none⟩ u) q n u:=by
 unfold VarAt at *
 simp [World.setCell,Array.getElem?_modify,h]
theorem zib {w w' : World}{base:Nat}{row:Option Nat}{e:TypeId}{s n:Nat}{v:Value}{xs:List Value}(h:w.ownsRow base e s v n xs)(hg:w.grownBy w' row)(hne:∀ q,v.ownBlock=some q→some q ≠ row):w'.ownsRow base e s v n xs:=by
 obtain ⟨h0,h⟩:=h
 refine ⟨h0,?_⟩
 rcases h with h | ⟨g,cap,cur,rfl,hgb,hh,k⟩
 ·exact .inl h
 ·exact .inr ⟨g,cap,cur,rfl,hgb,by rw [hg.block g (Array.getElem?_eq_some_iff.1 hh).1 (hne g rfl)];exact hh,k⟩
theorem ResAt.other {w:World}{q q' o:Nat}{u:Value}(h:ResAt w q)(hne:q ≠ q'):ResAt (w.setCell ⟨q',o,none⟩ u) q:=by
 unfold ResAt at *
 rw [Below.heap_setCell _ _ _ _ hne]
 exact h
theorem ResAt.grown {w w' : World}{q:Nat}{row:Option Nat}(h:ResAt w q)(hg:w.grownBy w' row)(hne:some q ≠ row):ResAt w' q:=by
 have hlt:q<w.heap.size:=(Array.getElem?_eq_some_iff.1 h).1
 unfold ResAt at *
 rw [hg.block q hlt hne]
 exact h
theorem VarAt.grown {w w' : World}{q:Nat}{n:Int}{v:Value}{row:Option Nat}(h:VarAt w q n v)(hg:w.grownBy w' row)(hne:some q ≠ row):VarAt w' q n v:=h.block (hg.block q h.lt hne)
theorem VarAt.grown2 {w w' : World}{q:Nat}{n:Int}{v:Value}{row:Option Nat}(hg:w.grownBy w' row)(hne:some q ≠ row)(h:VarAt w q n v):VarAt w' q n v:=h.grown hg hne
structure ValInv (w w0 w1 wr:World)(T:List At)(vT ve:Value)(N:Int)(E:List ByteArray):Prop where
 var:VarAt wr (w.heap.size+1) N ve
 own:wr.ownsRow w1.heap.size 9 1 ve E.length (E.map Value.string)
 res:ResAt wr w.heap.size
 row:wr.ownsRow w0.heap.size 76 6 vT T.length (flat T)
 bel:Below w.heap.size w wr
 size:w1.heap.size≤wr.heap.size
 told:∀ q,vT.ownBlock=some q→q<w1.heap.size
 z0:w0.heap.size=w.heap.size+1+1
 z1:w0.heap.size≤w1.heap.size
theorem ValInv.count {w w0 w1 wr:World}{T:List At}{vT ve:Value}{N:Int}{E:List ByteArray}(m:Int)(h:ValInv w w0 w1 wr T vT ve N E):ValInv w w0 w1 (wr.setCell ⟨w.heap.size+1,0,none⟩ (.int .i64 m)) T vT ve m E :=
 have z0:=h.z0
 have z1:=h.z1
 ⟨h.var.set0,zif h.own (by omega),h.res.other (by omega),zif h.row (by omega),h.bel.setCell (by simp) _,by simpa using h.size,h.told,h.z0,h.z1⟩
theorem ValInv.drew {w w0 w1 wr:World}{T:List At}{vT ve:Value}{N:Int}{E:List ByteArray}(h:ValInv w w0 w1 wr T vT ve N E):ValInv w w0 w1 wr.drew T vT ve N E :=
 ⟨h.var,h.own,h.res,h.row,h.bel.drew,h.size,h.told,h.z0,h.z1⟩
theorem ValInv.drewN {w w0 w1 wr:World}{T:List At}{vT ve:Value}{N:Int}{E:List ByteArray}(h:ValInv w w0 w1 wr T vT ve N E)(q:Nat):ValInv w w0 w1 (wr.drewN q) T vT ve N E :=
 ⟨h.var,h.own,h.res,h.row,below_drewN h.bel q,h.size,h.told,h.z0,h.z1⟩
theorem ValInv.to {w w0 w1 wr:World}{T:List At}{vT ve:Value}{N N' : Int}{E E' : List ByteArray}(h:ValInv w w0 w1 wr T vT ve N E)(hn:N' = N)(he:E' = E):ValInv w w0 w1 wr T vT ve N' E' := by rw [hn,he];exact h
theorem zew {w w' : World}{row:Option Nat}(h:w.drew.grownBy w' row):w.grownBy w' row:=⟨h.os,h.tape,h.output,h.size,h.block⟩
theorem ValInv.more {w w0 w1 wr w3:World}{T:List At}{vT ve v3:Value}{N:Int}{E:List ByteArray}{x:ByteArray}(h:ValInv w w0 w1 wr T vT ve N E)
  (hg2:wr.grownBy w3 ve.ownBlock) (ho:w3.ownsRow w1.heap.size 9 1 v3 (E.length+1) (E.map Value.string ++ [.string x])) :
  ValInv w w0 w1 (w3.setCell ⟨w.heap.size+1,1,none⟩ v3) T vT v3 N (E ++ [x]):=by
 have z0:=h.z0
 have z1:=h.z1
 have hsz:=h.size
 have hne:∀ q,q<w1.heap.size→some q ≠ ve.ownBlock:=fun q hq=>zgO h.own q hq
 refine ⟨(h.var.grown hg2 (hne _ (by omega))).set1,?_,(h.res.grown hg2 (hne _ (by omega))).other (by omega),zif (zib h.row hg2 (fun q hq=>hne q (h.told q hq))) (by omega),(h.bel.grown hg2 h.bel.size (fun q hq=>by have:=zh4 h.own q hq;omega)).setCell (by simp) _,by have:=hg2.size;simp;omega,h.told,h.z0,h.z1⟩
 rw [List.length_append,List.map_append]
 exact zif ho (by omega)
set_option maxRecDepth 100000 in
theorem zno (va:Value)(l:List At)(kind:Int)(key:ByteArray)(w:World)(h1:SliceOf w va l)(hm:∀ a∈l,mayB a=true)(hlen:l.length≤549755813888)(htb:∀ T,IsTold l T→T.length≤4194304)(hk:key.size≤1099511627776)(hki:1≤kind∧kind≤5) :
  Calls Tryz.prog 200 #[va,.int .i64 kind,.string key] w fun e w' => ∃ T v',e = .returned (.agg #[.int .i64 (valN kind key T),v'])∧Hid (IsTold l T)∧Hid (w'.ownsRow w.heap.size 9 1 v' (valE T kind key T).length ((valE T kind key T).map Value.string))∧Below w.heap.size w w' := by
 have HM:Hid (∀ a∈l,mayB a=true):=hm
 have HTB:Hid (∀ T,IsTold l T→T.length≤4194304):=htb
 clear htb
 have HC1:Hid (∀ W,Below w.heap.size w W→Calls Tryz.prog 76 #[va] W fun e w' => ∃ v' out,e = .returned v' ∧ w'.ownsRow W.heap.size 76 6 v' out.length (flat out)∧Hid (IsTold l out)∧Below W.heap.size W w'):=fun W hW=>zmP va l W (h1.below hW) (fun a ha=>zdj (HM.out a ha)) (by omega)
 obtain ⟨i0,hi,hz0,hz1,hz2⟩:=info_parts zfl
 clear h1 hm
 go_enter Tryz.func200,Tryz.ntmps200
 go_wp2_with fail
 have hb0:=zaO (zaO (Below.refl _ w) (.cells #[.int .i64 0,.slice none 0 0] 129)) (.cells #[.int .i64 0,.slice none 0 0] 129)
 have hz0' : ((w.alloc (.cells #[.int .i64 0,.slice none 0 0] 129)).alloc (.cells #[.int .i64 0,.slice none 0 0] 129)).heap.size=w.heap.size+1+1:=by simp
 have hr0:ResAt ((w.alloc (.cells #[.int .i64 0,.slice none 0 0] 129)).alloc (.cells #[.int .i64 0,.slice none 0 0] 129)) w.heap.size:=by
  unfold ResAt
  rw [Below.heap_alloc _ _ _ (by simp)]
  exact heap_alloc_new w _
 have hv0:VarAt ((w.alloc (.cells #[.int .i64 0,.slice none 0 0] 129)).alloc (.cells #[.int .i64 0,.slice none 0 0] 129)) (w.heap.size+1) 0 (.slice none 0 0):=by
  have:=heap_alloc_new (w.alloc (.cells #[.int .i64 0,.slice none 0 0] 129)) (.cells #[.int .i64 0,.slice none 0 0] 129)
  unfold VarAt
  simpa using this
 generalize (w.alloc (.cells #[.int .i64 0,.slice none 0 0] 129)).alloc (.cells #[.int .i64 0,.slice none 0 0] 129)=w0 at *
 refine (HC1.out w0 hb0).mono ?_
 rintro e w1 ⟨vT,T,rfl,hoT,hT,hb1⟩
 have hbw1:Below w.heap.size w w1:=hb0.trans (hb1.mono hb0.size)
 have hr1:Hid (ResAt w1 w.heap.size):=hr0.below hb1 (by omega)
 have hv1:Hid (VarAt w1 (w.heap.size+1) 0 (.slice none 0 0)):=hv0.block (hb1.block _ (by omega))
 have HMT:Hid (∀ a∈T,mayB a=true):=fun a ha=>HM.out a (hT.out.great a ha).1
 have hTl:=HTB.out T hT.out
 have HST:Hid (ValInv w w0 w1 w1 T vT (.slice none 0 0) (valN kind key (T.take 0)) (valE T kind key (T.take 0))):=⟨by have:=hv1.out;simpa [valN,ofKey] using this,by simp [valE,ofKey,World.ownsRow],hr1.out,hoT,hbw1,Nat.le_refl _,zh3 hoT,hz0',hb1.size⟩
 obtain ⟨adT,capT,rfl⟩:=zh1 hoT
 clear HC1 hr0 hv0 hb1 hoT hr1 hv1
 go_wp2
 go_loopw [9] (fun j wr=>∃ (k:Nat) (ve:Value),k≤T.length∧j = .int .i64 k∧Hid (ValInv w w0 w1 wr T (.slice adT T.length capT) ve (valN kind key (T.take k)) (valE T kind key (T.take k)))) (fun j _=>T.length - (intOf j).toNat)
 case atStart=>exact ⟨0,.slice none 0 0,Nat.zero_le _,rfl,HST⟩
 case round =>
  obtain ⟨k,ve,hkT,rfl,hinv⟩:=hrel
  by_cases hkl:k<T.length
  ·obtain ⟨ad',cap',e',-,HS⟩:=zlD rfl hinv.out.row
   cases e'
   obtain ⟨b,off,rfl,hb,hrow⟩:=HS (by omega)
   obtain ⟨c0,c1,c2,c3,c4,c5⟩:=hrow.nth hkl
   have hxm:=HMT.out _ (zg6 T k hkl)
   have hsn:T.take (k+1)=T.take k ++ [nth T k]:=by rw [List.take_succ_eq_append_getElem hkl,zg5 T k hkl]
   have hbnd:=zl8 (l:=ofKey (T.take k) kind key) (fun a ha=>HMT.out a (List.mem_of_mem_take (zgw.1 ha).1))
   have hokl:(ofKey (T.take k) kind key).length≤T.length:=by
    unfold ofKey
    refine Nat.le_trans (List.length_filter_le _ _) ?_
    rw [List.length_take]
    omega
   have HTV:Hid (kind=1∨kind=2→svs (ofKey (T.take k) kind key)=valN kind key (T.take k)):=fun h=>(zmZ (T:=T.take k) (kind:=kind) (key:=key) (fun a ha=>HMT.out a (List.mem_of_mem_take ha)) h).1
   have hle:=zni T (T.take k) kind key
   rw [List.length_take] at hle
   obtain ⟨d0,d1,f0,f1⟩:=hinv.out.var.cells
   obtain ⟨ade,cpe,hve⟩:=zh1 hinv.out.own
   have q1:(0:Int)≤(k:Int):=by omega
   have q2:(k:Int)<(T.length:Int):=by omega
   have HXT:Hid (nth T k∈T):=zg6 T k hkl
   obtain ⟨x,HXX⟩:∃ x,nth T k=x:=⟨_,rfl⟩
   rw [HXX] at c0 c1 c2 c3 c4 c5 hxm hsn HXT
   clear hrow HS
   by_cases hkx:x.ty=kind∧x.key=key
   ·obtain ⟨rfl,rfl⟩:=hkx
    have hcase:x.ty=1∨x.ty=2∨x.ty=3∨x.ty=4∨x.ty=5:=by omega
    obtain ⟨ty,xkey,side,who,elem,n⟩:=x
    simp only at *
    rcases hcase with rfl | rfl | rfl | rfl | rfl
    ·have hxs:side=0∧0≤n∧n≤2147483647:=by simp only [mayB,decide_eq_true_eq] at hxm;omega
     obtain ⟨rfl,hn0,hn1⟩:=hxs
     rw [HTV.out (by omega)] at hbnd
     have hN:valN 1 xkey (T.take (k+1))=valN 1 xkey (T.take k)+n:=by rw [hsn,znn (T.take k) ⟨1,xkey,0,who,elem,n⟩ 1 xkey ⟨rfl,rfl⟩ (.inl rfl)];simp
     have hE:valE T 1 xkey (T.take (k+1))=valE T 1 xkey (T.take k):=by rw [hsn,znj,if_neg (by simp [keepsE])]
     have HN:Hid (valN 1 xkey (T.take (k+1))=valN 1 xkey (T.take k)+n):=hN
     have HE:Hid (valE T 1 xkey (T.take (k+1))=valE T 1 xkey (T.take k)):=hE
     clear hN hE HTV hsn
     generalize hNN:valN 1 xkey (T.take k)=N at *
     have HNN:Hid (valN 1 xkey (T.take k)=N):=hNN
     clear hNN
     go_wp2
     go_region
     go_wp2
     exact ⟨⟨k+1,ve,by omega,by go_num,((hinv.out.count _).drew).to HN.out HE.out⟩,by simp [intOf];omega⟩
    ·have hxs:(side=0∨side=1)∧0≤n∧n≤2147483647:=by simp only [mayB,decide_eq_true_eq] at hxm;omega
     obtain ⟨hsd,hn0,hn1⟩:=hxs
     rw [HTV.out (by omega)] at hbnd
     have HN:Hid (valN 2 xkey (T.take (k+1))=valN 2 xkey (T.take k)+n*(1 - 2*side)):=by rw [Hid,hsn,znn (T.take k) ⟨2,xkey,side,who,elem,n⟩ 2 xkey ⟨rfl,rfl⟩ (.inr rfl)]
     have HE:Hid (valE T 2 xkey (T.take (k+1))=valE T 2 xkey (T.take k)):=by rw [Hid,hsn,znj,if_neg (by simp [keepsE])]
     clear HTV hsn
     generalize valN 2 xkey (T.take k)=N at *
     rcases hsd with rfl | rfl
     ·go_wp2
      go_region
      go_wp2
      refine ⟨⟨k+1,ve,by omega,by go_num,((hinv.out.count _).drew).to ?_ HE.out⟩,by simp [intOf];omega⟩
      rw [HN.out]
      omega
     ·go_wp2
      go_region
      go_wp2
      refine ⟨⟨k+1,ve,by omega,by go_num,((hinv.out.count _).drew).to ?_ HE.out⟩,by simp [intOf];omega⟩
      rw [HN.out]
      omega
    ·have HN:Hid (valN 3 xkey (T.take (k+1))=valN 3 xkey (T.take k)):=by rw [Hid,znl _ _ _ (.inl rfl),znl _ _ _ (.inl rfl)]
     have HE:Hid (valE T 3 xkey (T.take (k+1))=valE T 3 xkey (T.take k) ++ [elem]):=by rw [Hid,hsn,znj,if_pos ⟨⟨rfl,rfl⟩,by simp [keepsE]⟩]
     have hown:=hinv.out.own
     have hsb:=hinv.out.size
     clear HTV hsn hbnd hokl
     generalize hee:valE T 3 xkey (T.take k)=ee at *
     have HEE:Hid (valE T 3 xkey (T.take k)=ee):=hee
     clear hee
     subst hve
     have hvar:=hinv.out.var
     have hlq:=hvar.lt
     have hneq:some (w.heap.size+1) ≠ (Value.slice ade ee.length cpe).ownBlock:=zgO hown _ (by have:=hinv.out.z0;have:=hinv.out.z1;omega)
     go_wp2
     go_region_law (refine step_append_lies _ rfl _ _ 86 rfl w1.heap.size 9 i0 _ 1 16 Tryz.underlying86 hi hz0 hz1 hz2 rfl (by decide) _ ee.length _ rfl (hown.alloc _) ⟨wr.heap.size,0,none⟩ 1 1 [.string elem] rfl rfl (World.news_of_block (heap_alloc_new wr _)) (by simp [Value.oneCell']) (by decide) (by unfold maxLen;omega) (by omega) (by simp;omega) (wr.heap.size+1) (by simp) ?_;intro g capn w3 hown3 hgrow3 hat3 hlt3;obtain ⟨-,e1,-,g1⟩:=(VarAt.grown2 hgrow3 hneq (VarAt.block hvar (Below.heap_alloc wr _ _ hlq))).cells)
     all_goals go_wp2
     all_goals exact ⟨⟨k+1,_,by omega,by go_num,(hinv.out.more (zev (World.grownBy_alloc _ _ _) (zew hgrow3)) hown3).to HN.out HE.out⟩,by simp [intOf];omega⟩
    ·have HN:Hid (valN 4 xkey (T.take (k+1))=valN 4 xkey (T.take k)):=by rw [Hid,znl _ _ _ (.inr rfl),znl _ _ _ (.inr rfl)]
     have HE1:Hid (side ≠ 1∧isGone T xkey elem=false→valE T 4 xkey (T.take (k+1))=valE T 4 xkey (T.take k) ++ [elem]):=fun h=>by rw [hsn,znj,if_pos ⟨⟨rfl,rfl⟩,by simp [keepsE,h.1,h.2]⟩]
     have HE2:Hid (¬ (side ≠ 1∧isGone T xkey elem=false)→valE T 4 xkey (T.take (k+1))=valE T 4 xkey (T.take k)):=fun h=>by
      rw [hsn,znj,if_neg (fun hc=>h ?_)]
      have:=hc.2
      simpa [keepsE] using this
     have HXN:Hid (nth T k=⟨4,xkey,side,who,elem,n⟩):=HXX
     clear HTV hsn hbnd hokl
     generalize valE T 4 xkey (T.take k)=ee at *
     go_wp2
     go_loopw [10,11] (fun g j w' => ∃ m:Nat,m≤T.length∧j = .int .i64 m∧Hid (g = .bool (decide (side=1) || isGone (T.take m) xkey elem))∧Hid (ValInv w w0 w1 w' T (.slice (some ⟨b,off,none⟩) T.length capT) ve (valN 4 xkey (T.take k)) ee)) (fun _ j _=>T.length - (intOf j).toNat)
     case atStart=>exact ⟨0,Nat.zero_le _,rfl,by by_cases h:side=1 <;> simp [Hid,isGone,h],hinv⟩
     case round =>
      obtain ⟨m,hmT,rfl,hg,hinv2⟩:=hrel
      by_cases hml:m<T.length
      ·obtain ⟨ad',cap',e',-,HS⟩:=zlD rfl hinv2.out.row
       cases e'
       obtain ⟨b',off',e',hb',hrow'⟩:=HS (by omega)
       cases e'
       have hxc:=hrow'.nth hkl
       rw [HXN.out] at hxc
       obtain ⟨x0,x1,x2,x3,x4,x5⟩:=hxc
       obtain ⟨y0,y1,y2,y3,y4,y5⟩:=hrow'.nth hml
       have hgs:isGone (T.take (m+1)) xkey elem=(isGone (T.take m) xkey elem || decide ((nth T m).ty=4∧(nth T m).key=xkey∧(nth T m).side=1∧(nth T m).elem=elem)):=by
        unfold isGone
        rw [List.take_succ_eq_append_getElem hml,zg5 T m hml,List.any_append]
        simp
       have r1:(0:Int)≤(m:Int):=by omega
       have r2:(m:Int)<(T.length:Int):=by omega
       generalize nth T m=y at *
       obtain ⟨yt,yk,ys,yw,ye,yn⟩:=y
       simp only at *
       obtain rfl:=hg.out
       have HGS:Hid (isGone (T.take (m+1)) xkey elem=(isGone (T.take m) xkey elem || decide (yt=4∧yk=xkey∧ys=1∧ye=elem))):=hgs
       clear hgs hrow' HS hg hinv c0 c1 c2 c3 c4 c5 d0 d1 f0 f1 hxm hle hi hz0 hz1 hz2 HST hT HMT HN HE1 HE2 HM
       generalize hgb:(decide (side=1) || isGone (T.take m) xkey elem)=gb at *
       by_cases hall:yt=4∧yk=xkey∧ys=1∧ye=elem
       ·have HG2:Hid (true=(decide (side=1) || isGone (T.take (m+1)) xkey elem)):=by rw [Hid,HGS.out,decide_eq_true hall];simp
        obtain ⟨rfl,rfl,rfl,rfl⟩:=hall
        clear hgb HGS
        go_wp2
        go_big_quiet (fail)
        go_wp2
        exact ⟨⟨m+1,by omega,by go_num,congrArg Value.bool HG2.out,hinv2.out.drewN _⟩,by simp [intOf];omega⟩
       ·have HG2:Hid (gb=(decide (side=1) || isGone (T.take (m+1)) xkey elem)):=by rw [Hid,HGS.out,decide_eq_false hall,Bool.or_false];exact hgb.symm
        clear hgb HGS
        by_cases h1:yt=4
        ·by_cases h2:yk=xkey
         ·by_cases h3:ys=1
          ·have h4:=zl1 (fun e=>hall ⟨h1,h2,h3,e⟩)
           subst h1 h2 h3
           go_wp2
           go_big_quiet (fail)
           go_wp2
           exact ⟨⟨m+1,by omega,by go_num,congrArg Value.bool HG2.out,hinv2.out.drewN _⟩,by simp [intOf];omega⟩
          ·subst h1 h2
           go_wp2
           have h5:decide (ys=1)=false:=decide_eq_false h3
           have h6:(ys == 1)=false:=by simpa using h3
           go_big_quiet (fail)
           go_wp2
           exact ⟨⟨m+1,by omega,by go_num,congrArg Value.bool HG2.out,hinv2.out.drewN _⟩,by simp [intOf];omega⟩
         ·have h4:=zl1 h2
          subst h1
          go_wp2
          go_big_quiet (fail)
          go_wp2
          exact ⟨⟨m+1,by omega,by go_num,congrArg Value.bool HG2.out,hinv2.out.drewN _⟩,by simp [intOf];omega⟩
        ·go_wp2
         have h5:decide (yt=4)=false:=decide_eq_false h1
         have h6:(yt == 4)=false:=by simpa using h1
         go_big_quiet (fail)
         go_wp2
         exact ⟨⟨m+1,by omega,by go_num,congrArg Value.bool HG2.out,hinv2.out.drewN _⟩,by simp [intOf];omega⟩
      ·have hgm:isGone (T.take m) xkey elem=isGone T xkey elem:=by rw [List.take_of_length_le (by omega)]
       obtain rfl:=hg.out
       rw [hgm]
       have hown:=hinv2.out.own
       have hsb:=hinv2.out.size
       have hvar:=hinv2.out.var
       obtain ⟨ad',cap',e',-,HS⟩:=zlD rfl hinv2.out.row
       cases e'
       obtain ⟨b',off',e',hb',hrow'⟩:=HS (by omega)
       cases e'
       have hxc:=hrow'.nth hkl
       rw [HXN.out] at hxc
       obtain ⟨x0,x1,x2,x3,x4,x5⟩:=hxc
       obtain ⟨-,d1',-,f1'⟩:=hvar.cells
       have hlq:=hvar.lt
       clear hrow' HS hg hinv hgm
       cases hdec:(decide (side=1) || isGone T xkey elem) with
       | true =>
        have HE:Hid (valE T 4 xkey (T.take (k+1))=ee):=HE2.out (fun h=>by rw [decide_eq_false h.1,h.2] at hdec;cases hdec)
        clear hdec HE1 HE2
        go_wp2
        exact ⟨⟨k+1,ve,by omega,by go_num,hinv2.out.to HN.out HE.out⟩,by simp [intOf];omega⟩
       | false =>
        have HE:Hid (valE T 4 xkey (T.take (k+1))=ee ++ [elem]):=HE1.out (by
         rw [Bool.or_eq_false_iff] at hdec
         exact ⟨of_decide_eq_false hdec.1,hdec.2⟩)
        clear hdec HE1 HE2
        subst hve
        have hneq:some (w.heap.size+1) ≠ (Value.slice ade ee.length cpe).ownBlock:=zgO hown _ (by have:=hinv2.out.z0;have:=hinv2.out.z1;omega)
        go_wp2
        go_region_law (refine step_append_lies _ rfl _ _ 86 rfl w1.heap.size 9 i0 _ 1 16 Tryz.underlying86 hi hz0 hz1 hz2 rfl (by decide) _ ee.length _ rfl (hown.alloc _) ⟨wr.heap.size,0,none⟩ 1 1 [.string elem] rfl rfl (World.news_of_block (heap_alloc_new wr _)) (by simp [Value.oneCell']) (by decide) (by unfold maxLen;omega) (by omega) (by simp;omega) (wr.heap.size+1) (by simp) ?_;intro g capn w3 hown3 hgrow3 hat3 hlt3;obtain ⟨-,e1,-,g1⟩:=(VarAt.grown2 hgrow3 hneq (VarAt.block hvar (Below.heap_alloc wr _ _ hlq))).cells)
        all_goals go_wp2
        all_goals exact ⟨⟨k+1,_,by omega,by go_num,(hinv2.out.more (zev (World.grownBy_alloc _ _ _) (zew hgrow3)) hown3).to HN.out HE.out⟩,by simp [intOf];omega⟩
    ·have HN:Hid (valN 5 xkey (T.take (k+1))=n):=by rw [Hid,hsn];exact znk (T.take k) ⟨5,xkey,side,who,elem,n⟩ xkey ⟨rfl,rfl⟩
     have HE:Hid (valE T 5 xkey (T.take (k+1))=valE T 5 xkey (T.take k) ++ [elem]):=by rw [Hid,hsn,znj,if_pos ⟨⟨rfl,rfl⟩,by simp [keepsE]⟩]
     have hbq:w0.heap.size≤b:=zh4 hinv.out.row b rfl
     have hz0b:=hinv.out.z0
     have hbq2:b ≠ w.heap.size+1:=by omega
     have hinv5:=hinv.out.count n
     have hown:=hinv5.own
     have hsb:=hinv5.size
     have c4' : (wr.setCell ⟨w.heap.size+1,0,none⟩ (.int .i64 n)).cell? ⟨b,off+k*6+4,none⟩=some (.string elem):=(World.cell?_setCell_other _ _ _ _ (fun e=>hbq2 (by cases e))).trans c4
     obtain ⟨-,d1',-,f1'⟩:=hinv5.var.cells
     have hszs:(wr.setCell ⟨w.heap.size+1,0,none⟩ (.int .i64 n)).heap.size=wr.heap.size:=by simp
     clear HTV hsn hbnd hokl
     generalize valE T 5 xkey (T.take k)=ee at *
     subst hve
     have hvar:=hinv5.var
     have hlq:=hvar.lt
     have hneq:some (w.heap.size+1) ≠ (Value.slice ade ee.length cpe).ownBlock:=zgO hown _ (by have:=hinv5.z0;have:=hinv5.z1;omega)
     go_wp2
     generalize wr.setCell ⟨w.heap.size+1,0,none⟩ (.int .i64 n)=w5 at *
     clear hszs
     go_region_law (refine step_append_lies _ rfl _ _ 86 rfl w1.heap.size 9 i0 _ 1 16 Tryz.underlying86 hi hz0 hz1 hz2 rfl (by decide) _ ee.length _ rfl (hown.alloc _) ⟨w5.heap.size,0,none⟩ 1 1 [.string elem] rfl rfl (World.news_of_block (heap_alloc_new w5 _)) (by simp [Value.oneCell']) (by decide) (by unfold maxLen;omega) (by omega) (by simp;omega) (w5.heap.size+1) (by simp) ?_;intro g capn w3 hown3 hgrow3 hat3 hlt3;obtain ⟨-,e1,-,g1⟩:=(VarAt.grown2 hgrow3 hneq (VarAt.block hvar (Below.heap_alloc w5 _ _ hlq))).cells)
     all_goals go_wp2
     all_goals exact ⟨⟨k+1,_,by omega,by go_num,(hinv5.more (zev (World.grownBy_alloc _ _ _) (zew hgrow3)) hown3).to HN.out HE.out⟩,by simp [intOf];omega⟩
   ·have HVN:Hid (valN kind key (T.take (k+1))=valN kind key (T.take k)):=by rw [Hid,hsn];exact znm _ _ _ _ hkx
    have HVE:Hid (valE T kind key (T.take (k+1))=valE T kind key (T.take k)):=by rw [Hid,hsn,znj,if_neg (fun h=>hkx h.1)]
    have HI2:Hid (ValInv w w0 w1 wr T (.slice (some ⟨b,off,none⟩) T.length capT) ve (valN kind key (T.take (k+1))) (valE T kind key (T.take (k+1)))):=hinv.out.to HVN.out HVE.out
    clear HVN HVE hsn hinv
    by_cases hty:x.ty=kind
    ·have hke:¬ x.key=key:=fun e=>hkx ⟨hty,e⟩
     have hke2:=zl1 hke
     subst hty
     go_wp2
     exact ⟨⟨k+1,ve,by omega,by go_num,HI2⟩,by simp [intOf];omega⟩
    ·go_wp2
     exact ⟨⟨k+1,ve,by omega,by go_num,HI2⟩,by simp [intOf];omega⟩
  ·have hkk:T.take k=T:=List.take_of_length_le (by omega)
   have hinv' := hinv.out
   rw [hkk] at hinv'
   have HI:Hid (ValInv w w0 w1 wr T (.slice adT T.length capT) ve (valN kind key T) (valE T kind key T)):=hinv'
   obtain ⟨d0,d1,f0,f1⟩:=hinv'.var.cells
   obtain ⟨r0,r1,g0,g1⟩:=hinv'.res.cells
   obtain ⟨ade,cpe,hve⟩:=zh1 hinv'.own
   subst hve
   have q2:¬ (k:Int)<(T.length:Int):=by omega
   clear hinv hinv' hkk HST
   go_wp2
   have z0:=HI.out.z0
   have z1:=HI.out.z1
   refine bodyPost_ret (v := .agg #[.int .i64 (valN kind key T),.slice ade (valE T kind key T).length cpe]) ?_ rfl ⟨T,_,rfl,hT,zic (zif (zif HI.out.own (by omega)) (by omega)) (by omega),(HI.out.bel.setCell (Nat.le_refl _) _).setCell (Nat.le_refl _) _⟩
   simp [results,Tryz.results200,go_sem,r0,r1]
open Go.RowKit
set_option maxRecDepth 100000 in
theorem zkg (v:Value)(l:List At)(kind:Int)(key:ByteArray)(w:World)(h1:SliceOf w v l)(hs1:∀ a∈l,short a)(hlen:l.length≤549755813888)(htb:∀ T,IsTold l T→T.length≤4194304)(hk:key.size≤1099511627776) :
  Calls Tryz.prog 172 #[v,.int .i64 kind,.string key] w fun e w' => ∃ n v' es,e = .returned (.tuple #[.agg #[.int .i64 n,v'],.int .i64 (readCode l kind)])∧w'.ownsRow w.heap.size 9 1 v' es.length (es.map Value.string)∧Hid (ReadSpec l kind key n es)∧Below w.heap.size w w' := by
 have HC1:Hid (∀ W,Below w.heap.size w W→Calls Tryz.prog 199 #[v] W fun e w' => e = .returned (.bool (l.all mayB))∧Below W.heap.size W w'):=fun W hW=>zgr v l W (h1.below hW) hs1 (by omega)
 have HC2:Hid (l.all mayB=true→1≤kind∧kind≤5→∀ W,Below w.heap.size w W→Calls Tryz.prog 200 #[v,.int .i64 kind,.string key] W fun e w' => ∃ T v',e = .returned (.agg #[.int .i64 (valN kind key T),v'])∧Hid (IsTold l T)∧Hid (w'.ownsRow W.heap.size 9 1 v' (valE T kind key T).length ((valE T kind key T).map Value.string))∧Below W.heap.size W w'):=fun hl hki W hW=>zno v l kind key W (h1.below hW) (List.all_eq_true.1 hl) hlen htb hk hki
 clear h1 hs1 htb
 go_enter Tryz.func172,Tryz.ntmps172
 go_wp2_with fail
 have hb0:=zaO (Below.refl _ w) (.cells #[.int .i64 0,.slice none 0 0] 129)
 have hz0:(w.alloc (.cells #[.int .i64 0,.slice none 0 0] 129)).heap.size=w.heap.size+1:=by simp
 have hr0:ResAt (w.alloc (.cells #[.int .i64 0,.slice none 0 0] 129)) w.heap.size:=heap_alloc_new w _
 generalize w.alloc (.cells #[.int .i64 0,.slice none 0 0] 129)=w0 at *
 refine (HC1.out w0 hb0).mono ?_
 rintro e w1 ⟨rfl,hb1⟩
 have hbw1:Below w.heap.size w w1:=hb0.trans (hb1.mono hb0.size)
 have hr1:ResAt w1 w.heap.size:=hr0.below hb1 (by omega)
 have hsz1:=hb1.size
 clear HC1 hr0 hb1
 cases hl:l.all mayB
 ·have HCD:Hid (readCode l kind=1):=by rw [Hid];unfold readCode;rw [hl];rfl
  obtain ⟨c0,c1,f0,f1⟩:=hr1.cells
  clear HC2 hl
  go_wp2
  refine bodyPost_ret (v := .tuple #[.agg #[.int .i64 0,.slice none 0 0],.int .i64 1]) ?_ rfl ⟨0,_,[],by rw [HCD.out],⟨rfl,.inl ⟨rfl,rfl⟩⟩,.inr ⟨by rw [HCD.out];omega,rfl,rfl⟩,?_⟩
  ·simp [results,Tryz.results172,go_sem,c0,c1]
  ·exact (hbw1.setCell (Nat.le_refl _) _).setCell (Nat.le_refl _) _
 ·by_cases hki:1≤kind∧kind≤5
  ·have hc:readCode l kind=0:=by unfold readCode;rw [hl,if_pos rfl,if_pos hki]
   have HML:Hid (∀ a∈l,mayB a=true):=List.all_eq_true.1 hl
   have HCD:Hid (readCode l kind=0):=hc
   have hcv:=HC2.out hl hki w1 hbw1
   have HR1:Hid (ResAt w1 w.heap.size):=hr1
   clear HC2 hl hr1 hc
   go_wp2_with fail
   refine hcv.mono ?_
   rintro e w2 ⟨T,v',rfl,hT,ho,hb2⟩
   obtain ⟨c0,c1,f0,f1⟩:=(HR1.out.below hb2 (by omega)).cells
   have hbw2:Below w.heap.size w w2:=hbw1.trans (hb2.mono hbw1.size)
   obtain ⟨ad,cp,hv⟩:=zh1 ho.out
   subst hv
   clear hcv HR1
   go_wp2
   refine bodyPost_ret (v := .tuple #[.agg #[.int .i64 (valN kind key T),.slice ad (valE T kind key T).length cp],.int .i64 0]) ?_ rfl ⟨_,_,_,by rw [HCD.out],zic (zif (zif ho.out (by omega)) (by omega)) (by omega),.inl ⟨HCD.out,HML.out,T,hT.out,rfl,rfl⟩,(hbw2.setCell (Nat.le_refl _) _).setCell (Nat.le_refl _) _⟩
   simp [results,Tryz.results172,go_sem,c0,c1]
  ·have hc:readCode l kind=6:=by unfold readCode;rw [hl,if_pos rfl,if_neg hki]
   obtain ⟨c0,c1,f0,f1⟩:=hr1.cells
   have HCD:Hid (readCode l kind=6):=hc
   clear HC2 hl hc
   by_cases h1:kind<1
   ·go_wp2
    refine bodyPost_ret (v := .tuple #[.agg #[.int .i64 0,.slice none 0 0],.int .i64 6]) ?_ rfl ⟨0,_,[],by rw [HCD.out],⟨rfl,.inl ⟨rfl,rfl⟩⟩,.inr ⟨by rw [HCD.out];omega,rfl,rfl⟩,?_⟩
    ·simp [results,Tryz.results172,go_sem,c0,c1]
    ·exact (hbw1.setCell (Nat.le_refl _) _).setCell (Nat.le_refl _) _
   ·have h5:5<kind:=by omega
    have h1' : 1≤kind:=by omega
    go_wp2
    refine bodyPost_ret (v := .tuple #[.agg #[.int .i64 0,.slice none 0 0],.int .i64 6]) ?_ rfl ⟨0,_,[],by rw [HCD.out],⟨rfl,.inl ⟨rfl,rfl⟩⟩,.inr ⟨by rw [HCD.out];omega,rfl,rfl⟩,?_⟩
    ·simp [results,Tryz.results172,go_sem,c0,c1]
    ·exact (hbw1.setCell (Nat.le_refl _) _).setCell (Nat.le_refl _) _
def Clu.readErr (c:Clu)(r kind:Int):Int:=if c.works r=0 then readCode (c.rep r.toNat).atoms kind else c.works r
def Clu.readIs (c:Clu)(r kind:Int)(key:ByteArray)(n:Int)(es:List ByteArray):Prop:=(c.works r=0∧ReadSpec (c.rep r.toNat).atoms kind key n es)∨(c.works r ≠ 0∧n=0∧es = [])
theorem zmT {U:List At}{N:Nat}{l T:List At}(hL:Lim U N)(hs:∀ a∈l,a∈U)(h:IsTold l T):T.length≤4194304:=by
 have:=zfX (zlR h.sorted) fun x hx=>hs x (h.great x hx).1
 have:=hL.2
 omega
theorem zls {a:At}(h:mayB a=true):short a:=by
 have:=zdj h
 unfold fits at this
 unfold short
 omega
set_option maxRecDepth 100000 in
theorem zkf {w:World}{col:Col}{o x N:Nat}{U:List At}{K:RefC}{c:Clu}(h:RefAt w col o x K c)(hok:c.ok U N)(hL:Lim U N)(r kind:Int)(key:ByteArray)(hk:key.size≤1099511627776) :
  Calls Tryz.prog 127 #[.pointer (some ⟨x,0,none⟩),.int .i64 r,.int .i64 kind,.string key] w fun e w' => ∃ n v es,e = .returned (.tuple #[.agg #[.int .i64 n,v],.int .i64 (c.readErr r kind)])∧w'.ownsRow w.heap.size 9 1 v es.length (es.map Value.string)∧Hid (c.readIs r kind key n es)∧Below w.heap.size w w' := by
 have HW:Hid (∀ W,Below w.heap.size w W→Calls Tryz.prog 70 #[.pointer (some ⟨x,0,none⟩),.int .i64 r] W fun e w' => e = .returned (.int .i64 (c.works r))∧w' = W):=fun W hW=>zkv (h.same hW) hok.n6 r
 unfold Clu.readErr Clu.readIs
 by_cases hw:c.works r=0
 ·obtain ⟨⟨h0,hr⟩,hd⟩:=znz hw
  obtain ⟨n,rfl⟩:∃ n:Nat,r=n:=⟨r.toNat,by omega⟩
  simp only [Int.toNat_natCast] at hr hd ⊢
  obtain ⟨g,cap,D,hv,hc,hD,hp,hR⟩:=h.ptr hr
  have c5:=h.cells.2.2.2.2.2.1
  rw [hv] at c5
  have d1:=hR.cells.2.1
  have hrep:=hok.rep hr
  have hmA:=hrep.may hok.may
  obtain ⟨ad,cp,hva,_⟩:=id hR.atoms
  have HT:Hid (∀ W,Below w.heap.size w W→Calls Tryz.prog 172 #[.slice ad (c.rep n).atoms.length cp,.int .i64 kind,.string key] W fun e w' => ∃ n' v' es,e = .returned (.tuple #[.agg #[.int .i64 n',v'],.int .i64 (readCode (c.rep n).atoms kind)])∧w'.ownsRow W.heap.size 9 1 v' es.length (es.map Value.string)∧Hid (ReadSpec (c.rep n).atoms kind key n' es)∧Below W.heap.size W w'):=fun W hW=>zkg _ _ kind key W (by rw [← hva];exact hR.atoms.slice.below hW) (fun a ha=>zls (hmA a ha)) (by have:=hrep.alen;have:=hL.prod;omega) (fun T hT=>zmT hL hrep.sub hT) hk
  have hx:=zaY h.blk
  have hg:g<w.heap.size:=World.block_lt_of_cell? w ⟨g,n,none⟩ hp
  have hρ:=zaY hR.blk
  rw [hva] at d1
  rw [hw] at HW ⊢
  rw [if_pos rfl]
  clear h hR hok hrep hw hD hva hv hmA
  generalize hLL:c.reps.length=L at *
  clear hLL
  generalize (c.rep n).atoms=A at *
  generalize D.ρ=ρ at *
  have q1:(n:Int)<(L:Int):=by omega
  generalize hcd:readCode A kind=cd at *
  clear hcd
  go_enter Tryz.func127,Tryz.ntmps127
  go_wp2_with fail
  refine (HW.out _ (zaO (Below.refl _ _) _)).mono ?_
  rintro e w' ⟨rfl,rfl⟩
  go_wp2_with fail
  refine (HT.out _ (zaO (Below.refl _ _) _)).mono ?_
  rintro e w2 ⟨n2,v2,es,rfl,hown2,hsp,hb2⟩
  obtain ⟨ad2,cp2,hv2⟩:=zh1 hown2
  subst hv2
  have hrb:=(hb2.block w.heap.size (by simp)).trans (heap_alloc_new w (.cells #[.int .i64 0,.slice none 0 0] 129))
  have r0:w2.cell? ⟨w.heap.size,0,none⟩=some (.int .i64 0):=zaX hrb 0
  have r1:w2.cell? ⟨w.heap.size,1,none⟩=some (.slice none 0 0):=zaX hrb 1
  have rf0:w2.frozen? ⟨w.heap.size,0,none⟩=false:=zaZ hrb 0
  have rf1:w2.frozen? ⟨w.heap.size,1,none⟩=false:=zaZ hrb 1
  have hbw:=(zaO (Below.refl _ w) (.cells #[.int .i64 0,.slice none 0 0] 129)).trans (hb2.mono (by simp))
  have HO:Hid (w2.ownsRow (w.heap.size+1) 9 1 (.slice ad2 es.length cp2) es.length (es.map Value.string)):=by rw [Hid];simpa using hown2
  clear HT HW hown2 hb2 hrb
  go_wp2
  refine bodyPost_ret (v := .tuple #[.agg #[.int .i64 n2,.slice ad2 es.length cp2],.int .i64 cd]) ?_ rfl ⟨n2,_,es,rfl,zic (zie (zie HO.out (by omega)) (by omega)) (by omega),.inl ⟨by trivial,hsp.out⟩,(hbw.setCell (Nat.le_refl _) _).setCell (Nat.le_refl _) _⟩
  simp [results,Tryz.results127,go_sem,r0,r1]
 ·rw [if_neg hw]
  generalize c.works r=cd at *
  go_enter Tryz.func127,Tryz.ntmps127
  go_wp2_with fail
  refine (HW.out _ (zaO (Below.refl _ _) _)).mono ?_
  rintro e w' ⟨rfl,rfl⟩
  clear HW
  go_wp2
  refine bodyPost_ret (v := .tuple #[.agg #[.int .i64 0,.slice none 0 0],.int .i64 cd]) ?_ rfl ⟨0,.slice none 0 0,[],rfl,by simp [World.ownsRow],.inr ⟨hw,rfl,rfl⟩,zaO (Below.refl _ _) _⟩
  simp [results,Tryz.results127,go_sem]
open Go.RowKit Go.MuLone
end Go.Proofs.YtahdlejgjcjeoabGreatDoor
