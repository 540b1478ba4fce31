/- Read of the program: its refusals, and all together. -/
import Derived.Test.YtahdlejgjcjeoabGreatDoorA13
import Derived.Test.YtahdlejgjcjeoabGreatDoorA12
import Derived.Test.YtahdlejgjcjeoabGreatDoorA05
import Derived.Test.YtahdlejgjcjeoabGreatDoorA03
import Derived.Deep.RegionHeld3
import Derived.Deep.RegionHeldLaw
import Derived.Test.YtahdlejgjcjeoabGreatDoorA06
namespace Go.Proofs.YtahdlejgjcjeoabGreatDoor
set_option maxHeartbeats 8000000
open Go.RowKit Go.Sort
theorem zl5 (xs:List ByteArray):xs.map Value.string=(xs.map fun x=>x.data.toList).map encStr:=by
 rw [List.map_map]
 exact List.map_congr_left fun x _=>rfl
theorem zhN (x y:ByteArray):ordS y x = - ordS x y:=by
 have h:=ziC.anti ⟨5,x,0,0,x,0⟩ ⟨5,y,0,0,y,0⟩
 have e1:plc ⟨5,x,0,0,x,0⟩ ⟨5,y,0,0,y,0⟩=ordS x y:=by simp [plc]
 have e2:plc ⟨5,y,0,0,y,0⟩ ⟨5,x,0,0,x,0⟩=ordS y x:=by simp [plc]
 rwa [e1,e2] at h
theorem zge (x y:ByteArray):x.data.toList<y.data.toList ↔ ordS x y<0:=by
 have h1:=Go.Proofs.bytesLess_eq x.data.toList y.data.toList
 have h2:=zbh x.data.toList y.data.toList
 rw [h1] at h2
 have:=decide_eq_decide.1 h2
 exact this
theorem zfK {x y:ByteArray}(h:x.data.toList≤y.data.toList):ordS x y≤0:=by
 have h1:¬ ordS y x<0:=fun e=>(List.not_lt.2 h) ((zge y x).2 e)
 have:=zhN x y
 omega
theorem zeN {w:World}{g n:Nat}{os:Array Obj}{cur:Array Value}{e:TypeId}(F:Array (List UInt8))(hb:w.heap[g]? = some (.cells cur e (0,0))) :
  (grow (putRow encStr (Sort.ahead w n) g 0 F) os).heap[g]? = some (.cells (putCells encStr 0 F cur) e (0,0)):=by
 have hlt:=(Array.getElem?_eq_some_iff.1 hb).1
 rw [heap_grow_old _ _ (by simpa using hlt)]
 simp [putRow,mapBlock,Sort.ahead,Array.getElem?_modify,hb,onCells]
theorem zen {w:World}{g n:Nat}{os:Array Obj}(F:Array (List UInt8)):w.grownBy (grow (putRow encStr (Sort.ahead w n) g 0 F) os) (some g):=by
 refine ⟨rfl,rfl,rfl,by simp,fun k hk hne => ?_⟩
 rw [heap_grow_old _ _ (by simpa using hk)]
 have:g ≠ k:=fun e=>hne (by rw [e])
 simp [putRow,mapBlock,Sort.ahead,Array.getElem?_modify,this]
theorem zmk (cur:Array Value)(F:List (List UInt8))(h:F.length≤cur.size):(putCells encStr 0 F.toArray cur).toList.take F.length=F.map encStr:=by
 apply List.ext_getElem?
 intro j
 by_cases hj:j<F.length
 ·rw [List.getElem?_take_of_lt hj,Array.getElem?_toList]
  simp [putCells,hj,show j<cur.size by omega]
 ·rw [List.getElem?_take_eq_none (by omega),List.getElem?_eq_none (by simp;omega)]
theorem zlM (base g cap:Nat)(xs:List ByteArray)(w:World)(hown:w.ownsRow base 9 1 (.slice (some ⟨g,0,none⟩) xs.length cap) xs.length (xs.map Value.string))(hlen:xs.length<4611686018427387904) :
  Calls Tryz.prog 193 #[.slice (some ⟨g,0,none⟩) xs.length cap] w fun e w' =>
   e = .returned (.tuple #[])∧∃ ys:List ByteArray,ys.Perm xs∧ys.Pairwise (fun x y=>ordS x y≤0)∧w'.ownsRow base 9 1 (.slice (some ⟨g,0,none⟩) xs.length cap) xs.length (ys.map Value.string)∧w.grownBy w' (some g):=by
 rcases hown.2 with ⟨h0,_⟩ | ⟨g',cap',cur,hv,hbase,hb,h1,h2,h3,h4⟩
 ·cases h0
 cases hv
 obtain ⟨ss,hss⟩:∃ ss:List (List UInt8),ss=xs.map fun x=>x.data.toList:=⟨_,rfl⟩
 have hsl:ss.length=xs.length:=by rw [hss,List.length_map]
 rw [zl5,← hss,Nat.mul_one] at h4
 have hH:Holds encStr w g 0 ss.toArray:=by
  intro j hj
  have hj' : j<ss.length:=by simpa using hj
  refine ⟨?_,by simp [World.frozen?,hb]⟩
  have e1:(cur.toList.take xs.length)[j]? = (ss.map encStr)[j]? := by rw [h4]
  rw [List.getElem?_take_of_lt (by omega)] at e1
  simp only [World.cell?,hb,Nat.zero_add]
  simp only [Option.isSome_none,Bool.false_eq_true,if_false]
  rw [← Array.getElem?_toList,e1]
  simp [hj']
 have hcon:=Any.slices_Sort_string (P:=Tryz.prog) zlN g 0 cap ss w hH (Array.getElem?_eq_some_iff.1 hb).1 (by omega)
 rw [hsl] at hcon
 refine Calls.mono (show Calls Tryz.prog 193 _ _ _ from hcon) ?_
 rintro e w' ⟨rfl,n,os,rfl⟩
 have hp:(ss.mergeSort fun x y=>decide (x≤y)).Perm ss:=List.mergeSort_perm _ _
 have hpw:=List.pairwise_mergeSort (le:=fun x y:List UInt8=>decide (x≤y)) (fun a b c h1 h2=>by simp only [decide_eq_true_eq] at *;exact List.le_trans h1 h2) (fun a b=>by simp only [Bool.or_eq_true,decide_eq_true_eq];exact List.le_total a b) ss
 generalize ss.mergeSort (fun x y=>decide (x≤y))=F at *
 have hFl:F.length=xs.length:=by rw [hp.length_eq,hsl]
 have eF:(F.map fun l=>(⟨l.toArray⟩:ByteArray)).map Value.string=F.map encStr:=by rw [List.map_map];rfl
 refine ⟨rfl,F.map fun l=>⟨l.toArray⟩,?_,?_,?_,zen _⟩
 ·have:=hp.map fun l:List UInt8=>(⟨l.toArray⟩:ByteArray)
  rw [hss,List.map_map] at this
  have e:xs.map ((fun l:List UInt8=>(⟨l.toArray⟩:ByteArray)) ∘ fun x:ByteArray=>x.data.toList)=xs :=
   (List.map_congr_left (g:=id) fun x _=>rfl).trans (List.map_id xs)
  rwa [e] at this
 ·rw [List.pairwise_map]
  exact hpw.imp fun h=>zfK (by simpa using h)
 ·rw [eF]
  refine ⟨by simp [hFl],.inr ⟨g,cap,_,rfl,hbase,zeN _ hb,h1,h2,by simp [putCells,h3],?_⟩⟩
  have:=zmk cur F (by rw [hFl,h3];omega)
  rw [hFl] at this
  rw [Nat.mul_one]
  exact this
open Go.RowKit
theorem zbk {P:Program}{f:FuncId}{args args' : Array Value}{w:World}{Q Q' : Ending→World→Prop}(e:args' = args)(h:Calls P f args w Q)(hm:∀ e w',Q e w' → Q' e w'):Calls P f args' w Q' := by
 rw [e]
 exact h.mono hm
theorem zly {W w w' : World}{b:Nat}{x0 x1 x2 x3 x4 x5:Value}(h:Below W.heap.size W w∧b<w.heap.size∧w.cell? ⟨b,0,none⟩=some x0∧w.cell? ⟨b,1,none⟩=some x1∧w.cell? ⟨b,2,none⟩=some x2∧w.cell? ⟨b,3,none⟩=some x3∧w.cell? ⟨b,4,none⟩=some x4∧w.cell? ⟨b,5,none⟩=some x5)(hb:Below w.heap.size w w') :
  Below W.heap.size W w' ∧ b<w'.heap.size∧w'.cell? ⟨b,0,none⟩=some x0∧w'.cell? ⟨b,1,none⟩=some x1∧w'.cell? ⟨b,2,none⟩=some x2∧w'.cell? ⟨b,3,none⟩=some x3∧w'.cell? ⟨b,4,none⟩=some x4∧w'.cell? ⟨b,5,none⟩=some x5:=by
 obtain ⟨hW,z,c0,c1,c2,c3,c4,c5⟩:=h
 refine ⟨hW.trans (hb.mono hW.size),Nat.lt_of_lt_of_le z hb.size,?_,?_,?_,?_,?_,?_⟩ <;> (rw [hb.cell (p:=⟨b,_,none⟩) z];assumption)
theorem zlx {W w:World}{b:Nat}{x0 x1 x2 x3 x4 x5:Value}(h:Below W.heap.size W w∧b<w.heap.size∧w.cell? ⟨b,0,none⟩=some x0∧w.cell? ⟨b,1,none⟩=some x1∧w.cell? ⟨b,2,none⟩=some x2∧w.cell? ⟨b,3,none⟩=some x3∧w.cell? ⟨b,4,none⟩=some x4∧w.cell? ⟨b,5,none⟩=some x5) :
  Below W.heap.size W w.drew∧b<w.drew.heap.size∧w.drew.cell? ⟨b,0,none⟩=some x0∧w.drew.cell? ⟨b,1,none⟩=some x1∧w.drew.cell? ⟨b,2,none⟩=some x2∧w.drew.cell? ⟨b,3,none⟩=some x3∧w.drew.cell? ⟨b,4,none⟩=some x4∧w.drew.cell? ⟨b,5,none⟩=some x5:=zly h (Below.refl _ w).drew
theorem zlz {W w:World}{x0 x1 x2 x3 x4 x5:Value}{e:TypeId}{b:Nat}(hbn:b=w.heap.size)(h:Below W.heap.size W w) :
  Below W.heap.size W (w.alloc (.cells #[x0,x1,x2,x3,x4,x5] e))∧b<(w.alloc (.cells #[x0,x1,x2,x3,x4,x5] e)).heap.size∧(w.alloc (.cells #[x0,x1,x2,x3,x4,x5] e)).cell? ⟨b,0,none⟩=some x0∧(w.alloc (.cells #[x0,x1,x2,x3,x4,x5] e)).cell? ⟨b,1,none⟩=some x1∧(w.alloc (.cells #[x0,x1,x2,x3,x4,x5] e)).cell? ⟨b,2,none⟩=some x2∧(w.alloc (.cells #[x0,x1,x2,x3,x4,x5] e)).cell? ⟨b,3,none⟩=some x3∧(w.alloc (.cells #[x0,x1,x2,x3,x4,x5] e)).cell? ⟨b,4,none⟩=some x4∧(w.alloc (.cells #[x0,x1,x2,x3,x4,x5] e)).cell? ⟨b,5,none⟩=some x5:=by
 subst hbn
 exact ⟨zaO h _,by simp,zlv (MapKept.heap_alloc w _).1⟩
theorem zbq {w w' : World}{p:Addr}{u:Value}(h:w.cell? p=some u)(hb:Below w.heap.size w w'):w'.cell? p=some u:=by
 have:p.block<w.heap.size:=by
  have h0:w.heap[p.block]? ≠ none:=by
   intro hn
   unfold World.cell? at h
   simp [hn] at h
  have:=mt Array.getElem?_eq_none h0
  omega
 rw [hb.cell this]
 exact h
open Go.RowKit Go.Maps
theorem zjC {P:Program}{k:TypeId}{R:Value→Option (DataW Unit × List MemPlace)}{w w' : World}{b r n:Nat}{D:DataW Unit}{left:Lit→Bool}{cnt:Nat}(h:w.ranges P k R b r n D left cnt)(hb:Below w.heap.size w w'):w'.ranges P k R b r n D left cnt:=by
 have h1:=h.owns.lt
 have h2:=h.lt
 obtain ⟨es,clock,since,seen,c0,e1,e2,e3,e4,e5,e6⟩:=h
 exact ⟨es,clock,since,seen,c0,by rw [hb.block b h1];exact e1,e2,e3,e4,by rw [hb.block r h2];exact e5,e6⟩
set_option maxRecDepth 100000 in
theorem zcI (b n:Nat)(M:Sl→Option Gr)(w:World)(hm:StMap w b n M)(hmm:MayMap M)(hn:n≤8388608) :
  Calls Tryz.prog 156 #[.map (some b)] w fun e w' => ∃ (v' : Value) (C:List At) (ys:List ByteArray),e = .returned v' ∧ w'.ownsRow w.heap.size 9 1 v' ys.length (ys.map Value.string)∧Hid (Coll M (fun _=>false) C∧ys.Perm (elemsOf M C)∧ys.Pairwise (fun x y=>ordS x y≤0))∧Below w.heap.size w w' := by
 obtain ⟨D,hown,h2,h3⟩:=hm
 have HMM:Hid (MayMap M):=hmm
 have H2:Hid (∀ s:Sl,s.ok→M s=none→Maps.has D s.lit=false):=h2
 have H3:Hid (∀ s g,M s=some g→s.ok∧Maps.has D s.lit=true∧∀ z,D.atKey s.lit z=g.dat):=h3
 have hsz:=hown.size_le
 clear hmm h2 h3
 obtain ⟨i0,hi,hz0,hz1,hz2⟩:=info_parts zfl
 have hbw:=hown.lt
 go_enter Tryz.func156,Tryz.ntmps156
 go_wp2_with (at_range;refine wpList_range_own _ rfl _ 122 rfl 211 213 zlE Tryz.underlying122 grElem b n D rfl hown ?_;intro w0 hrg0 hg0 hs0)
 go_frame
 have hb0:Below w.heap.size w w0:=(Below.refl _ w).grown hg0 (Nat.le_refl _) (fun k hk=>by cases hk)
 go_loopw [3,4] (fun v _ wr=>∃ (left:Lit→Bool) (cnt:Nat) (C:List At),wr.ranges Tryz.prog 211 grElem b w.heap.size n D left cnt∧wr.ownsRow (w.heap.size+1) 9 1 v (elemsOf M C).length ((elemsOf M C).map Value.string)∧Hid (Coll M left C)∧C.length+cnt≤n∧Below w.heap.size w wr) (fun _ _ wr=>wr.rangeLeft b w.heap.size)
 case atStart =>
  refine ⟨Maps.has D,Maps.size D,[],hrg0,by simp [elemsOf,World.ownsRow],⟨.nil,fun a => ?_⟩,by simpa using hsz,hb0⟩
  constructor
  ·intro h;cases h
  ·rintro ⟨h1,h2⟩
   have:=(H3.out _ _ h1.2).2.1
   rw [this] at h2;cases h2
 case round =>
  obtain ⟨left,cnt,C,hrg,hrow,hC,hcnt,hbr⟩:=hrel
  have hel:=zcF M C
  go_wp2_with (at_next;refine wpList_next_ranges _ rfl _ rfl 211 zlE grElem (fun s:Sl => .agg #[.int .i64 s.ty,.string s.key,.int .i64 s.side,.int .i64 s.who,.string s.elem]) (fun g:Gr => .agg #[.int .i64 g.n,.int .i64 g.who,.string g.elem]) zlH (fun v y hv=>by obtain ⟨g,rfl,_⟩:=zec hv;exact ⟨g,rfl⟩) b w.heap.size n D left cnt rfl hrg ?_ ?_)
  ·intro _ hl0
   have HC0:Hid (Coll M (fun _=>false) C):=by
    have e:left=fun _=>false:=funext hl0
    rw [e] at hC
    exact hC
   clear hl0 hi hz0 hz1 hz2 hC hrg
   have HX:Hid (elemsOf M C=elemsOf M C):=rfl
   generalize hxs:elemsOf M C=xs at *
   have HXS:Hid (elemsOf M C=xs):=hxs
   clear hxs HX
   rcases hrow.2 with ⟨hv,hC0⟩ | ⟨g,cap,cur,hv,hbase,hblk,h1,h2,h3,h4⟩
   ·subst hv
    obtain rfl:=List.length_eq_zero_iff.1 hC0
    have hsn:=fun W=>Any.slices_Sort_string_none (P:=Tryz.prog) zlN none 0 W
    go_wp2_with fail
    refine Calls.mono (show Calls Tryz.prog 193 _ _ _ from hsn _) ?_
    rintro e w5 ⟨rfl,rfl⟩
    clear hsn
    go_wp2
    go_ret
    exact ⟨_,C,[],rfl,by simp [World.ownsRow],⟨HC0.out,by rw [HXS.out],.nil⟩,hbr⟩
   ·subst hv
    have hso:=zlM (w.heap.size+1) g cap xs wr hrow (by omega)
    clear h4
    go_wp2_with fail
    refine hso.mono ?_
    rintro e w5 ⟨rfl,ys,hperm,hsorted,hown5,hg5⟩
    have HTL:Hid (Coll M (fun _=>false) C∧ys.Perm (elemsOf M C)∧ys.Pairwise (fun x y=>ordS x y≤0)):=⟨HC0.out,by rw [HXS.out];exact hperm,hsorted⟩
    have hl5:xs.length=ys.length:=hperm.length_eq.symm
    have hfin:w5.ownsRow w.heap.size 9 1 (.slice (some ⟨g,0,none⟩) xs.length cap) ys.length (ys.map Value.string):=by rw [← hl5];exact zic hown5 (by omega)
    have hb5:Below w.heap.size w w5:=hbr.grown hg5 hbr.size (fun k hk=>by cases hk;omega)
    clear hso hperm hsorted hown5 hg5 hl5
    go_wp2
    go_ret
    exact ⟨_,C,ys,rfl,hfin,HTL,hb5⟩
  ·intro x c kl yd yp w2 cnt2 hkey hlk hv hat hrg2 hlt hg2 hs2 hen
   obtain ⟨hxok,rfl⟩:=zlJ x kl hkey
   have hMx:M x=some c:=by
    obtain ⟨g',hg',hz'⟩:=zec hv
    cases hM:M x with
    | none =>
     have hh:=H2.out x hxok hM
     rw [Maps.has_true_of_atKey hat] at hh
     cases hh
    | some g0 =>
     have:=(H3.out x g0 hM).2.2 .nil
     rw [hat] at this
     have hcc:grElem c.val=some (c.dat,[]):=zed c
     have hv' : grElem c.val=some (yd,yp):=hv
     rw [hcc] at hv'
     simp only [Option.some.injEq,Prod.mk.injEq] at hv'
     rw [Gr.dat_inj (hv'.1.trans this)]
   obtain ⟨a,ha,rfl,rfl⟩:=HMM.out x c hMx
   have HC2:Hid (Coll M (fun z=>left z && !z.sameKey (slot a).lit) (C ++ [a])):=hC.out.step ⟨ha,hMx⟩ hlk (fun s g h=>(H3.out s g h).1)
   have HSN:Hid (elemsOf M (C ++ [a])=if kept M a then elemsOf M C ++ [(slot a).elem] else elemsOf M C):=zcH M C a
   have hsz2:wr.heap.size≤w2.heap.size:=by omega
   have hst2:StMap w2 b n M:=⟨D,hrg2.owns,H2.out,H3.out⟩
   have hir:=fun W (h:StMap W b n M)=>zfx b n M (slot a) W h hxok
   clear hkey hat hv hMx hs2 hlk
   have hbr2:Below w.heap.size w w2:=hbr.grown hg2 hbr.size (fun k hk=>by cases hk;exact Nat.le_refl _)
   have hrow2:=zh9 hrow hg2 (Nat.lt_succ_self _)
   have HL:Hid (wr.rangeLeft b w.heap.size=cnt):=hrg.left_eq
   clear hg2 hrg ha hrow hC
   by_cases hsd:(slot a).side=0
   ·have hi2:=hir (w2.alloc (.cells #[.int .i64 (slot a).ty,.string (slot a).key,.int .i64 (slot a).side,.int .i64 (slot a).who,.string (slot a).elem] 211)) (hst2.alloc _)
    have hrg3:=hrg2.alloc (.cells #[.int .i64 (slot a).ty,.string (slot a).key,.int .i64 (slot a).side,.int .i64 (slot a).who,.string (slot a).elem] 211)
    have hrow3:=hrow2.alloc (.cells #[.int .i64 (slot a).ty,.string (slot a).key,.int .i64 (slot a).side,.int .i64 (slot a).who,.string (slot a).elem] 211)
    have hbr3:=zaO hbr2 (.cells #[.int .i64 (slot a).ty,.string (slot a).key,.int .i64 (slot a).side,.int .i64 (slot a).who,.string (slot a).elem] 211)
    have hz3:w2.heap.size<(w2.alloc (.cells #[.int .i64 (slot a).ty,.string (slot a).key,.int .i64 (slot a).side,.int .i64 (slot a).who,.string (slot a).elem] 211)).heap.size:=by simp
    clear hir hst2 hrg2 hrow2 hbr2
    rw [hsd] at hi2 hrg3 hrow3 hbr3 hz3
    cases hR:(M (slot a).one).isSome with
    | true =>
     have hk:kept M a=false:=by unfold kept;rw [← Option.not_isSome,hR];simp
     have HS2:Hid (elemsOf M (C ++ [a])=elemsOf M C):=by rw [Hid,HSN.out,hk];rfl
     rw [hR] at hi2
     clear HSN hk hR
     generalize (slot a).lit=kl at *
     generalize slot a=x at *
     generalize grade a=c at *
     go_wp2_with fail
     generalize hW3:w2.alloc (.cells #[.int .i64 x.ty,.string x.key,.int .i64 0,.int .i64 x.who,.string x.elem] 211)=w3 at *
     refine hi2.mono ?_
     rintro e w4 ⟨rfl,hb4⟩
     have hrg4:=zjC hrg3 hb4
     have hrow4:=zh5 hrow3 hb4
     have hbr4:Below w.heap.size w w4:=hbr3.trans (hb4.mono hbr3.size)
     clear hi2 hrg3 hrow3 hW3
     go_wp2
     refine ⟨⟨_,cnt2,C ++ [a],hrg4,by rw [HS2.out];exact hrow4,HC2,by simp;omega,hbr4⟩,?_⟩
     rw [hrg4.left_eq,HL.out]
     exact hlt
    | false =>
     have hk:kept M a=true:=by unfold kept;rw [← Option.not_isSome,hR];simp [hsd]
     have HS2:Hid (elemsOf M (C ++ [a])=elemsOf M C ++ [(slot a).elem]):=by rw [Hid,HSN.out,hk];rfl
     rw [hR] at hi2
     clear HSN hk hR
     generalize (slot a).lit=kl at *
     generalize slot a=x at *
     generalize grade a=c at *
     have hcx:(w2.alloc (.cells #[.int .i64 x.ty,.string x.key,.int .i64 0,.int .i64 x.who,.string x.elem] 211)).cell? ⟨w2.heap.size,4,none⟩=some (.string x.elem):=by simp
     go_wp2_with fail
     generalize hW3:w2.alloc (.cells #[.int .i64 x.ty,.string x.key,.int .i64 0,.int .i64 x.who,.string x.elem] 211)=w3 at *
     refine hi2.mono ?_
     rintro e w4 ⟨rfl,hb4⟩
     have hrg4:=zjC hrg3 hb4
     have hrow4:=zh5 hrow3 hb4
     have hbr4:Below w.heap.size w w4:=hbr3.trans (hb4.mono hbr3.size)
     have hcx4:=zbq hcx hb4
     have hz4:=hbr4.size
     clear hi2 hrg3 hrow3 hW3 hcx
     go_wp2_with (at_builtin;refine wpList_append_lies _ rfl _ _ 86 rfl (w.heap.size+1) 9 i0 _ 1 16 Tryz.underlying86 hi hz0 hz1 hz2 rfl (by decide) _ (elemsOf M C).length _ rfl (hrow4.alloc _) ⟨w4.heap.size,0,none⟩ 1 1 [.string x.elem] rfl rfl (World.news_of_block (heap_alloc_new w4 _)) (by simp [Value.oneCell']) (by decide) (by unfold maxLen;omega) (by omega) (by simp;omega) (w4.heap.size+1) (by simp) ?_;intro g capn w5 hown5 hgrow5 hat5 hlt5)
     have hrg5:=(hrg4.alloc (.cells #[.string x.elem] 9)).kept hgrow5 (zgO hrow4 _ (by omega)) (zgO hrow4 _ (Nat.lt_succ_self _))
     have hbr5:Below w.heap.size w w5:=(zaO hbr4 _).grown hgrow5 (by simp;omega) (fun q hq=>by have:=zh4 hrow4 q hq;omega)
     refine ⟨⟨_,cnt2,C ++ [a],hrg5,by rw [HS2.out,List.map_append,List.length_append];exact hown5,HC2,by simp;omega,hbr5⟩,?_⟩
     rw [hrg5.left_eq,HL.out]
     exact hlt
   ·have hk:kept M a=false:=by unfold kept;simp [hsd]
    have HS2:Hid (elemsOf M (C ++ [a])=elemsOf M C):=by rw [Hid,HSN.out,hk];rfl
    clear HSN hk hir hst2
    generalize (slot a).lit=kl at *
    generalize slot a=x at *
    generalize grade a=c at *
    go_wp2
    refine ⟨⟨_,cnt2,C ++ [a],(hrg2.alloc _),by rw [HS2.out];exact hrow2.alloc _,HC2,by simp;omega,zaO hbr2 _⟩,?_⟩
    rw [(hrg2.alloc _).left_eq,HL.out]
    exact hlt
theorem zfd:(Tryz.prog.info? 74).map (fun i=>(i.zero,i.size,i.bytes))=some (some (.agg #[.slice none 0 0,.int .i64 0]),2,32):=by kernel_rfl
theorem zaq {L:List At}{n:Nat}{k:Int}(hl:L.length=n)(h:∀ t,t<n→nth L t=mark k):L=List.replicate n (mark k):=by
 apply List.ext_getElem (by simp [hl])
 intro i h1 h2
 rw [← zg5 L i h1,h i (by omega)]
 simp
def regSlot (key:ByteArray):Sl:=⟨5,key,0,0,ByteArray.empty⟩
theorem zkx {M:Sl→Option Gr}{l T:List At}{key:ByteArray}(h:Holds2 M l)(hl:∀ a∈l,mayB a=true)(hT:IsTold l T)(hM:M (regSlot key)=none):valN 5 key T=0∧valE T 5 key T = []:=by
 have he:ofKey T 5 key = []:=by
  rw [List.eq_nil_iff_forall_not_mem]
  intro a ha
  obtain ⟨h1,h2,h3⟩:=zgw.1 ha
  have hm:=((zmR h hl hT a).1 h1).2
  have:slot a=regSlot key:=by unfold slot regSlot;rw [if_pos h2,h2,h3]
  rw [this,hM] at hm
  cases hm
 unfold valN valE
 rw [he]
 simp
theorem zky {M:Sl→Option Gr}{l T:List At}{key:ByteArray}{g:Gr}(h:Holds2 M l)(hl:∀ a∈l,mayB a=true)(hT:IsTold l T)(hM:M (regSlot key)=some g):valN 5 key T=g.n∧valE T 5 key T = [g.elem]:=by
 obtain ⟨a,ha,h1,h2⟩:=h.only _ _ hM
 have haT:a∈T:=(zmR h hl hT a).2 ⟨hl a ha,by rw [h1,h2];exact hM⟩
 have hty:a.ty=5:=by rw [← zlK a,h1];rfl
 have hke:a.key=key:=by rw [← zlG a,h1];rfl
 have hg:g=⟨a.n,a.who,a.elem⟩:=by rw [← h2];unfold grade;rw [if_pos hty]
 have he:ofKey T 5 key = [a]:=by
  refine zlQ ziC (zhg hT.sorted 5 key) (List.pairwise_singleton _ _) fun x => ?_
  rw [zgw,List.mem_singleton]
  constructor
  ·rintro ⟨x1,x2,x3⟩
   have hs:slot x=slot a:=by rw [h1];unfold slot regSlot;rw [if_pos x2,x2,x3]
   have hxm:=(zmR h hl hT x).1 x1
   have ham:=(zmR h hl hT a).1 haT
   have hgr:grade x=grade a:=by
    have:=hxm.2
    rw [hs,ham.2] at this
    exact (Option.some.inj this).symm
   rw [← zm8 x hxm.1,← zm8 a ham.1,hs,hgr]
  ·rintro rfl
   exact ⟨haT,hty,hke⟩
 unfold valN valE keepsE
 rw [he,hg]
 simp
set_option maxRecDepth 100000 in
theorem zkw (b n:Nat)(M:Sl→Option Gr)(key:ByteArray)(w:World)(hm:StMap w b n M)(hk:key.size≤1099511627776) :
  Calls Tryz.prog 157 #[.map (some b),.string key] w fun e w' => ∃ v,e = .returned (.agg #[.int .i64 (match M (regSlot key) with | some g=>g.n | none=>0),v])∧Hid (w'.ownsRow w.heap.size 9 1 v (match M (regSlot key) with | some _=>1 | none=>0) (match M (regSlot key) with | some g => [.string g.elem] | none => []))∧Below w.heap.size w w' := by
 have hok:(regSlot key).ok:=⟨(by decide:(Lit.int .i64 5).wf=true),(by show key.size≤maxLen;unfold maxLen;omega),(by decide:(Lit.int .i64 0).wf=true),(by decide:(Lit.int .i64 0).wf=true),(by decide:ByteArray.empty.size≤maxLen)⟩
 have hem:(ByteArray.empty:ByteArray)=⟨#[]⟩:=rfl
 cases hM:M (regSlot key) with
 | none =>
  have hgot:got M (regSlot key)=⟨0,0,ByteArray.empty⟩:=by unfold got;rw [hM];rfl
  have hsome:(M (regSlot key)).isSome=false:=by rw [hM];rfl
  clear hM
  go_enter Tryz.func157,Tryz.ntmps157
  go_wp2_with (at_lookup;refine znL _ rfl _ _ 122 rfl Tryz.underlying122 b n M rfl (by first | exact hm | exact hm.alloc _ | exact (hm.alloc _).alloc _) (regSlot key) hok rfl ⟨0,0,ByteArray.empty⟩ false hgot hsome ?_)
  refine bodyPost_ret (v := .agg #[.int .i64 0,.slice none 0 0]) ?_ rfl ⟨_,rfl,⟨rfl,.inl ⟨rfl,rfl⟩⟩,zaO (zaO (Below.refl _ _) _) _⟩
  simp [results,Tryz.results157,go_sem]
 | some g =>
  have hgot:got M (regSlot key)=g:=by unfold got;rw [hM];rfl
  have hsome:(M (regSlot key)).isSome=true:=by rw [hM];rfl
  clear hM
  go_enter Tryz.func157,Tryz.ntmps157
  go_wp2_with (at_lookup;refine znL _ rfl _ _ 122 rfl Tryz.underlying122 b n M rfl (by first | exact hm | exact hm.alloc _ | exact (hm.alloc _).alloc _) (regSlot key) hok rfl g true hgot hsome ?_)
  refine bodyPost_ret (v := .agg #[.int .i64 g.n,.slice (some ⟨w.heap.size+1+1,0,none⟩) 1 1]) ?_ rfl ⟨_,rfl,⟨rfl,.inr ⟨w.heap.size+1+1,1,#[.string g.elem],rfl,by omega,?_,Nat.le_refl _,by unfold maxLen;omega,rfl,rfl⟩⟩,zaO (zaO (zaO (Below.refl _ _) _) _) _⟩
  ·simp [results,Tryz.results157,go_sem]
  ·have:=heap_alloc_new ((w.alloc (.cells #[.int .i64 g.n,.slice (some ⟨w.heap.size+1+1,0,none⟩) 1 1] 129)).alloc (.cells #[.int .i64 g.n,.int .i64 g.who,.string g.elem] 213)) (.cells #[.string g.elem] 9)
   simpa using this
def readCode (l:List At)(kind:Int):Int:=if l.all mayB then (if 1≤kind∧kind≤5 then 0 else 6) else 1
def ReadSpec (l:List At)(kind:Int)(key:ByteArray)(n:Int)(es:List ByteArray):Prop :=
 (readCode l kind=0∧(∀ a∈l,mayB a=true)∧∃ T,IsTold l T∧n=valN kind key T∧es=valE T kind key T)∨(readCode l kind ≠ 0∧n=0∧es = [])
theorem ReadSpec.unique {l:List At}{kind:Int}{key:ByteArray}{n m:Int}{es fs:List ByteArray}(h:ReadSpec l kind key n es)(k:ReadSpec l kind key m fs):n=m∧es=fs:=by
 rcases h with ⟨h0,hm,T,hT,rfl,rfl⟩ | ⟨h0,rfl,rfl⟩
 ·rcases k with ⟨_,_,T',hT',rfl,rfl⟩ | ⟨k0,_⟩
  ·obtain rfl:=hT.unique hm hT'
   exact ⟨rfl,rfl⟩
  ·exact absurd h0 k0
 ·rcases k with ⟨k0,_⟩ | ⟨_,rfl,rfl⟩
  ·exact absurd k0 h0
  ·exact ⟨rfl,rfl⟩
def ResAt (w:World)(q:Nat):Prop:=w.heap[q]? = some (.cells #[.int .i64 0,.slice none 0 0] 129 (0,0))
theorem ResAt.cells {w:World}{q:Nat}(h:ResAt w q):w.cell? ⟨q,0,none⟩=some (.int .i64 0)∧w.cell? ⟨q,1,none⟩=some (.slice none 0 0)∧w.frozen? ⟨q,0,none⟩=false∧w.frozen? ⟨q,1,none⟩=false:=by
 unfold ResAt at h
 refine ⟨?_,?_,?_,?_⟩ <;> simp [World.cell?,World.frozen?,h]
theorem ResAt.below {w w' : World}{q B:Nat}(h:ResAt w q)(hb:Below B w w')(hq:q<B):ResAt w' q:=by
 unfold ResAt at *
 rw [hb.block q hq]
 exact h
theorem zif {w:World}{base q o:Nat}{e:TypeId}{s n:Nat}{v u:Value}{xs:List Value}(h:w.ownsRow base e s v n xs)(hq:q<base):(w.setCell ⟨q,o,none⟩ u).ownsRow base e s v n xs :=
 zh9 (r:=q) h ⟨rfl,rfl,rfl,by simp,fun i _ hne=>Below.heap_setCell _ _ _ i (fun e=>hne (by rw [e]))⟩ hq
set_option maxRecDepth 100000 in
theorem zjO (v:Value)(l T:List At)(kind:Int)(key:ByteArray)(w:World)(hr:RulesAt w)(h1:SliceOf w v l)(hs1:∀ a∈l,short a)(hlen:l.length≤4194304)(hk:key.size≤1099511627776)(hl:l.all mayB=true)(hT:IsTold l T)(hki:1≤kind∧kind≤5) :
  Calls Tryz.prog 106 #[v,.int .i64 kind,.string key] w fun e w' => ∃ v',e = .returned (.tuple #[.agg #[.int .i64 (valN kind key T),v'],.int .i64 0])∧Hid (w'.ownsRow w.heap.size 9 1 v' (valE T kind key T).length ((valE T kind key T).map Value.string))∧Below w.heap.size w w' := by
 have hmay:∀ a∈l,mayB a=true:=List.all_eq_true.1 hl
 have HML:Hid (∀ a∈l,mayB a=true):=hmay
 have HT:Hid (IsTold l T):=hT
 have HC1:Hid (∀ W,Below w.heap.size w W→Calls Tryz.prog 152 #[v] W fun e w' => ∃ b,e = .returned (.tuple #[.map (some b),.int .i64 0])∧W.heap.size≤b∧StMap w' b l.length (addTo (fun _=>none) l)∧Below W.heap.size W w'):=fun W hW=>zho v l W (hr.below hW hr.1) (h1.below hW) hs1 (by omega) hl
 have HH:Hid (Holds2 (addTo (fun _=>none) l) l):=zeV l
 generalize addTo (fun _=>none) l=M at *
 have hwi:wi kind 1 5=true:=by unfold wi;simp;omega
 clear hr h1 hs1 hl hT hmay
 go_enter Tryz.func106,Tryz.ntmps106
 go_wp2_with fail
 have hb0:=zaO (Below.refl _ w) (.cells #[.int .i64 0,.slice none 0 0] 129)
 have hz0:(w.alloc (.cells #[.int .i64 0,.slice none 0 0] 129)).heap.size=w.heap.size+1:=by simp
 have hr0:ResAt (w.alloc (.cells #[.int .i64 0,.slice none 0 0] 129)) w.heap.size:=heap_alloc_new w _
 generalize w.alloc (.cells #[.int .i64 0,.slice none 0 0] 129)=w0 at *
 refine (HC1.out w0 hb0).mono ?_
 rintro e w1 ⟨b,rfl,hbb,hst1,hb1⟩
 have hbw1:Below w.heap.size w w1:=hb0.trans (hb1.mono hb0.size)
 have hr1:=hr0.below hb1 (by omega)
 have hz1:=hb1.size
 clear HC1
 go_wp2_with fail
 refine (zfy kind w1).mono ?_
 rintro e w2 ⟨rfl,rfl⟩
 rw [hwi]
 have hc2:=zgL b l.length M kind key w2 hst1
 go_wp2_with fail
 refine hc2.mono ?_
 rintro e w3 ⟨rfl,hst3,hg3⟩
 have hbw3:Below w.heap.size w w3:=hbw1.grown hg3 hbw1.size (fun k hk=>by cases hk;omega)
 have hz3:=hg3.size
 have hr3:ResAt w3 w.heap.size:=by
  unfold ResAt at *
  rw [hg3.block w.heap.size (by omega) (by simp;omega)]
  exact hr1
 have HMM:Hid (MayMap (narrowM M kind key)):=by
  intro s g hs
  unfold narrowM at hs
  split at hs
  ·exact HH.out.mayMap HML.out s g hs
  ·cases hs
 clear hc2 hst1 hg3 hb1 hbw1 hr1 hr0 hb0
 have hcase:(kind=1∨kind=2)∨(kind=3∨kind=4)∨kind=5:=by omega
 rcases hcase with h12 | h34 | rfl
 ·have hct:=zmY b l.length (narrowM M kind key) w3 hst3.out HMM.out (by omega)
  have HV:Hid (∀ C,Coll (narrowM M kind key) (fun _=>false) C→svs C=valN kind key T):=fun C hC=>(zl9 (zb6 HH.out HML.out HT.out hC)).trans (zmZ (kind:=kind) (key:=key) (fun a ha=>HML.out a (HT.out.great a ha).1) h12).1
  have HE:Hid (valE T kind key T = []):=(zmZ (kind:=kind) (key:=key) (fun a ha=>HML.out a (HT.out.great a ha).1) h12).2
  have hfin:∀ W:World,Hid (W.ownsRow w.heap.size 9 1 (.slice none 0 0) (valE T kind key T).length ((valE T kind key T).map Value.string)):=fun W=>by rw [HE.out];exact ⟨rfl,.inl ⟨rfl,rfl⟩⟩
  rcases h12 with rfl | rfl
  ·go_wp2_with fail
   refine hct.mono ?_
   rintro e w4 ⟨C,rfl,hC,hb4⟩
   obtain ⟨c0,c1,f0,f1⟩:=(hr3.below hb4 (by omega)).cells
   have hbw4:Below w.heap.size w w4:=hbw3.trans (hb4.mono hbw3.size)
   rw [HV.out C hC.out]
   clear hct hC hr3
   go_wp2
   refine bodyPost_ret (v := .tuple #[.agg #[.int .i64 (valN 1 key T),.slice none 0 0],.int .i64 0]) ?_ rfl ⟨_,rfl,hfin _,(hbw4.setCell (Nat.le_refl _) _).setCell (Nat.le_refl _) _⟩
   simp [results,Tryz.results106,go_sem,c0,c1]
  ·go_wp2_with fail
   refine hct.mono ?_
   rintro e w4 ⟨C,rfl,hC,hb4⟩
   obtain ⟨c0,c1,f0,f1⟩:=(hr3.below hb4 (by omega)).cells
   have hbw4:Below w.heap.size w w4:=hbw3.trans (hb4.mono hbw3.size)
   rw [HV.out C hC.out]
   clear hct hC hr3
   go_wp2
   refine bodyPost_ret (v := .tuple #[.agg #[.int .i64 (valN 2 key T),.slice none 0 0],.int .i64 0]) ?_ rfl ⟨_,rfl,hfin _,(hbw4.setCell (Nat.le_refl _) _).setCell (Nat.le_refl _) _⟩
   simp [results,Tryz.results106,go_sem,c0,c1]
 ·have hct:=zcI b l.length (narrowM M kind key) w3 hst3.out HMM.out (by omega)
  have HV:Hid (∀ C (ys:List ByteArray),Coll (narrowM M kind key) (fun _=>false) C∧ys.Perm (elemsOf (narrowM M kind key) C)∧ys.Pairwise (fun x y=>ordS x y≤0)→ys=valE T kind key T):=fun C ys ⟨hC,hp,hs⟩=>by
   have he:=zcJ (kind:=kind) (key:=key) HH.out HML.out HT.out h34
   refine zmu (hp.trans ?_) hs he.2
   rw [← he.1]
   exact zcG (zb6 HH.out HML.out HT.out hC)
  have HN:Hid (valN kind key T=0):=znl T kind key h34
  rcases h34 with rfl | rfl
  ·go_wp2_with fail
   refine hct.mono ?_
   rintro e w4 ⟨v4,C,ys,rfl,hown4,hC,hb4⟩
   obtain ⟨c0,c1,f0,f1⟩:=(hr3.below hb4 (by omega)).cells
   have hbw4:Below w.heap.size w w4:=hbw3.trans (hb4.mono hbw3.size)
   obtain rfl:=HV.out C ys hC.out
   have HO:Hid (w4.ownsRow w3.heap.size 9 1 v4 (valE T 3 key T).length ((valE T 3 key T).map Value.string)):=hown4
   obtain ⟨ad,cp,rfl⟩:=zh1 hown4
   clear hct hC hr3 hown4
   go_wp2
   refine bodyPost_ret (v := .tuple #[.agg #[.int .i64 0,.slice ad (valE T 3 key T).length cp],.int .i64 0]) ?_ rfl ⟨_,by rw [HN.out],zic (zif (zif HO.out (by omega)) (by omega)) (by omega),(hbw4.setCell (Nat.le_refl _) _).setCell (Nat.le_refl _) _⟩
   simp [results,Tryz.results106,go_sem,c0,c1]
  ·go_wp2_with fail
   refine hct.mono ?_
   rintro e w4 ⟨v4,C,ys,rfl,hown4,hC,hb4⟩
   obtain ⟨c0,c1,f0,f1⟩:=(hr3.below hb4 (by omega)).cells
   have hbw4:Below w.heap.size w w4:=hbw3.trans (hb4.mono hbw3.size)
   obtain rfl:=HV.out C ys hC.out
   have HO:Hid (w4.ownsRow w3.heap.size 9 1 v4 (valE T 4 key T).length ((valE T 4 key T).map Value.string)):=hown4
   obtain ⟨ad,cp,rfl⟩:=zh1 hown4
   clear hct hC hr3 hown4
   go_wp2
   refine bodyPost_ret (v := .tuple #[.agg #[.int .i64 0,.slice ad (valE T 4 key T).length cp],.int .i64 0]) ?_ rfl ⟨_,by rw [HN.out],zic (zif (zif HO.out (by omega)) (by omega)) (by omega),(hbw4.setCell (Nat.le_refl _) _).setCell (Nat.le_refl _) _⟩
   simp [results,Tryz.results106,go_sem,c0,c1]
 ·have hct:=zkw b l.length (narrowM M 5 key) key w3 hst3.out hk
  have hnm:narrowM M 5 key (regSlot key)=M (regSlot key):=by unfold narrowM regSlot;simp
  rw [hnm] at hct
  cases hM:M (regSlot key) with
  | none =>
   have HV:Hid (valN 5 key T=0∧valE T 5 key T = []):=zkx HH.out HML.out HT.out hM
   rw [hM] at hct
   clear hM hnm
   go_wp2_with fail
   refine hct.mono ?_
   rintro e w4 ⟨v4,rfl,hown4,hb4⟩
   obtain ⟨c0,c1,f0,f1⟩:=(hr3.below hb4 (by omega)).cells
   have hbw4:Below w.heap.size w w4:=hbw3.trans (hb4.mono hbw3.size)
   obtain ⟨ad,cp,rfl⟩:=zh1 hown4.out
   clear hct hr3
   go_wp2
   refine bodyPost_ret (v := .tuple #[.agg #[.int .i64 0,.slice ad 0 cp],.int .i64 0]) ?_ rfl ⟨_,by rw [HV.out.1],by rw [HV.out.2];exact zic (zif (zif hown4.out (by omega)) (by omega)) (by omega),(hbw4.setCell (Nat.le_refl _) _).setCell (Nat.le_refl _) _⟩
   simp [results,Tryz.results106,go_sem,c0,c1]
  | some g =>
   have HV:Hid (valN 5 key T=g.n∧valE T 5 key T = [g.elem]):=zky HH.out HML.out HT.out hM
   rw [hM] at hct
   clear hM hnm
   go_wp2_with fail
   refine hct.mono ?_
   rintro e w4 ⟨v4,rfl,hown4,hb4⟩
   obtain ⟨c0,c1,f0,f1⟩:=(hr3.below hb4 (by omega)).cells
   have hbw4:Below w.heap.size w w4:=hbw3.trans (hb4.mono hbw3.size)
   obtain ⟨ad,cp,rfl⟩:=zh1 hown4.out
   clear hct hr3
   go_wp2
   refine bodyPost_ret (v := .tuple #[.agg #[.int .i64 g.n,.slice ad 1 cp],.int .i64 0]) ?_ rfl ⟨_,by rw [HV.out.1],by rw [HV.out.2];exact zic (zif (zif hown4.out (by omega)) (by omega)) (by omega),(hbw4.setCell (Nat.le_refl _) _).setCell (Nat.le_refl _) _⟩
   simp [results,Tryz.results106,go_sem,c0,c1]
set_option maxRecDepth 100000 in
theorem zjM (v:Value)(l:List At)(kind:Int)(key:ByteArray)(w:World)(hr:RulesAt w)(h1:SliceOf w v l)(hs1:∀ a∈l,short a)(hlen:l.length≤4194304)(hl:l.all mayB=false) :
  Calls Tryz.prog 106 #[v,.int .i64 kind,.string key] w fun e w' => e = .returned (.tuple #[.agg #[.int .i64 0,.slice none 0 0],.int .i64 1])∧Below w.heap.size w w' := by
 have HC1:Hid (∀ W,Below w.heap.size w W→Calls Tryz.prog 152 #[v] W fun e w' => e = .returned (.tuple #[.map none,.int .i64 1])∧Below W.heap.size W w'):=fun W hW=>of_no v l W (hr.below hW hr.1) (h1.below hW) hs1 (by omega) hl
 clear hr h1 hs1 hl
 go_enter Tryz.func106,Tryz.ntmps106
 go_wp2_with fail
 have hb0:=zaO (Below.refl _ w) (.cells #[.int .i64 0,.slice none 0 0] 129)
 have hz0:(w.alloc (.cells #[.int .i64 0,.slice none 0 0] 129)).heap.size=w.heap.size+1:=by simp
 have hr0:ResAt (w.alloc (.cells #[.int .i64 0,.slice none 0 0] 129)) w.heap.size:=heap_alloc_new w _
 generalize w.alloc (.cells #[.int .i64 0,.slice none 0 0] 129)=w0 at *
 refine (HC1.out w0 hb0).mono ?_
 rintro e w1 ⟨rfl,hb1⟩
 have hbw1:Below w.heap.size w w1:=hb0.trans (hb1.mono hb0.size)
 obtain ⟨c0,c1,f0,f1⟩:=(hr0.below hb1 (by omega)).cells
 clear HC1 hr0
 go_wp2
 refine bodyPost_ret (v := .tuple #[.agg #[.int .i64 0,.slice none 0 0],.int .i64 1]) ?_ rfl ⟨rfl,?_⟩
 ·simp [results,Tryz.results106,go_sem,c0,c1]
 ·exact (hbw1.setCell (Nat.le_refl _) _).setCell (Nat.le_refl _) _
set_option maxRecDepth 100000 in
theorem zjN (v:Value)(l:List At)(kind:Int)(key:ByteArray)(w:World)(hr:RulesAt w)(h1:SliceOf w v l)(hs1:∀ a∈l,short a)(hlen:l.length≤4194304)(hl:l.all mayB=true)(hki:¬ (1≤kind∧kind≤5)) :
  Calls Tryz.prog 106 #[v,.int .i64 kind,.string key] w fun e w' => e = .returned (.tuple #[.agg #[.int .i64 0,.slice none 0 0],.int .i64 6])∧Below w.heap.size w w' := by
 have HC1:Hid (∀ W,Below w.heap.size w W→Calls Tryz.prog 152 #[v] W fun e w' => ∃ b,e = .returned (.tuple #[.map (some b),.int .i64 0])∧W.heap.size≤b∧StMap w' b l.length (addTo (fun _=>none) l)∧Below W.heap.size W w'):=fun W hW=>zho v l W (hr.below hW hr.1) (h1.below hW) hs1 (by omega) hl
 have hwi:wi kind 1 5=false:=by unfold wi;simp;omega
 clear hr h1 hs1 hl
 go_enter Tryz.func106,Tryz.ntmps106
 go_wp2_with fail
 have hb0:=zaO (Below.refl _ w) (.cells #[.int .i64 0,.slice none 0 0] 129)
 have hz0:(w.alloc (.cells #[.int .i64 0,.slice none 0 0] 129)).heap.size=w.heap.size+1:=by simp
 have hr0:ResAt (w.alloc (.cells #[.int .i64 0,.slice none 0 0] 129)) w.heap.size:=heap_alloc_new w _
 generalize w.alloc (.cells #[.int .i64 0,.slice none 0 0] 129)=w0 at *
 refine (HC1.out w0 hb0).mono ?_
 rintro e w1 ⟨b,rfl,hbb,-,hb1⟩
 have hbw1:Below w.heap.size w w1:=hb0.trans (hb1.mono hb0.size)
 obtain ⟨c0,c1,f0,f1⟩:=(hr0.below hb1 (by omega)).cells
 clear HC1 hr0
 go_wp2_with fail
 refine (zfy kind w1).mono ?_
 rintro e w2 ⟨rfl,rfl⟩
 rw [hwi]
 go_wp2
 refine bodyPost_ret (v := .tuple #[.agg #[.int .i64 0,.slice none 0 0],.int .i64 6]) ?_ rfl ⟨rfl,?_⟩
 ·simp [results,Tryz.results106,go_sem,c0,c1]
 ·exact (hbw1.setCell (Nat.le_refl _) _).setCell (Nat.le_refl _) _
theorem zmQ (l:List At):∃ T,IsTold l T:=by
 have hp:=List.mergeSort_perm (leftTo l l.length) (fun x y=>decide (plc x y≤0))
 have hs:=List.pairwise_mergeSort (le:=fun x y:At=>decide (plc x y≤0)) (fun a b c h1 h2=>by simp only [decide_eq_true_eq] at *;exact ziC.trans a b c h1 h2) (fun a b=>by
  simp only [Bool.or_eq_true,decide_eq_true_eq]
  have:=ziC.anti a b
  omega) (leftTo l l.length)
 have ha:((leftTo l l.length).mergeSort (fun x y=>decide (plc x y≤0))).Pairwise (fun x y=>plc x y ≠ 0):=(hp.pairwise_iff (fun {x y} hxy e=>hxy (ziA e))).2 zfU
 refine ⟨_,⟨List.Pairwise.imp₂ (fun {x y} h1 h2 => ?_) ha hs,fun x hx=>zfV x (hp.mem_iff.1 hx),fun y hy => ?_⟩⟩
 ·simp only [decide_eq_true_eq] at h2
  omega
 ·obtain ⟨x,hx,h⟩:=zfT y hy
  exact ⟨x,hp.mem_iff.2 hx,h⟩
theorem zfJ (v:Value)(l:List At)(kind:Int)(key:ByteArray)(w:World)(hr:RulesAt w)(h1:SliceOf w v l)(hs1:∀ a∈l,short a)(hlen:l.length≤4194304)(hk:key.size≤1099511627776) :
  Calls Tryz.prog 106 #[v,.int .i64 kind,.string key] w fun e w' => ∃ n v' es,e = .returned (.tuple #[.agg #[.int .i64 n,v'],.int .i64 (readCode l kind)])∧w'.ownsRow w.heap.size 9 1 v' es.length (es.map Value.string)∧Hid (ReadSpec l kind key n es∧(readCode l kind=0∨v' = .slice none 0 0))∧Below w.heap.size w w' := by
 cases hl:l.all mayB
 ·have hc:readCode l kind=1:=by unfold readCode;rw [hl];rfl
  refine (zjM v l kind key w hr h1 hs1 hlen hl).mono ?_
  rintro e w' ⟨rfl,hb⟩
  rw [hc]
  exact ⟨0,_,[],rfl,⟨rfl,.inl ⟨rfl,rfl⟩⟩,⟨.inr ⟨by omega,rfl,rfl⟩,.inr rfl⟩,hb⟩
 ·by_cases hki:1≤kind∧kind≤5
  ·have hc:readCode l kind=0:=by unfold readCode;rw [hl,if_pos rfl,if_pos hki]
   obtain ⟨T,hT⟩:=zmQ l
   refine (zjO v l T kind key w hr h1 hs1 hlen hk hl hT hki).mono ?_
   rintro e w' ⟨v',rfl,ho,hb⟩
   rw [hc]
   exact ⟨_,v',_,rfl,ho.out,⟨.inl ⟨hc,List.all_eq_true.1 hl,T,hT,rfl,rfl⟩,.inl rfl⟩,hb⟩
  ·have hc:readCode l kind=6:=by unfold readCode;rw [hl,if_pos rfl,if_neg hki]
   refine (zjN v l kind key w hr h1 hs1 hlen hl hki).mono ?_
   rintro e w' ⟨rfl,hb⟩
   rw [hc]
   exact ⟨0,_,[],rfl,⟨rfl,.inl ⟨rfl,rfl⟩⟩,⟨.inr ⟨by omega,rfl,rfl⟩,.inr rfl⟩,hb⟩
end Go.Proofs.YtahdlejgjcjeoabGreatDoor
