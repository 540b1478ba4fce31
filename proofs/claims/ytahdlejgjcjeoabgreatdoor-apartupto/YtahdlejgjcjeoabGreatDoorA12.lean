/- What is new, as plain lists. No program. -/
import Derived.Test.YtahdlejgjcjeoabGreatDoorA11
import Derived.Test.YtahdlejgjcjeoabGreatDoorA10
import Derived.Test.YtahdlejgjcjeoabGreatDoorA02
import Derived.Test.YtahdlejgjcjeoabGreatDoorA03
import Derived.Deep.DeepCutAuto
import Derived.Shelf.SlSortCmp.NoneTotal
import Derived.Test.YtahdlejgjcjeoabGreatDoorA07
import Derived.Test.YtahdlejgjcjeoabGreatDoorA06
import Derived.Test.YtahdlejgjcjeoabGreatDoorA08
import Derived.Test.YtahdlejgjcjeoabGreatDoorA01
import Derived.Deep.MidRow
import Derived.Deep.RegionHeld3
namespace Go.Proofs.YtahdlejgjcjeoabGreatDoor
set_option maxHeartbeats 8000000
open Go.RowKit Go.Sort
theorem zaf (a b:At):acmp a b=scmp ⟨a.ty,a.key,a.side,a.who,a.elem⟩ ⟨b.ty,b.key,b.side,b.who,b.elem⟩:=by
 simp only [acmp,scmp,orI]
 split <;> (try split) <;> (try split) <;> (try split) <;> (try split) <;> simp_all
theorem zai:TP acmp:=by
 have:acmp=fun a b:At=>scmp ((fun a:At=>(⟨a.ty,a.key,a.side,a.who,a.elem⟩:Sl)) a) ((fun a:At=>(⟨a.ty,a.key,a.side,a.who,a.elem⟩:Sl)) b):=by funext a b;exact zaf a b
 rw [this];exact zk3.comap _
theorem zah:SWO (ltOf acmp) where
 irrefl x:=by simp [ltOf,zai.refl]
 trans x y z h1 h2:=by
  simp only [ltOf,decide_eq_true_eq] at *
  exact zai.lt_le h1 (by omega)
 ntrans x y z h1 h2:=by
  simp only [ltOf,decide_eq_false_iff_not] at *
  have e1:=zai.anti x y
  have e2:=zai.anti y z
  have e3:=zai.anti x z
  have:=zai.trans z y x (by omega) (by omega)
  omega
theorem zag (a b:At)(h:plc a b ≠ 0):acmp a b=plc a b:=by
 rw [zaf,zix] at *
 by_cases ht:a.ty=b.ty
 ·by_cases h5:a.ty=5
  ·have h5b:b.ty=5:=by omega
   have e0:∀ x,ci x x=0:=fun x=>(zbS x x).2 rfl
   have z0:∀ x,ordS x x=0:=fun x=>(zhS x x).2 rfl
   simp only [slot,h5,h5b,if_true,scmp,e0,z0] at h ⊢
   simp only [ne_eq,not_true_eq_false,if_false] at h ⊢
   split at h
   ·rename_i hk;rw [if_pos hk,if_pos hk]
   ·exact absurd rfl h
  ·have h5b:¬ b.ty=5:=by omega
   simp only [slot,h5,h5b,if_false]
 ·have hc:ci a.ty b.ty ≠ 0:=by rw [Ne,zbS];exact ht
  simp only [scmp,zlK]
  rw [if_pos hc,if_pos hc]
abbrev inhAt:Inhabited At:=⟨zAt⟩
theorem zdq (C:List At):@flatK At inhAt enc 6 C.toArray=(flat C).toArray:=by
 letI:=inhAt
 apply Array.ext
 ·simp [zdy]
 ·intro t h1 h2
  have ht:t<C.length*6:=by simpa using h1
  have hk:t / 6<C.length:=by omega
  have hg:=zdx C (t / 6) (t % 6) hk (Nat.mod_lt _ (by decide))
  rw [show t / 6*6+t % 6=t by omega] at hg
  have e1:(flatK enc 6 C.toArray)[t]! = (enc C.toArray[t / 6]!)[t % 6]! := get_flatK enc 6 C.toArray t (by simpa using ht)
  have e2:C.toArray[t / 6]! = C[t / 6]:=by simp [hk]
  rw [e2] at e1
  have e3:(flatK enc 6 C.toArray)[t]! = (flatK enc 6 C.toArray)[t]:=getElem!_pos _ t h1
  rw [← e3,e1]
  have hl:t % 6<(enc C[t / 6]).length:=by show t % 6<6;omega
  rw [List.getElem?_eq_getElem hl,List.getElem?_eq_some_iff] at hg
  obtain ⟨hh,hg⟩:=hg
  rw [getElem!_pos (enc C[t / 6]) (t % 6) hl,← hg]
  simp
theorem zeU {w:World}{g:Nat}{cur:Array Value}{e:TypeId}{C:List At}(hb:w.heap[g]? = some (.cells cur e (0,0)))(ht:cur.toList.take (C.length*6)=flat C):@HoldsK At inhAt enc 6 w g 0 C.toArray:=by
 letI:=inhAt
 unfold HoldsK
 rw [zdq]
 intro j hj
 have hj' : j<(flat C).length:=by simpa using hj
 refine ⟨?_,by simp [World.frozen?,hb]⟩
 have hl:=zdy C
 have h1:(cur.toList.take (C.length*6))[j]? = (flat C)[j]? := by rw [ht]
 rw [List.getElem?_take_of_lt (by omega)] at h1
 simp only [World.cell?,hb,Nat.zero_add]
 simp only [Option.isSome_none,Bool.false_eq_true,if_false]
 rw [← Array.getElem?_toList,h1]
 simp [hj']
theorem zeM {w:World}{g n:Nat}{os:Array Obj}{cur:Array Value}{e:TypeId}(F:Array Value)(hb:w.heap[g]? = some (.cells cur e (0,0))) :
  (grow (putRow id (Sort.ahead w n) g 0 F) os).heap[g]? = some (.cells (putCells id 0 F cur) e (0,0)):=by
 have hlt:=(Array.getElem?_eq_some_iff.1 hb).1
 rw [heap_grow_old _ _ (by simpa using hlt)]
 simp [putRow,mapBlock,Sort.ahead,Array.getElem?_modify,hb,onCells]
theorem zem {w:World}{g n:Nat}{os:Array Obj}(F:Array Value):w.grownBy (grow (putRow id (Sort.ahead w n) g 0 F) os) (some g):=by
 refine ⟨rfl,rfl,rfl,by simp,fun k hk hne => ?_⟩
 rw [heap_grow_old _ _ (by simpa using hk)]
 have:g ≠ k:=fun e=>hne (by rw [e])
 simp [putRow,mapBlock,Sort.ahead,Array.getElem?_modify,this]
theorem zmj (cur:Array Value)(F:List Value)(h:F.length≤cur.size):(putCells id 0 F.toArray cur).toList.take F.length=F:=by
 apply List.ext_getElem?
 intro j
 by_cases hj:j<F.length
 ·rw [List.getElem?_take_of_lt hj,Array.getElem?_toList]
  simp [putCells,hj,show j<cur.size by omega]
 ·rw [List.getElem?_take_eq_none (by omega),List.getElem?_eq_none (by omega)]
theorem zb1 (blk off size:Nat)(w:World):@CmpLays At inhAt Tryz.prog 150 #[] enc 6 acmp blk off size w :=
 fun _ _ _ _ x y=>zb8 x y _
theorem zlP (base g cap:Nat)(C:List At)(w:World)(hown:w.ownsRow base 76 6 (.slice (some ⟨g,0,none⟩) C.length cap) C.length (flat C))(hlen:C.length<4611686018427387904) :
  Calls Tryz.prog 149 #[.slice (some ⟨g,0,none⟩) C.length cap,.func (.func 150) #[] #[]] w fun e w' =>
   e = .returned (.tuple #[])∧∃ C' : List At,C'.Perm C∧C'.Pairwise (fun x y=>0≤acmp y x)∧w'.ownsRow base 76 6 (.slice (some ⟨g,0,none⟩) C.length cap) C.length (flat C')∧w.grownBy w' (some g):=by
 letI:=inhAt
 rcases hown.2 with ⟨h0,_⟩ | ⟨g',cap',cur,hv,hbase,hb,h1,h2,h3,h4⟩
 ·cases h0
 cases hv
 have eg:∀ args w,(callFunc 150 args).run Tryz.prog w = .ok (.enter 150 args) w:=enters_of Tryz.func150 (by kernel_rfl) rfl
 have hH:=zeU hb h4
 have hcon:=AnyQ.slices_SortFunc zlL 6 Tryz.isAgg76 Tryz.sizeOf76 enc (fun _=>rfl) zcS acmp zah 150 #[] g 0 cap C.toArray w eg (zb1 g 0 C.toArray.size w) hH (Array.getElem?_eq_some_iff.1 hb).1 (by simpa using hlen)
 rw [show C.toArray.size=C.length from rfl] at hcon
 refine Calls.mono (show Calls Tryz.prog 149 _ _ _ from hcon) ?_
 rintro e w' ⟨rfl,d',n,os,hp,hs,rfl⟩
 obtain ⟨hsize,_,hperm⟩:=hp
 have hperm' : d'.toList.Perm C:=by
  have e1:(d'.extract 0 C.length).toList=d'.toList:=by rw [← show d'.size=C.length from hsize];simp
  have e2:(C.toArray.extract 0 C.length).toList=C:=by simp
  rw [e1,e2] at hperm
  exact hperm
 have hlen' : d'.toList.length=C.length:=hperm'.length_eq
 refine ⟨rfl,d'.toList,hperm',?_,?_,?_⟩
 ·rw [List.pairwise_iff_getElem]
  intro i j hi hj hij
  have:=hs i j (Nat.zero_le _) hij (by omega)
  simp only [ltOf,decide_eq_false_iff_not] at this
  have e1:d'[j]! = d'.toList[j]:=by rw [getElem!_pos d' j (by simpa using hj)];simp
  have e2:d'[i]! = d'.toList[i]:=by rw [getElem!_pos d' i (by simpa using hi)];simp
  rw [e1,e2] at this
  omega
 ·have hF:flatK enc 6 d' = (flat d'.toList).toArray:=by have:=zdq d'.toList;simpa using this
  have hfl:=zdy d'.toList
  unfold sortWorldK putRowK
  rw [hF]
  refine ⟨by rw [hfl,hlen'],.inr ⟨g,cap,_,rfl,hbase,zeM _ hb,h1,h2,by simp [putCells,h3],?_⟩⟩
  have:=zmj cur (flat d'.toList) (by rw [hfl,hlen',h3];exact Nat.mul_le_mul_right _ h1)
  rw [hfl,hlen'] at this
  exact this
 ·exact zem _
open Go.RowKit
theorem zlt {a:At}(h:mayB a=true):short a:=by
 simp only [mayB,decide_eq_true_eq] at h
 unfold short
 omega
theorem zaR {w w1 w' : World}{b:Nat}(h:Below w.heap.size w w1)(hg:w1.grownBy w' (some b))(hb:w.heap.size≤b):Below w.heap.size w w' :=
 h.grown hg h.size (fun k hk=>by cases hk;exact hb)
set_option maxRecDepth 100000 in
theorem zho (v:Value)(l:List At)(w:World)(hr:RulesAt w)(hv:SliceOf w v l)(hs:∀ a∈l,short a)(hlen:l.length≤1099511627776)(hall:l.all mayB=true) :
  Calls Tryz.prog 152 #[v] w fun e w' => ∃ b,e = .returned (.tuple #[.map (some b),.int .i64 0])∧w.heap.size≤b∧StMap w' b l.length (addTo (fun _=>none) l)∧Below w.heap.size w w' := by
 have hcon:=zap v l w hr hv hs (by omega)
 have hmay:∀ a∈l,mayB a=true:=List.all_eq_true.1 hall
 rw [hall] at hcon
 have HR:Hid (RulesAt w):=hr
 have HV:Hid (SliceOf w v l):=hv
 have HS:Hid (∀ a∈l,mayB a=true):=hmay
 clear hr hv hs hmay hall
 have hmm:=@run_makeMap Tryz.prog
 go_enter Tryz.func152,Tryz.ntmps152
 go_wp2_with fail
 refine hcon.mono ?_
 rintro e w1 ⟨rfl,hb1⟩
 clear hcon
 go_wp2_with fail
 have hb2:Below w.heap.size w (w1.alloc (.map #[] 0)):=zaO hb1 _
 refine (zan v l w1.heap.size 0 (fun _=>none) _ (HR.out.below hb2 HR.out.1) (zlW w1) (HV.out.below hb2) HS.out (by omega)).mono ?_
 rintro e w2 ⟨rfl,hst,hg⟩
 rw [Nat.zero_add] at hst
 have hb3:=zaR hb2 hg hb1.size
 have HB:Hid (StMap w2 w1.heap.size l.length (addTo (fun _=>none) l)):=hst
 have hsz:=hb1.size
 clear hst hg hb2
 go_wp2
 go_ret2
 exact ⟨_,rfl,hsz,HB,hb3⟩
theorem of_no (v:Value)(l:List At)(w:World)(hr:RulesAt w)(hv:SliceOf w v l)(hs:∀ a∈l,short a)(hlen:l.length≤1099511627776)(hall:l.all mayB=false) :
  Calls Tryz.prog 152 #[v] w fun e w' => e = .returned (.tuple #[.map none,.int .i64 1])∧Below w.heap.size w w' := by
 have hcon:=zap v l w hr hv hs (by omega)
 rw [hall] at hcon
 clear hr hv hs hall
 go_enter Tryz.func152,Tryz.ntmps152
 go_wp2_with fail
 refine hcon.mono ?_
 rintro e w1 ⟨rfl,hb1⟩
 clear hcon
 go_wp2
 go_ret2
 exact ⟨rfl,hb1⟩
open Go.RowKit Go.Maps
def MayMap (M:Sl→Option Gr):Prop:=∀ s g,M s=some g→∃ a,mayB a=true∧slot a=s∧grade a=g
def InM (M:Sl→Option Gr)(a:At):Prop:=mayB a=true∧M (slot a)=some (grade a)
theorem zfo (d:Nat)(n:Int)(ls:List Lit)(h:Tryz.prog.keyLits (d+1) 3 [.int .i64 n]=some ls):(Lit.int .i64 n).wf=true:=by
 unfold Program.keyLits at h
 simp only [Tryz.underlying3] at h
 split at h
 ·rename_i hc;exact hc.2
 ·cases h
theorem zl4 (d:Nat)(s:ByteArray)(ls:List Lit)(h:Tryz.prog.keyLits (d+1) 9 [.string s]=some ls):s.size≤maxLen:=by
 unfold Program.keyLits at h
 simp only [Tryz.underlying9] at h
 split at h
 ·assumption
 ·cases h
theorem zlJ (s:Sl)(kl:Lit)(h:keyOf Tryz.prog 211 s.val=some kl):s.ok∧kl=s.lit:=by
 have hok:s.ok:=by
  unfold keyOf at h
  simp only [Tryz.underlying211,zfB,Bool.true_and] at h
  split at h
  ·obtain ⟨d,hd⟩:=zm4
   rw [hd,Option.map_eq_some_iff] at h
   obtain ⟨ls,hls,_⟩:=h
   simp only [Sl.val,Value.cells] at hls
   unfold Program.keyLits at hls
   simp only [Tryz.underlying211,zbG] at hls
   split at hls
   ·simp only [List.mapM_cons,List.mapM_nil,Option.map_eq_some_iff,Option.bind_eq_bind,Option.bind_eq_some_iff,zbB,zbI,List.drop_zero,List.take_succ_cons,List.take_zero,List.drop_succ_cons,Option.pure_def] at hls
    obtain ⟨xs,⟨x0,k0,y0,⟨x1,k1,y1,⟨x2,k2,y2,⟨x3,k3,y3,⟨x4,k4,_⟩,_⟩,_⟩,_⟩,_⟩,_⟩:=hls
    exact ⟨zfo d _ _ k0,zl4 d _ _ k1,zfo d _ _ k2,zfo d _ _ k3,zl4 d _ _ k4⟩
   ·cases hls
  ·cases h
 exact ⟨hok,by have:=zfA s hok;rw [h] at this;exact Option.some.inj this⟩
theorem zf9 (s:Sl):s.lit.sameKey s.lit=true:=by simp [Sl.lit,Lit.sameKey]
structure Coll (M:Sl→Option Gr)(left:Lit→Bool)(C:List At):Prop where
 apart:C.Pairwise (fun x y=>plc x y ≠ 0)
 mem:∀ a,a∈C ↔ InM M a∧left (slot a).lit=false
theorem ziz {a b:At}(h:plc a b=0):slot a=slot b:=by rw [zix,zk4] at h;exact h
theorem Coll.step {M:Sl→Option Gr}{left:Lit→Bool}{C:List At}(h:Coll M left C){a:At}(ha:InM M a)(hl:left (slot a).lit=true)(hok:∀ s g,M s=some g→s.ok) :
  Coll M (fun z=>left z && !z.sameKey (slot a).lit) (C ++ [a]) where
 apart:=by
  rw [List.pairwise_append]
  refine ⟨h.apart,List.pairwise_singleton _ _,fun x hx y hy => ?_⟩
  rw [List.mem_singleton] at hy
  subst hy
  intro e
  have:=((h.mem x).1 hx).2
  rw [ziz e,hl] at this
  cases this
 mem b:=by
  rw [List.mem_append,List.mem_singleton,h.mem b]
  constructor
  ·rintro (⟨h1,h2⟩ | rfl)
   ·exact ⟨h1,by rw [h2];rfl⟩
   ·exact ⟨ha,by rw [zf9];simp⟩
  ·rintro ⟨h1,h2⟩
   by_cases e:slot b=slot a
   ·right
    obtain ⟨hb1,hb2⟩:=h1
    obtain ⟨ha1,ha2⟩:=ha
    rw [e,ha2] at hb2
    rw [← zm8 b hb1,← zm8 a ha1,e,Option.some.inj hb2]
   ·left
    refine ⟨h1,?_⟩
    have hne:(slot b).lit ≠ (slot a).lit:=fun e' => e (Sl.lit_inj (hok _ _ h1.2) (hok _ _ ha.2) e')
    rw [Maps.sameKey_ne hne] at h2
    simpa using h2
structure TellOf (M:Sl→Option Gr)(out:List At):Prop where
 sorted:out.Pairwise (fun x y=>plc x y<0)
 mem:∀ a,a∈out ↔ InM M a
theorem zmp {M:Sl→Option Gr}{left:Lit→Bool}{C C' : List At}(h:Coll M left C)(hl:∀ kl,left kl=false)(hp:C'.Perm C)(hs:C'.Pairwise (fun x y=>0≤acmp y x)):TellOf M C' where
 sorted:=by
  have hap:C'.Pairwise (fun x y=>plc x y ≠ 0):=(hp.pairwise_iff (fun {x y} hxy e=>hxy (ziA e))).2 h.apart
  refine List.Pairwise.imp₂ (fun {x y} h1 h2 => ?_) hap hs
  have h3:plc y x ≠ 0:=fun e=>h1 (ziA e)
  rw [zag y x h3] at h2
  have:=ziC.anti x y
  omega
 mem a:=by
  rw [hp.mem_iff,h.mem a]
  exact ⟨fun h=>h.1,fun h=>⟨h,hl _⟩⟩
theorem zh9 {w w' : World}{base r:Nat}{e:TypeId}{s n:Nat}{v:Value}{xs:List Value}(h:w.ownsRow base e s v n xs)(hg:w.grownBy w' (some r))(hr:r<base):w'.ownsRow base e s v n xs:=by
 obtain ⟨h0,h⟩:=h
 refine ⟨h0,?_⟩
 rcases h with h | ⟨g,cap,cur,hv,hgb,hh,k⟩
 ·exact .inl h
 ·exact .inr ⟨g,cap,cur,hv,hgb,by rw [hg.block g (Array.getElem?_eq_some_iff.1 hh).1 (fun e=>by cases e;omega)];exact hh,k⟩
theorem zgO {w:World}{base:Nat}{e:TypeId}{s n:Nat}{v:Value}{xs:List Value}(h:w.ownsRow base e s v n xs):∀ q,q<base→some q ≠ v.ownBlock:=by
 intro q hq e'
 have:=zh4 h q e'.symm
 omega
theorem zm9 (s:Sl)(g:Gr)(w:World)(h:RulesAt w)(h1:1≤s.ty)(h5:s.ty≤5) :
  Calls Tryz.prog 148 #[.agg #[.int .i64 s.ty,.string s.key,.int .i64 s.side,.int .i64 s.who,.string s.elem],.agg #[.int .i64 g.n,.int .i64 g.who,.string g.elem]] w fun e w' => e = .returned (.agg #[.int .i64 (unite s g).ty,.string (unite s g).key,.int .i64 (unite s g).side,.int .i64 (unite s g).who,.string (unite s g).elem,.int .i64 (unite s g).n])∧Below w.heap.size w w' := zm7 s g w h h1 h5
set_option maxRecDepth 100000 in
theorem zmo (b n:Nat)(M:Sl→Option Gr)(w:World)(hr:RulesAt w)(hm:StMap w b n M)(hmm:MayMap M)(hn:n≤8388608) :
  Calls Tryz.prog 102 #[.map (some b)] w fun e w' => ∃ v' out,e = .returned v' ∧ w'.ownsRow w.heap.size 76 6 v' out.length (flat out)∧Hid (TellOf M out)∧Below w.heap.size w w' := by
 obtain ⟨D,hown,h2,h3⟩:=hm
 have HR:Hid (RulesAt w):=hr
 have HMM:Hid (MayMap M):=hmm
 have H2:Hid (∀ s:Sl,s.ok→M s=none→Maps.has D s.lit=false):=h2
 have H3:Hid (∀ s g,M s=some g→s.ok∧Maps.has D s.lit=true∧∀ z,D.atKey s.lit z=g.dat):=h3
 have hsz:=hown.size_le
 clear hr hmm h2 h3
 obtain ⟨i0,hi,hz0,hz1,hz2⟩:=info_parts zeZ
 have hbw:=hown.lt
 go_enter Tryz.func102,Tryz.ntmps102
 go_wp2_with (at_range;refine wpList_range_own _ rfl _ 122 rfl 211 213 zlE Tryz.underlying122 grElem b n D rfl hown ?_;intro w0 hrg0 hg0 hs0)
 go_frame
 have hb0:Below w.heap.size w w0:=(Below.refl _ w).grown hg0 (Nat.le_refl _) (fun k hk=>by cases hk)
 go_loopw [3,4] (fun v _ wr=>∃ (left:Lit→Bool) (cnt:Nat) (C:List At),wr.ranges Tryz.prog 211 grElem b w.heap.size n D left cnt∧wr.ownsRow (w.heap.size+1) 76 6 v C.length (flat C)∧Hid (Coll M left C)∧C.length+cnt≤n∧Below w.heap.size w wr) (fun _ _ wr=>wr.rangeLeft b w.heap.size)
 case atStart =>
  refine ⟨Maps.has D,Maps.size D,[],hrg0,by simp [flat,World.ownsRow],⟨.nil,fun a => ?_⟩,by simpa using hsz,hb0⟩
  constructor
  ·intro h;cases h
  ·rintro ⟨h1,h2⟩
   have:=(H3.out _ _ h1.2).2.1
   rw [this] at h2;cases h2
 case round =>
  obtain ⟨left,cnt,C,hrg,hrow,hC,hcnt,hbr⟩:=hrel
  go_wp2_with (at_next;refine wpList_next_ranges _ rfl _ rfl 211 zlE grElem (fun s:Sl => .agg #[.int .i64 s.ty,.string s.key,.int .i64 s.side,.int .i64 s.who,.string s.elem]) (fun g:Gr => .agg #[.int .i64 g.n,.int .i64 g.who,.string g.elem]) zlH (fun v y hv=>by obtain ⟨g,rfl,_⟩:=zec hv;exact ⟨g,rfl⟩) b w.heap.size n D left cnt rfl hrg ?_ ?_)
  ·intro _ hl0
   have HL0:Hid (∀ kl,left kl=false):=hl0
   clear hl0 hi hz0 hz1 hz2
   rcases hrow.2 with ⟨hv,hC0⟩ | ⟨g,cap,cur,hv,hbase,hblk,h1,h2,h3,h4⟩
   ·subst hv
    obtain rfl:=List.length_eq_zero_iff.1 hC0
    have hsn:=fun W=>AnyF.slices_SortFunc_none (P:=Tryz.prog) zlL none 0 (.func (.func 150) #[] #[]) W
    go_wp2_with fail
    refine Calls.mono (show Calls Tryz.prog 149 _ _ _ from hsn _) ?_
    rintro e w5 ⟨rfl,rfl⟩
    clear hsn
    go_wp2
    go_ret
    exact ⟨_,[],rfl,by simp [flat,World.ownsRow],zmp hC.out HL0.out (List.Perm.refl _) .nil,hbr⟩
   ·subst hv
    have hso:=zlP (w.heap.size+1) g cap C wr hrow (by omega)
    clear h4
    go_wp2_with fail
    refine hso.mono ?_
    rintro e w5 ⟨rfl,C',hperm,hsorted,hown5,hg5⟩
    have HTL:Hid (TellOf M C'):=zmp hC.out HL0.out hperm hsorted
    have hl5:C.length=C'.length:=hperm.length_eq.symm
    have hfin:w5.ownsRow w.heap.size 76 6 (.slice (some ⟨g,0,none⟩) C.length cap) C'.length (flat C'):=by rw [← hl5];exact zic hown5 (by omega)
    have hb5:Below w.heap.size w w5:=hbr.grown hg5 hbr.size (fun k hk=>by cases hk;omega)
    clear hso hperm hsorted hown5 hg5 hl5
    go_wp2
    go_ret
    exact ⟨_,C',rfl,hfin,HTL,hb5⟩
  ·intro x c kl yd yp w2 cnt2 hkey hlk hv hat hrg2 hlt hg2 hs2 hen
   obtain ⟨hxok,rfl⟩:=zlJ x kl hkey
   have hMx:M x=some c:=by
    obtain ⟨g',hg',hz'⟩:=zec hv
    cases hM:M x with
    | none =>
     have hh:=H2.out x hxok hM
     rw [Maps.has_true_of_atKey hat] at hh
     cases hh
    | some g0 =>
     have:=(H3.out x g0 hM).2.2 .nil
     rw [hat] at this
     have hcc:grElem c.val=some (c.dat,[]):=zed c
     have hv' : grElem c.val=some (yd,yp):=hv
     rw [hcc] at hv'
     simp only [Option.some.injEq,Prod.mk.injEq] at hv'
     rw [Gr.dat_inj (hv'.1.trans this)]
   obtain ⟨a,ha,rfl,rfl⟩:=HMM.out x c hMx
   have hu:=zm8 a ha
   have hty:=zm3 ha
   rw [← zlK a] at hty
   have HC2:Hid (Coll M (fun z=>left z && !z.sameKey (slot a).lit) (C ++ [a])):=hC.out.step ⟨ha,hMx⟩ hlk (fun s g h=>(H3.out s g h).1)
   have hft:=zdB C a
   have HF:Hid (flat (C ++ [a])=flat C ++ enc a):=hft
   have hsz2:wr.heap.size≤w2.heap.size:=by omega
   clear hkey hat hv hMx hs2 hft hxok hlk
   have hbr2:Below w.heap.size w w2:=hbr.grown hg2 hbr.size (fun k hk=>by cases hk;exact Nat.le_refl _)
   have hrow2:=zh9 hrow hg2 (Nat.lt_succ_self _)
   have HL:Hid (wr.rangeLeft b w.heap.size=cnt):=hrg.left_eq
   clear hg2 hrow hrg
   have HUN:Hid (unite (slot a) (grade a)=a):=hu
   clear hu
   have hlink:∀ W,RulesAt W→Calls Tryz.prog 148 #[.agg #[.int .i64 (slot a).ty,.string (slot a).key,.int .i64 (slot a).side,.int .i64 (slot a).who,.string (slot a).elem],.agg #[.int .i64 (grade a).n,.int .i64 (grade a).who,.string (grade a).elem]] W fun e w' => e = .returned (.agg #[.int .i64 a.ty,.string a.key,.int .i64 a.side,.int .i64 a.who,.string a.elem,.int .i64 a.n])∧Below W.heap.size W w' := by
    intro W hW
    have:=zm9 (slot a) (grade a) W hW hty.1 hty.2
    rw [HUN.out] at this
    exact this
   clear hty ha HUN
   generalize (slot a).lit=kl at *
   generalize slot a=x at *
   generalize grade a=c at *
   have HLK:Hid (∀ W,RulesAt W→Calls Tryz.prog 148 #[.agg #[.int .i64 x.ty,.string x.key,.int .i64 x.side,.int .i64 x.who,.string x.elem],.agg #[.int .i64 c.n,.int .i64 c.who,.string c.elem]] W fun e w' => e = .returned (.agg #[.int .i64 a.ty,.string a.key,.int .i64 a.side,.int .i64 a.who,.string a.elem,.int .i64 a.n])∧Below W.heap.size W w'):=hlink
   clear hlink
   go_wp2_with fail
   refine (HLK.out _ ?hrl).mono ?_
   case hrl=>exact HR.out.below (zaO (zaO hbr2 _) _) HR.out.1
   rintro e w3 ⟨rfl,hb3⟩
   have hbr3:Below w.heap.size w w3:=(zaO (zaO hbr2 _) _).trans (hb3.mono (by simp;have:=hbr2.size;omega))
   have hrow3:=zh5 ((hrow2.alloc _).alloc _) hb3
   have hrg3:=((hrg2.alloc _).alloc _).kept (zaP hb3 none) (by simp) (by simp)
   have hsz3:=hbr3.size
   have hsb3:w.heap.size+1≤w3.heap.size:=by have:=hrg3.lt;omega
   clear hb3 hrow2 hrg2 hbr2 hen HLK
   go_wp2_with (at_builtin;refine wpList_append_lies _ rfl _ _ 53 rfl (w.heap.size+1) 76 i0 _ 6 64 Tryz.underlying53 hi hz0 hz1 hz2 rfl (by decide) _ C.length _ rfl (hrow3.alloc _) ⟨w3.heap.size,0,none⟩ 1 1 (enc a) rfl rfl (zgZ w3 a _) (zcS a) (by decide) (by unfold maxLen;omega) (by omega) (by simp;omega) (w3.heap.size+1) (by simp) ?_;intro g capn w4 hown4 hgrow4 hat4 hlt4)
   have hne:=zgO hrow3
   have hrg4:=(hrg3.alloc _).kept hgrow4 (hne b (by omega)) (hne w.heap.size (by omega))
   clear hne
   go_roundw
   case rel=>exact ⟨_,cnt2,C ++ [a],hrg4,by rw [HF.out,List.length_append];exact hown4,HC2,by simp;omega,(zaO hbr3 _).grown hgrow4 (by simp;omega) (fun q hq=>by have:=zh4 hrow3 q hq;omega)⟩
   case measure=>rw [hrg4.left_eq,HL.out];exact hlt
open Go.RowKit Go.MuLone
set_option maxRecDepth 100000 in
theorem zjo (x R n cap:Nat)(r:Int)(w:World)(h:ClAt w x R n cap)(hr:¬ (0≤r∧r<n)) :
  Calls Tryz.prog 50 #[.pointer (some ⟨x,0,none⟩),.int .i64 r] w fun e w' => e = .returned (.tuple #[.slice none 0 0,.int .i64 5])∧Below w.heap.size w w' := by
 have k41:=h.l41
 go_enter_defers Tryz.func50,Tryz.ntmps50
 go_wp2_with (go_at_call 44;refine (lock_free zgD ⟨x,0,none⟩ _ h.c0 h.f0).mono ?_;rintro e w' ⟨rfl,rfl⟩)
 refine (zna x r _ n cap _ k41 hr).mono ?_
 rintro e w1 ⟨rfl,rfl⟩
 go_wp2
 refine leaves_cons (f:=45) (args:=#[.pointer (some ⟨x,0,none⟩)]) (by simp) (by simp [go_sem]) ?_
 obtain ⟨u0,u1,u2⟩:=h.unlock (w2:=_) (Below.refl _ _)
 refine (unlock_deferred zgD ⟨x,0,none⟩ .returning _ u0 u1).mono ?_
 rintro e u' w'' ⟨rfl,rfl,rfl⟩
 exact ⟨_,results_tmp2 rfl _ _ _,rfl,u2⟩
set_option maxRecDepth 100000 in
theorem zi7 (x R n cap:Nat)(r:Int)(w:World)(h:ClAt w x R n cap)(hr:¬ (0≤r∧r<n)) :
  Calls Tryz.prog 132 #[.pointer (some ⟨x,0,none⟩),.int .i64 r] w fun e w' => e = .returned (.tuple #[.string ⟨#[]⟩,.int .i64 5])∧Below w.heap.size w w' := by
 have k41:=h.l41
 go_enter_defers Tryz.func132,Tryz.ntmps132
 go_wp2_with (go_at_call 44;refine (lock_free zgD ⟨x,0,none⟩ _ h.c0 h.f0).mono ?_;rintro e w' ⟨rfl,rfl⟩)
 refine (zhs x r _ n cap _ k41 hr).mono ?_
 rintro e w1 ⟨rfl,rfl⟩
 go_wp2
 refine leaves_cons (f:=45) (args:=#[.pointer (some ⟨x,0,none⟩)]) (by simp) (by simp [go_sem]) ?_
 obtain ⟨u0,u1,u2⟩:=h.unlock (w2:=_) (Below.refl _ _)
 refine (unlock_deferred zgD ⟨x,0,none⟩ .returning _ u0 u1).mono ?_
 rintro e u' w'' ⟨rfl,rfl,rfl⟩
 exact ⟨_,results_tmp2 rfl _ _ _,rfl,u2⟩
set_option maxRecDepth 100000 in
theorem zjl (x R n cap:Nat)(r:Int)(w:World)(h:ClAt w x R n cap)(hr:¬ (0≤r∧r<n)) :
  Calls Tryz.prog 28 #[.pointer (some ⟨x,0,none⟩),.int .i64 r] w fun e w' => e = .returned (.int .i64 5)∧Below w.heap.size w w' := by
 have k41:=h.l41
 go_enter_defers Tryz.func28,Tryz.ntmps28
 go_wp2_with (go_at_call 44;refine (lock_free zgD ⟨x,0,none⟩ _ h.c0 h.f0).mono ?_;rintro e w' ⟨rfl,rfl⟩)
 refine (zhs x r _ n cap _ k41 hr).mono ?_
 rintro e w1 ⟨rfl,rfl⟩
 go_wp2
 refine leaves_cons (f:=45) (args:=#[.pointer (some ⟨x,0,none⟩)]) (by simp) (by simp [go_sem]) ?_
 obtain ⟨u0,u1,u2⟩:=h.unlock (w2:=_) (Below.refl _ _)
 refine (unlock_deferred zgD ⟨x,0,none⟩ .returning _ u0 u1).mono ?_
 rintro e u' w'' ⟨rfl,rfl,rfl⟩
 exact ⟨_,results_tmp rfl _ _ _,rfl,u2⟩
set_option maxRecDepth 100000 in
theorem zjm (x R n cap i:Nat)(w:World)(h:ClAt w x R n cap)(hi:i<n)(hup:w.cell? ⟨R,i*14,none⟩=some (.bool true)) :
  Calls Tryz.prog 28 #[.pointer (some ⟨x,0,none⟩),.int .i64 i] w fun e w' => e = .returned (.int .i64 9)∧Below w.heap.size w w' := by
 have k41:=h.l41
 have kup:=h.lR hup
 go_enter_defers Tryz.func28,Tryz.ntmps28
 go_wp2_with (go_at_call 44;refine (lock_free zgD ⟨x,0,none⟩ _ h.c0 h.f0).mono ?_;rintro e w' ⟨rfl,rfl⟩)
 refine (zht x R i n cap _ k41 hi).mono ?_
 rintro e w1 ⟨rfl,rfl⟩
 go_wp2
 refine leaves_cons (f:=45) (args:=#[.pointer (some ⟨x,0,none⟩)]) (by simp) (by simp [go_sem]) ?_
 obtain ⟨u0,u1,u2⟩:=h.unlock (w2:=_) (Below.refl _ _)
 refine (unlock_deferred zgD ⟨x,0,none⟩ .returning _ u0 u1).mono ?_
 rintro e u' w'' ⟨rfl,rfl,rfl⟩
 exact ⟨_,results_tmp rfl _ _ _,rfl,u2⟩
set_option maxRecDepth 100000 in
theorem zjp (x R n cap i b m:Nat)(M:Sl→Option Gr)(w:World)(h:ClAt w x R n cap)(hi:i<n)(hup:w.cell? ⟨R,i*14,none⟩=some (.bool true))(hst:w.cell? ⟨R,i*14+3,none⟩=some (.map (some b)))(hr:RulesAt w)(hx:x ≠ 1)(hbx:b ≠ x)(hm:StMap w b m M)(hmm:MayMap M)(hn:m≤8388608) :
  Calls Tryz.prog 50 #[.pointer (some ⟨x,0,none⟩),.int .i64 i] w fun e w' => ∃ v out,e = .returned (.tuple #[v,.int .i64 0])∧w'.ownsRow w.heap.size 76 6 v out.length (flat out)∧Hid (TellOf M out)∧Below w.heap.size w w' := by
 have k41:=h.l41
 have kup:=h.lR hup
 have kst:=h.lR hst
 have hg1:=zet w ⟨x,0,none⟩ (.int .i32 1)
 have HM:Hid (StMap (w.setCell ⟨x,0,none⟩ (.int .i32 1)) b m M):=hm.kept hg1 (fun e=>hbx (by cases e;rfl))
 have HR:Hid (RulesAt (w.setCell ⟨x,0,none⟩ (.int .i32 1))):=by
  obtain ⟨a1,r1,r2,r3,r4,r5⟩:=hr
  have key:∀ {o:Nat} {a b c d e:Int} {r:Bool},ruleAt w o a b c d e r→ruleAt (w.setCell ⟨x,0,none⟩ (.int .i32 1)) o a b c d e r:=by
   intro o a b c d e r h
   obtain ⟨c0,c1,c2,c3,c4,c5⟩:=h
   refine ⟨?_,?_,?_,?_,?_,?_⟩ <;> (rw [World.cell?_of_block (w:=w) (hg1.block _ a1 (fun e=>hx (Option.some.inj e).symm))];assumption)
  exact ⟨Nat.lt_of_lt_of_le a1 hg1.size,key r1,key r2,key r3,key r4,key r5⟩
 clear hg1 hr hm
 go_enter_defers Tryz.func50,Tryz.ntmps50
 go_wp2_with (go_at_call 44;refine (lock_free zgD ⟨x,0,none⟩ _ h.c0 h.f0).mono ?_;rintro e w' ⟨rfl,rfl⟩)
 refine (znb x R i n cap true _ k41 hi kup).mono ?_
 rintro e w1 ⟨rfl,rfl⟩
 go_wp2_with fail
 refine (zmo b m M _ HR.out HM.out hmm hn).mono ?_
 rintro e w2 ⟨v,out,rfl,hown,htl,hb⟩
 rw [zgb] at hown hb
 have hown' : Hid (w2.ownsRow w.heap.size 76 6 v out.length (flat out)):=hown
 obtain ⟨ad,cp,rfl⟩:=zh1 hown
 clear hown
 go_wp2
 refine leaves_cons (f:=45) (args:=#[.pointer (some ⟨x,0,none⟩)]) (by simp) (by simp [go_sem]) ?_
 obtain ⟨u0,u1,u2⟩:=h.unlock (w2:=_) (hb)
 refine (unlock_deferred zgD ⟨x,0,none⟩ .returning _ u0 u1).mono ?_
 rintro e u' w'' ⟨rfl,rfl,rfl⟩
 exact ⟨_,results_tmp2 rfl _ _ _,_,out,rfl,zie hown'.out h.lt,htl,u2⟩
def rec14 (m:Nat):List Value := [.bool true,.int .i64 0,.int .i64 0,.map (some m),.slice none 0 0,.int .i64 0,.int .i64 0,.int .i64 0,.int .i64 0,.int .i64 0,.int .i64 0,.slice none 0 0,.int .i64 0,.int .i64 0]
def noMap:Sl→Option Gr:=fun _=>none
def zero14:List Value := [.bool false,.int .i64 0,.int .i64 0,.map none,.slice none 0 0,.int .i64 0,.int .i64 0,.int .i64 0,.int .i64 0,.int .i64 0,.int .i64 0,.slice none 0 0,.int .i64 0,.int .i64 0]
def zeros (n:Nat):List Value:=(List.replicate n zero14).flatten
def clB (bp rr:Bool)(room:Int)(F:Nat→Nat→Bool)(R n:Nat):List Value := [.int .i32 0,.int .u32 0,.bool bp,.bool rr,.int .i64 room] ++ (linkB F ++ [.slice (some ⟨R,0,none⟩) n n,.slice none 0 0])
theorem zfg:(Tryz.prog.info? 126).map (fun i=>(i.zero,i.size,i.bytes))=some (some (.agg zero14.toArray),14,144):=by kernel_rfl
theorem zgi (n:Nat):madeCells (Value.cells (.agg zero14.toArray)) (n*14)=(zeros n).toArray:=by
 apply Array.ext_getElem?
 intro t
 have hl:(zeros n).length=n*14:=zkE n zero14
 by_cases ht:t<n*14
 ·have hm:t % 14<14:=Nat.mod_lt _ (by decide)
  have hu:zero14[t % 14]? = some zero14[t % 14]! := by
   rw [getElem!_pos zero14 (t % 14) hm,List.getElem?_eq_getElem hm]
  have h2:=zkD (n:=n) (i:=t / 14) (by omega) hu
  rw [show t / 14*zero14.length+t % 14=t by show t / 14*14+t % 14=t;omega] at h2
  have h3:(zeros n).toArray[t]? = some zero14[t % 14]! := by rw [List.getElem?_toArray];exact h2
  rw [h3]
  have hz:(Value.cells (.agg zero14.toArray))=zero14.toArray:=rfl
  rw [hz]
  unfold madeCells
  rw [Array.getElem?_map,Array.getElem?_range,if_pos ht]
  show some (zero14.toArray[t % 14]!)=_
  rw [List.getElem!_toArray]
 ·rw [Array.getElem?_eq_none (by rw [size_madeCells];omega),Array.getElem?_eq_none (by simp;omega)]
theorem zgm (n:Nat)(h6:n≤6)(W:World):(Instr.makeSlice 105 (.int .i64 (n:Int)) (.int .i64 (n:Int))).run Tryz.prog W = .ok (.slice (some ⟨W.heap.size,0,none⟩) n n) (W.alloc (.cells (zeros n).toArray 126)):=by
 obtain ⟨i,hi,hz0,hz1,hz2⟩:=info_parts zfg
 have hr:=run_make (P:=Tryz.prog) W 105 126 i _ Tryz.underlying105 hi hz0 .i64 .i64 n n (by omega) (Int.le_refl _) (by rw [hz2];omega) (by omega)
 simp only [Int.toNat_natCast] at hr
 rw [hr,hz1,zgi n]
theorem zbp {W:World}{a:Addr}{v:Value}(h:W.cell? a=some v)(o:Obj):(W.alloc o).cell? a=some v:=by
 obtain ⟨b,k,s⟩:=a
 cases s with
 | none =>
  obtain ⟨cs,e,fz,hx,_⟩:=Go.Sort.cells_of_cell? h
  exact (((Below.refl W.heap.size W).alloc (Nat.le_refl _) o).cell (p:=⟨b,k,none⟩) (Array.getElem?_eq_some_iff.1 hx).1).trans h
 | some s =>
  simp only [World.cell?] at h
  split at h <;> cases h
structure MadeP (w wc:World)(x R n:Nat)(bp rr:Bool)(room:Int)(F:Nat→Nat→Bool):Prop where
 bel:Below w.heap.size w wc
 bx:wc.heap[x]? = some (.cells (clB bp rr room F R n).toArray 108 (0,0))
 bR:wc.heap[R]? = some (.cells (zeros n).toArray 126 (0,0))
 hx:w.heap.size≤x
 hR:w.heap.size≤R
structure FillP (w wc:World)(x R n r:Nat)(bp rr:Bool)(room:Int)(F:Nat→Nat→Bool):Prop where
 bel:Below w.heap.size w wc
 bx:wc.heap[x]? = some (.cells (clB bp rr room F R n).toArray 108 (0,0))
 hx:w.heap.size≤x
 hR:w.heap.size≤R
 xR:x ≠ R
 ltR:R<wc.heap.size
 th:∀ i,i<n→wc.there R (i*14) 14
 row:∀ i,i<r→∃ m,wc.rangeAt R (i*14) (rec14 m)∧StMap wc m 0 noMap∧m ≠ x∧m ≠ R∧w.heap.size≤m
theorem znX (n:Nat):(zeros n).length=n*14:=zkE n zero14
theorem MadeP.start {w wc:World}{x R n:Nat}{bp rr:Bool}{room:Int}{F:Nat→Nat→Bool}(h:MadeP w wc x R n bp rr room F):FillP w wc x R n 0 bp rr room F where
 bel:=h.bel
 bx:=h.bx
 hx:=h.hx
 hR:=h.hR
 xR e:=by
  have:=h.bx
  rw [e,h.bR] at this
  simp at this
 ltR:=zaY h.bR
 th i hi j hj:=by
  refine ⟨?_,zaZ h.bR _⟩
  have hl:i*14+j<(zeros n).length:=by rw [znX];omega
  rw [zaX h.bR,List.getElem?_toArray,List.getElem?_eq_getElem hl]
  rfl
 row i hi:=by omega
theorem FillP.step {w wc:World}{x R n r:Nat}{bp rr:Bool}{room:Int}{F:Nat→Nat→Bool}(h:FillP w wc x R n r bp rr room F)(hr:r<n):FillP w ((wc.alloc (.map #[] 0)).setCells R (r*14) (rec14 wc.heap.size)) x R n (r+1) bp rr room F where
 bel:=((zaO h.bel _).grown (zeu _ _ _) (by have:=h.bel.size;simp;omega) (fun k hk=>by cases hk;exact h.hR))
 bx:=by
  refine ((zeu (g:=R) (rec14 wc.heap.size) (r*14) (wc.alloc (.map #[] 0))).block x (by have:=zaY h.bx;simp;omega) (fun e=>h.xR (Option.some.inj e))).trans ?_
  exact (((Below.refl wc.heap.size wc).alloc (Nat.le_refl _) _).block x (zaY h.bx)).trans h.bx
 hx:=h.hx
 hR:=h.hR
 xR:=h.xR
 ltR:=Nat.lt_of_lt_of_le h.ltR (Nat.le_trans (by simp) (zeu (g:=R) (rec14 wc.heap.size) (r*14) (wc.alloc (.map #[] 0))).size)
 th i hi:=World.there_setCells (World.there_alloc (h.th i hi) _) _ _ _
 row i hi:=by
  by_cases e:i=r
  ·subst e
   refine ⟨wc.heap.size,World.rangeAt_setCells_same _ _ _ _ (World.there_alloc (h.th i hr) _),?_,?_,?_,h.bel.size⟩
   ·exact (zlW wc).kept (zeu _ _ _) (fun e=>by have:=h.ltR;have:=Option.some.inj e;omega)
   ·have:=zaY h.bx;omega
   ·have:=h.ltR;omega
  ·obtain ⟨m,h1,h2,h3,h4,h5⟩:=h.row i (by omega)
   refine ⟨m,World.rangeAt_setCells_apart (World.rangeAt_alloc h1 _) _ _ _ (.inr (.inl ?_)),?_,h3,h4,h5⟩
   ·show i*14+14≤r*14
    omega
   ·exact (h2.kept (World.grownBy_alloc wc _ none) (by simp)).kept (zeu _ _ _) (fun e=>h4 (Option.some.inj e))
structure Holds2 (M:Sl→Option Gr)(l:List At):Prop where
 only:∀ s g,M s=some g→∃ a∈l,slot a=s∧grade a=g
 top:∀ a∈l,∃ g,M (slot a)=some g∧gcmp (grade a) g≤0
theorem zeW:Holds2 (fun _=>none) []:=⟨fun s g h=>(by cases h),fun a h=>(by cases h)⟩
theorem Holds2.add {M:Sl→Option Gr}{l:List At}(h:Holds2 M l)(a:At):Holds2 (addA M a) (l ++ [a]) where
 only s g hs:=by
  unfold addA upd at hs
  split at hs
  ·rename_i he
   obtain rfl:=(zk4 _ _).1 he
   cases hs
   split
   ·exact ⟨a,by simp,rfl,rfl⟩
   ·rename_i g0 hM
    split
    ·exact ⟨a,by simp,rfl,rfl⟩
    ·obtain ⟨b,hb,h1,h2⟩:=h.only _ _ hM
     exact ⟨b,by simp [hb],h1,h2⟩
  ·obtain ⟨b,hb,h1,h2⟩:=h.only _ _ hs
   exact ⟨b,by simp [hb],h1,h2⟩
 top b hb:=by
  rw [List.mem_append,List.mem_singleton] at hb
  unfold addA upd
  by_cases he:slot b=slot a
  ·rw [if_pos ((zk4 _ _).2 he)]
   refine ⟨_,rfl,?_⟩
   rcases hb with hb | rfl
   ·obtain ⟨g,hg,hle⟩:=h.top b hb
    rw [he] at hg
    rw [hg]
    dsimp only
    split
    ·rename_i hlt;exact zd4.trans _ _ _ hle (by omega)
    ·exact hle
   ·split
    ·rw [zd4.refl];omega
    ·rename_i g0 _
     split
     ·rw [zd4.refl];omega
     ·have:=zd4.anti (grade b) g0;omega
  ·rw [if_neg (fun e=>he ((zk4 _ _).1 e))]
   rcases hb with hb | rfl
   ·exact h.top b hb
   ·exact absurd rfl he
theorem zal (M:Sl→Option Gr)(l r:List At):addTo M (l ++ r)=addTo (addTo M l) r:=by simp [addTo]
theorem Holds2.addTo {M:Sl→Option Gr}{l:List At}(h:Holds2 M l):∀ r:List At,Holds2 (addTo M r) (l ++ r):=by
 intro r
 induction r generalizing M l with
 | nil=>simpa [Go.Proofs.YtahdlejgjcjeoabGreatDoor.addTo] using h
 | cons a r ih =>
  have:=ih (h.add a)
  rw [List.append_assoc] at this
  exact this
theorem zeV (l:List At):Holds2 (addTo (fun _=>none) l) l:=by simpa using zeW.addTo l
theorem Holds2.mayMap {M:Sl→Option Gr}{l:List At}(h:Holds2 M l)(hl:∀ a∈l,mayB a=true):MayMap M:=by
 intro s g hs
 obtain ⟨a,ha,h1,h2⟩:=h.only s g hs
 exact ⟨a,hl a ha,h1,h2⟩
theorem Holds2.told {M:Sl→Option Gr}{l out:List At}(h:Holds2 M l)(hl:∀ a∈l,mayB a=true)(ht:TellOf M out):IsTold l out where
 sorted:=ht.sorted
 great x hx:=by
  obtain ⟨hmx,hMx⟩:=(ht.mem x).1 hx
  obtain ⟨a,ha,h1,h2⟩:=h.only _ _ hMx
  have hax:a=x:=by rw [← zm8 a (hl a ha),← zm8 x hmx,h1,h2]
  refine ⟨hax ▸ ha,fun y hy hp => ?_⟩
  obtain ⟨g,hg,hle⟩:=h.top y hy
  rw [ziz hp,hMx] at hg
  rw [zeh y x (ziF hp),Option.some.inj hg]
  exact hle
 all y hy:=by
  obtain ⟨g,hg,_⟩:=h.top y hy
  obtain ⟨a,ha,h1,h2⟩:=h.only _ _ hg
  refine ⟨a,(ht.mem a).2 ⟨hl a ha,by rw [h1,h2];exact hg⟩,?_⟩
  rw [zix,zk4,h1]
def thinM (M O:Sl→Option Gr)(s:Sl):Option Gr :=
 match M s,O s with
 | some g,some h=>if gcmp g h≤0 then none else some g
 | some g,none=>some g
 | none,_=>none
theorem zmA {M O:Sl→Option Gr}{s:Sl}{g:Gr}(h:thinM M O s=some g):M s=some g∧∀ k,O s=some k→0<gcmp g k:=by
 unfold thinM at h
 split at h
 ·rename_i g' k' hM hO
  split at h
  ·cases h
  ·rename_i hn
   cases h
   exact ⟨hM,fun k hk=>by rw [hO] at hk;cases hk;omega⟩
 ·rename_i g' hM hO
  cases h
  exact ⟨hM,fun k hk=>by rw [hO] at hk;cases hk⟩
 ·cases h
theorem zmz {M O:Sl→Option Gr}{s:Sl}{g:Gr}(h:M s=some g)(k:∀ k,O s=some k→0<gcmp g k):thinM M O s=some g:=by
 unfold thinM
 rw [h]
 cases hO:O s with
 | none=>rfl
 | some k' => 
  have:=k k' hO
  simp only
  rw [if_neg (by omega)]
theorem zmC {M O:Sl→Option Gr}(h:MayMap M):MayMap (thinM M O):=fun s g hs=>h s g (zmA hs).1
theorem Holds2.news {M O:Sl→Option Gr}{l m out:List At}(h:Holds2 M l)(k:Holds2 O m)(hl:∀ a∈l,mayB a=true)(ht:TellOf (thinM M O) out):IsNews l m out where
 sorted:=ht.sorted
 mem x:=by
  rw [ht.mem]
  constructor
  ·rintro ⟨hmx,hx⟩
   obtain ⟨hMx,hOx⟩:=zmA hx
   obtain ⟨a,ha,h1,h2⟩:=h.only _ _ hMx
   have hax:a=x:=by rw [← zm8 a (hl a ha),← zm8 x hmx,h1,h2]
   refine ⟨hax ▸ ha,fun y hy hp => ?_,fun y hy hp => ?_⟩
   ·obtain ⟨g,hg,hle⟩:=h.top y hy
    rw [ziz hp,hMx] at hg
    rw [zeh y x (ziF hp),Option.some.inj hg]
    exact hle
   ·obtain ⟨g,hg,hle⟩:=k.top y hy
    rw [← ziz hp] at hg
    have h3:=hOx g hg
    rw [zeh x y (ziF hp)]
    have h4:=zd4.anti (grade x) g
    have h5:=zd4.le_lt hle (z:=grade x) (by omega)
    have h6:=zd4.anti (grade y) (grade x)
    omega
  ·rintro ⟨h1,h2,h3⟩
   refine ⟨hl x h1,zmz ?_ ?_⟩
   ·obtain ⟨g,hg,hle⟩:=h.top x h1
    obtain ⟨b,hb,e1,rfl⟩:=h.only _ _ hg
    have hp:plc b x=0:=by rw [zix,zk4,e1]
    have h4:=h2 b hb hp
    rw [zeh b x (ziF hp)] at h4
    have h5:=zd4.anti (grade x) (grade b)
    rw [hg,(zd5 (grade x) (grade b)).1 (by omega)]
   ·intro g hg
    obtain ⟨y,hy,e1,rfl⟩:=k.only _ _ hg
    have hp:plc x y=0:=by rw [zix,zk4,e1]
    have:=h3 y hy hp
    rwa [zeh x y (ziF hp)] at this
end Go.Proofs.YtahdlejgjcjeoabGreatDoor
