/- The program's New: settings that may be, links. -/
import Derived.Test.YtahdlejgjcjeoabGreatDoorA07
import Derived.RegionTactic
import Derived.BigRegion
import Derived.Deep.RegionLaw
import Derived.Deep.RegionHeldLaw
import Derived.Test.YtahdlejgjcjeoabGreatDoorA05
import Derived.Deep.CutRange
namespace Go.Proofs.YtahdlejgjcjeoabGreatDoor
set_option maxHeartbeats 8000000
open Go.RowKit
theorem zfk:(Tryz.prog.info? 164).map (fun i=>(i.zero,i.size,i.bytes))=some (some (.agg #[.int .i64 0,.int .i64 0,.slice none 0 0,.bool false]),4,48):=by kernel_rfl
theorem zmI (t:Tk):t.cells.length=4:=rfl
theorem zdc {α:Type}(q:α→Bool)(l:List α)(k:Nat)(h:k<l.length):(l.take (k+1)).filter q=if q l[k] then (l.take k).filter q ++ [l[k]] else (l.take k).filter q:=by
 rw [List.take_succ_eq_append_getElem h,List.filter_append]
 cases hq:q l[k] <;> simp [hq]
theorem zeR {w:World}{col:Col}{κ:Nat × Nat}{v:Value}{l:List At}(h:Held w col κ v l):v.oneCell' = true:=by
 obtain ⟨ad,cap,rfl,_⟩:=h
 rfl
theorem zdG {a b:Int}{v:Value}(h:v.oneCell' = true)(q:Bool):∀ u ∈ [Value.int .i64 a,.int .i64 b,v,.bool q],u.oneCell' = true:=by
 intro u hu
 simp only [List.mem_cons,List.not_mem_nil,or_false] at hu
 rcases hu with rfl | rfl | rfl | rfl
 ·rfl
 ·rfl
 ·exact h
 ·rfl
theorem zfz {w:World}{col:Col}{o i:Nat}{near:List Bool}{D:RefD}{p:Rep}(h:RefRep w col o i near D p)(hn:p.num≤4294967296) :
  Calls Tryz.prog 114 #[.pointer (some ⟨D.ρ,0,none⟩)] w fun e w' => ∃ v,e = .returned v∧w'.ownsRow w.heap.size 164 4 v (D.ts.filter (·.kept)).length ((D.ts.filter (·.kept)).flatMap Tk.cells)∧Below w.heap.size w w' := by
 have d4:=h.cells.2.2.2.2.1
 have hlt:=zaY h.blk
 obtain ⟨ad,cap,hv,hc,H⟩:=h.taken.elem zmI
 rw [hv] at d4
 have HR:Hid (0<D.ts.length→∃ g,ad=some ⟨g,0,none⟩∧g<w.heap.size∧∀ k (hk:k<D.ts.length) j u,(D.ts[k].cells)[j]? = some u→w.cell? ⟨g,k*4+j,none⟩=some u):=fun h0=>by
  obtain ⟨g,h1,h2,_,_,h3⟩:=H h0
  exact ⟨g,h1,h2,h3⟩
 have HV:Hid (∀ t∈D.ts,t.v.oneCell' = true):=fun t ht=>zeR (h.tkd t ht)
 have hl:D.ts.length≤4294967296:=Nat.le_trans h.tsl hn
 clear H h hv
 generalize D.ρ=ρ at *
 generalize D.ts=ts at *
 obtain ⟨i0,hi,hz0,hz1,hz2⟩:=info_parts zfk
 go_enter Tryz.func114,Tryz.ntmps114
 go_wp2
 go_loopw [3,4] (fun v j wr=>∃ (k m:Nat),k≤ts.length∧m≤k∧j = .int .i64 k∧Hid (m=((ts.take k).filter (·.kept)).length)∧wr.ownsRow w.heap.size 164 4 v m (((ts.take k).filter (·.kept)).flatMap Tk.cells)∧Below w.heap.size w wr) (fun _ j _=>ts.length - (intOf j).toNat)
 case atStart=>exact ⟨0,0,Nat.zero_le _,Nat.le_refl _,rfl,by simp [Hid],by simp [World.ownsRow],Below.refl _ _⟩
 case round =>
  obtain ⟨k,m,hk,hmk,rfl,hm,hown,hbw⟩:=hrel
  have d4r:wr.cell? ⟨ρ,4,none⟩=some (.slice ad ts.length cap):=by rw [hbw.cell (p:=⟨ρ,4,none⟩) hlt];exact d4
  by_cases hl:k<ts.length
  ·obtain ⟨g,rfl,hg,hrow⟩:=HR.out (by omega)
   have e0:wr.cell? ⟨g,k*4,none⟩=some (.int .i64 (ts[k].num)):=by rw [hbw.cell (p:=⟨g,k*4,none⟩) hg];exact hrow k hl 0 _ rfl
   have e1:wr.cell? ⟨g,k*4+1,none⟩=some (.int .i64 (ts[k].org)):=by rw [hbw.cell (p:=⟨g,k*4+1,none⟩) hg];exact hrow k hl 1 _ rfl
   have e2:wr.cell? ⟨g,k*4+2,none⟩=some ts[k].v:=by rw [hbw.cell (p:=⟨g,k*4+2,none⟩) hg];exact hrow k hl 2 _ rfl
   have e3:wr.cell? ⟨g,k*4+3,none⟩=some (.bool ts[k].kept):=by rw [hbw.cell (p:=⟨g,k*4+3,none⟩) hg];exact hrow k hl 3 _ rfl
   have hone:=HV.out ts[k] (List.getElem_mem hl)
   have HF:Hid (((ts.take (k+1)).filter (·.kept))=if ts[k].kept then (ts.take k).filter (·.kept) ++ [ts[k]] else (ts.take k).filter (·.kept)):=zdc _ ts k hl
   clear hrow HR HV
   have hsz:=hbw.size
   generalize ts[k]=t at *
   obtain ⟨tn,tg,tv,td,tb⟩:=t
   simp only at e0 e1 e2 e3 hone
   cases tb
   ·go_wp2
    go_roundw
    case rel=>exact ⟨k+1,m,by omega,by omega,by go_num,by rw [Hid,HF.out];exact hm.out,by rw [HF.out];exact hown,hbw⟩
    case measure=>simp [intOf];omega
   ·go_wp2_with (at_builtin;refine wpList_append_lies _ rfl _ _ 139 rfl w.heap.size 164 i0 _ 4 48 Tryz.underlying139 hi hz0 hz1 hz2 rfl (by decide) _ m _ rfl (hown.alloc _) ⟨wr.heap.size,0,none⟩ 1 1 [.int .i64 tn,.int .i64 tg,tv,.bool true] rfl rfl (World.news_of_block (heap_alloc_new wr _)) (zdG hone _) (by decide) (by unfold maxLen;omega) (by omega) (by simp;omega) (wr.heap.size+1) (by simp) ?_;intro g1 capn w1 hown1 hgrow1 hat1 hlt1)
    go_roundw
    case rel=>exact ⟨k+1,m+1,by omega,by omega,by go_num,by rw [Hid,HF.out,hm.out];simp,by rw [HF.out];simpa [Tk.cells] using hown1,(hbw.alloc hsz _).grown hgrow1 (by simp;omega) (zh4 hown)⟩
    case measure=>simp [intOf];omega
  ·go_wp2
   go_ret
   rw [List.take_of_length_le (by omega)] at hown hm
   exact ⟨_,rfl,by rw [← hm.out];exact hown,hbw⟩
def Lim (U:List At)(N:Nat):Prop:=N≤2097152∧U.length≤131072
theorem Lim.prod {U:List At}{N:Nat}(h:Lim U N):(N+1)*U.length≤274878038016:=Nat.le_trans (Nat.mul_le_mul (Nat.succ_le_succ h.1) h.2) (by decide)
theorem Rep.ok.may {U:List At}{N n room:Nat}{p:Rep}(h:p.ok U N n room)(hU:∀ a∈U,mayB a=true):∀ a∈p.atoms,mayB a=true:=fun a ha=>hU a (h.sub a ha)
theorem zkn {w:World}{col:Col}{o x N:Nat}{U:List At}{K:RefC}{c:Clu}(h:RefAt w col o x K c)(hok:c.ok U N)(hL:Lim U N)(r:Int) :
  Calls Tryz.prog 126 #[.pointer (some ⟨x,0,none⟩),.int .i64 r] w fun e w' => ∃ v out,e = .returned (.tuple #[v,.int .i64 (c.works r)])∧w'.ownsRow w.heap.size 76 6 v out.length (flat out)∧Hid (out=if c.works r=0 then tell (c.rep r.toNat).atoms else [])∧Below w.heap.size w w' := by
 have HW:=zkv h hok.n6 r
 by_cases hw:c.works r=0
 ·obtain ⟨⟨h0,hr⟩,hd⟩:=znz hw
  obtain ⟨n,rfl⟩:∃ n:Nat,r=n:=⟨r.toNat,by omega⟩
  simp only [Int.toNat_natCast] at hr hd ⊢
  obtain ⟨g,cap,D,hv,hc,hD,hp,hR⟩:=h.ptr hr
  have c5:=h.cells.2.2.2.2.2.1
  rw [hv] at c5
  have d1:=hR.cells.2.1
  have hrep:=hok.rep hr
  have HT:=zmP D.va (c.rep n).atoms w hR.atoms.slice (fun a ha=>zdj (hok.may a (hrep.sub a ha))) (by have:=hrep.alen;have:=hL.prod;omega)
  have HU:Hid (∀ out,IsTold (c.rep n).atoms out→out=tell (c.rep n).atoms):=fun out ho=>ho.unique (hrep.may hok.may) (zmr _)
  obtain ⟨ad,cp,hva,_⟩:=hR.atoms
  rw [hw] at HW ⊢
  rw [hva] at d1 HT
  clear h hR hok hrep hw hD hva hv
  generalize c.reps.length=L at *
  generalize (c.rep n).atoms=A at *
  have q1:(n:Int)<(L:Int):=by omega
  go_enter Tryz.func126,Tryz.ntmps126
  go_wp2_with fail
  refine HW.mono ?_
  rintro e w' ⟨rfl,rfl⟩
  go_wp2_with fail
  refine HT.mono ?_
  rintro e w' ⟨v',out,rfl,hown,hto,hb⟩
  go_wp2
  go_ret2
  exact ⟨v',rfl,out,hown,HU.out _ hto.out,hb⟩
 ·generalize c.works r=cd at *
  go_enter Tryz.func126,Tryz.ntmps126
  go_wp2_with fail
  refine HW.mono ?_
  rintro e w' ⟨rfl,rfl⟩
  go_wp2
  go_ret2
  exact ⟨.slice none 0 0,rfl,[],by simp [flat,World.ownsRow],rfl,Below.refl _ _⟩
theorem zdD (m:Fm):m.cells.length=5:=rfl
def Clu.frmAt (c:Clu)(k:Int):Frm:=if c.has k then c.frm k.toNat else ⟨0,0,0,0,[]⟩
theorem RefAt.frame {w:World}{col:Col}{o x k:Nat}{K:RefC}{c:Clu}(h:RefAt w col o x K c)(hk:k<c.net.length):∃ g cap v,K.vN = .slice (some ⟨g,0,none⟩) c.net.length cap∧c.net.length≤cap∧Held w col (o,1) v (c.frm k).d∧K.ns[k]? = some ⟨c.frm k,v⟩ ∧
  w.cell? ⟨g,k*5,none⟩=some (.int .i64 (c.frm k).kind)∧w.cell? ⟨g,k*5+1,none⟩=some (.int .i64 (c.frm k).src)∧w.cell? ⟨g,k*5+2,none⟩=some (.int .i64 (c.frm k).dst)∧w.cell? ⟨g,k*5+3,none⟩=some (.int .i64 (c.frm k).upto)∧w.cell? ⟨g,k*5+4,none⟩=some v:=by
 have hl:K.ns.length=c.net.length:=by rw [← h.nets,List.length_map]
 have hk' : k<K.ns.length:=by omega
 obtain ⟨ad,cap,hv,hc,H⟩:=h.net.elem zdD
 obtain ⟨g,rfl,hg,_,_,hrow⟩:=H (by omega)
 have hf:c.frm k=(K.ns[k]).f:=by
  unfold Clu.frm
  rw [List.getD_eq_getElem?_getD,← h.nets,List.getElem?_map,List.getElem?_eq_getElem hk']
  rfl
 rw [hl] at hv hc
 refine ⟨g,cap,(K.ns[k]).v,hv,hc,?_,?_,?_,?_,?_,?_,?_⟩
 ·rw [hf];exact h.netd _ (List.getElem_mem hk')
 ·rw [hf,List.getElem?_eq_getElem hk']
 ·rw [hf];exact hrow k hk' 0 _ rfl
 ·rw [hf];exact hrow k hk' 1 _ rfl
 ·rw [hf];exact hrow k hk' 2 _ rfl
 ·rw [hf];exact hrow k hk' 3 _ rfl
 ·exact hrow k hk' 4 _ rfl
theorem zka {w:World}{col:Col}{o x N:Nat}{U:List At}{K:RefC}{c:Clu}(h:RefAt w col o x K c)(hok:c.ok U N)(k:Int) :
  Calls Tryz.prog 92 #[.pointer (some ⟨x,0,none⟩),.int .i64 k] w fun e w' => ∃ v,e = .returned (.tuple #[.agg #[.int .i64 (c.frmAt k).kind,.int .i64 (c.frmAt k).src,.int .i64 (c.frmAt k).dst,.int .i64 (c.frmAt k).upto,v],.int .i64 (c.netErr k)])∧SliceOf w' v (c.frmAt k).d∧Below w.heap.size w w' := by
 have HW:Hid (∀ W,Below w.heap.size w W→Calls Tryz.prog 123 #[.pointer (some ⟨x,0,none⟩),.int .i64 k] W fun e w' => e = .returned (.bool (c.has k))∧w' = W):=fun W hW=>zkb (h.same hW) k
 have hx:=zaY h.blk
 unfold Clu.frmAt Clu.netErr
 cases hh:c.has k
 ·rw [hh] at HW
  go_enter Tryz.func92,Tryz.ntmps92
  go_wp2_with fail
  refine (HW.out _ (zaO (Below.refl _ _) _)).mono ?_
  rintro e w' ⟨rfl,rfl⟩
  go_wp2
  refine bodyPost_ret (v := .tuple #[.agg #[.int .i64 0,.int .i64 0,.int .i64 0,.int .i64 0,.slice none 0 0],.int .i64 10]) ?_ rfl ⟨.slice none 0 0,rfl,zlC _,?_⟩
  ·simp [results,Tryz.results92,go_sem]
  ·exact zaO (Below.refl _ _) _
 ·obtain ⟨h0,hlt⟩:=zeH hh
  obtain ⟨n,rfl⟩:∃ n:Nat,k=n:=⟨k.toNat,by omega⟩
  simp only [Int.toNat_natCast] at hlt ⊢
  obtain ⟨g,cap,v,hv,hc,hh1,hh2,e0,e1,e2,e3,e4⟩:=h.frame hlt
  have c6:=h.cells.2.2.2.2.2.2.1
  rw [hv] at c6
  rw [hh] at HW
  have HS:Hid (SliceOf w v (c.frm n).d):=hh1.slice
  have hnl:=hok.netL
  obtain ⟨ad,cp,hva,_⟩:=hh1
  have hg:g<w.heap.size:=World.block_lt_of_cell? w ⟨g,n*5,none⟩ e0
  clear h hok hh hh2
  generalize c.frm n=F at *
  obtain ⟨f0,f1,f2,f3,f4⟩:=F
  simp only at *
  generalize c.net.length=L at *
  subst hva
  have q1:(n:Int)<(L:Int):=by omega
  go_enter Tryz.func92,Tryz.ntmps92
  go_wp2_with fail
  refine (HW.out _ (zaO (Below.refl _ _) _)).mono ?_
  rintro e w' ⟨rfl,rfl⟩
  go_wp2
  refine bodyPost_ret (v := .tuple #[.agg #[.int .i64 f0,.int .i64 f1,.int .i64 f2,.int .i64 f3,.slice ad f4.length cp],.int .i64 0]) ?_ rfl ⟨.slice ad f4.length cp,rfl,HS.out.below ?_,?_⟩
  ·simp [results,Tryz.results92,go_sem]
  ·exact zaO (zaO (Below.refl _ _) _) _
  ·exact zaO (zaO (Below.refl _ _) _) _
def Clu.repAt (c:Clu)(r:Int):Rep:=if c.there r then c.rep r.toNat else ⟨true,[],0,0,[],[],[],[],0,0⟩
def Clu.thereErr (c:Clu)(r:Int):Int:=if c.there r then 0 else 5
theorem zfb:(Tryz.prog.info? 3).map (fun i=>(i.zero,i.size,i.bytes))=some (some (.int .i64 0),1,8):=by kernel_rfl
theorem zfq (l:List Nat)(k:Nat)(h:k<l.length):ints (l.take (k+1))=ints (l.take k) ++ [.int .i64 (l[k]:Nat)]:=by
 unfold ints
 rw [List.take_succ_eq_append_getElem h,List.map_append]
 rfl
theorem zm0 (w:World)(a b:Obj):((w.alloc a).alloc b).heap[w.heap.size+1]? = some b∧((w.alloc a).alloc b).heap[w.heap.size]? = some a:=by
 have h1:=heap_alloc_new (w.alloc a) b
 rw [show (w.alloc a).heap.size=w.heap.size+1 by simp] at h1
 exact ⟨h1,(Below.heap_alloc (w.alloc a) b w.heap.size (by simp)).trans (heap_alloc_new w a)⟩
structure RepInv (w wr:World)(R:Array Value)(A:Array Value)(v:Value)(k:Nat)(l:List Nat):Prop where
 out:wr.heap[w.heap.size+1]? = some (.cells A 134 (0,0))
 res:wr.heap[w.heap.size]? = some (.cells R 134 (0,0))
 own:wr.ownsRow (w.heap.size+2) 3 1 v k (ints (l.take k))
 bel:Below w.heap.size w wr
 size:w.heap.size+2≤wr.heap.size
theorem zeJ {w:World}{g o:Nat}{cur:Array Value}{e:TypeId}{fz:Nat × Nat}(h:w.heap[g]? = some (.cells cur e fz))(u:Value):(w.setCell ⟨g,o,none⟩ u).heap[g]? = some (.cells (cur.setIfInBounds o u) e fz):=zeK h u
theorem Hid.mk {p:Prop}(h:p):Hid p:=h
def set6 (w:World)(q:Nat)(a b c d e f:Value):World:=(((((w.setCell ⟨q,0,none⟩ a).setCell ⟨q,1,none⟩ b).setCell ⟨q,2,none⟩ c).setCell ⟨q,3,none⟩ d).setCell ⟨q,4,none⟩ e).setCell ⟨q,5,none⟩ f
theorem RepInv.done {w wr:World}{A:Array Value}{v:Value}{l:List Nat}{x0 x1 x2 x3 x4 x5:Value}(h:RepInv w wr #[x0,x1,x2,x3,x4,x5] A v l.length l)(a b c d e f:Value) :
  (set6 wr w.heap.size a b c d e f).heap[w.heap.size]? = some (.cells #[a,b,c,d,e,f] 134 (0,0))∧(set6 wr w.heap.size a b c d e f).ownsRow w.heap.size 3 1 v l.length (ints l)∧Below w.heap.size w (set6 wr w.heap.size a b c d e f):=by
 refine ⟨?_,?_,?_⟩
 ·exact zeJ (o:=5) (zeJ (o:=4) (zeJ (o:=3) (zeJ (o:=2) (zeJ (o:=1) (zeJ (o:=0) h.res a) b) c) d) e) f
 ·have hown:=h.own
  rw [List.take_of_length_le (Nat.le_refl _)] at hown
  exact zic (zie (zie (zie (zie (zie (zie hown (by omega)) (by omega)) (by omega)) (by omega)) (by omega)) (by omega)) (by omega:w.heap.size≤w.heap.size+2)
 ·exact (((((h.bel.setCell (Nat.le_refl _) _).setCell (Nat.le_refl _) _).setCell (Nat.le_refl _) _).setCell (Nat.le_refl _) _).setCell (Nat.le_refl _) _).setCell (Nat.le_refl _) _
theorem RepInv.more {w wr w3:World}{R:Array Value}{x0 x1 x2 x4 x5 v v3:Value}{k ax:Nat}{l:List Nat}{tmp:Obj}(h:RepInv w wr R #[x0,x1,x2,v,x4,x5] v k l)(h3:(wr.alloc tmp).drew.grownBy w3 v.ownBlock)(ho3:w3.ownsRow (w.heap.size+2) 3 1 v3 (k+1) (ints (l.take k) ++ [.int .i64 ax]))(hs:ints (l.take (k+1))=ints (l.take k) ++ [.int .i64 ax]) :
  RepInv w (w3.setCell ⟨w.heap.size+1,3,none⟩ v3) R #[x0,x1,x2,v3,x4,x5] v3 (k+1) l∧w3.cell? ⟨w.heap.size+1,3,none⟩=some v∧w3.frozen? ⟨w.heap.size+1,3,none⟩=false∧∀ a u,a.block<w.heap.size→wr.cell? a=some u→w3.cell? a=some u∧∀ z,(w3.setCell ⟨w.heap.size+1,3,none⟩ z).cell? a=some u:=by
 have hsz:=h.size
 have hb:∀ q,q<w.heap.size+2→some q ≠ v.ownBlock:=fun q hq e=>by
  have:=zh4 h.own _ e.symm
  omega
 have hg:=zev (World.grownBy_alloc wr tmp v.ownBlock) (zeq h3)
 have hO:=(hg.block (w.heap.size+1) (by omega) (hb _ (by omega))).trans h.out
 have hR:=(hg.block w.heap.size (by omega) (hb _ (by omega))).trans h.res
 refine ⟨⟨zeJ (o:=3) hO v3,(Below.heap_setCell _ _ _ _ (by simp)).trans hR,?_,?_,?_⟩,zaX hO 3,zaZ hO 3,fun a u ha hc => ?_⟩
 ·rw [hs]
  exact zie ho3 (by omega)
 ·exact (h.bel.grown hg (by omega) (fun q hq=>by have:=zh4 h.own q hq;omega)).setCell (by simp) _
 ·have:=hg.size
  simp
  omega
 ·have h1:=hg.cell hc (hb _ (by omega))
  refine ⟨h1,fun z=>(World.cell?_setCell_other _ _ _ _ (fun e => ?_)).trans h1⟩
  have:w.heap.size+1=a.block:=by rw [← e]
  omega
set_option maxRecDepth 100000 in
theorem zkh {w:World}{col:Col}{o x N:Nat}{U:List At}{K:RefC}{c:Clu}(h:RefAt w col o x K c)(hok:c.ok U N)(r:Int) :
  Calls Tryz.prog 134 #[.pointer (some ⟨x,0,none⟩),.int .i64 r] w fun e w' => ∃ v,e = .returned (.tuple #[.agg #[.bool (!(c.repAt r).down),.int .i64 (c.repAt r).num,.int .i64 (c.repAt r).base,v,.int .i64 (c.repAt r).frames,.int .i64 (c.repAt r).weight],.int .i64 (c.thereErr r)])∧w'.ownsRow w.heap.size 3 1 v (c.repAt r).acked.length (ints (c.repAt r).acked)∧Below w.heap.size w w' := by
 have HW:Hid (∀ W,Below w.heap.size w W→Calls Tryz.prog 73 #[.pointer (some ⟨x,0,none⟩),.int .i64 r] W fun e w' => e = .returned (.bool (c.there r))∧w' = W):=fun W hW=>zkr (h.same hW) r
 have hx:=zaY h.blk
 unfold Clu.repAt Clu.thereErr
 cases hh:c.there r
 ·rw [hh] at HW
  go_enter Tryz.func134,Tryz.ntmps134
  go_wp2_with fail
  refine (HW.out _ (zaO (Below.refl _ _) _)).mono ?_
  rintro e w' ⟨rfl,rfl⟩
  go_wp2
  refine bodyPost_ret (v := .tuple #[.agg #[.bool false,.int .i64 0,.int .i64 0,.slice none 0 0,.int .i64 0,.int .i64 0],.int .i64 5]) ?_ rfl ⟨.slice none 0 0,rfl,by simp [World.ownsRow,ints],?_⟩
  ·simp [results,Tryz.results134,go_sem]
  ·exact zaO (Below.refl _ _) _
 ·obtain ⟨h0,hr⟩:=zmw hh
  obtain ⟨n,rfl⟩:∃ n:Nat,r=n:=⟨r.toNat,by omega⟩
  simp only [Int.toNat_natCast] at hr ⊢
  obtain ⟨g,cap,D,hv,hc,hD,hp,hR⟩:=h.ptr hr
  have c5:=h.cells.2.2.2.2.2.1
  rw [hv] at c5
  obtain ⟨d0,d1,d2,d3,d4,d5,d6,d7,d8,d9,_⟩:=hR.cells
  have hl6:=(hok.rep hr).ackL
  have hn6:=hok.n6
  have hg:g<w.heap.size:=World.block_lt_of_cell? w ⟨g,n,none⟩ hp
  have hρ:=zaY hR.blk
  rw [hh] at HW
  clear h hok hh hD hv
  obtain ⟨adk,capk,hvk,_⟩:=hR.acked.form
  rw [hvk] at d6
  have hAK:=hR.acked
  rw [hvk] at hAK
  have HAK:Hid (RowC w col (o,40+n) 3 1 (.slice adk (c.rep n).acked.length capk) (c.rep n).acked.length (ints (c.rep n).acked)):=hAK
  clear hAK hR hvk d1 d4 d5 d7
  generalize D.ρ=ρ at *
  generalize c.rep n=p at *
  obtain ⟨dn,at',nm,bs,bf,ak,lg,tn,fr,wt⟩:=p
  simp only at *
  generalize c.reps.length=L at *
  subst hl6
  have q1:(n:Int)<(ak.length:Int):=by omega
  go_enter Tryz.func134,Tryz.ntmps134
  go_wp2_with fail
  refine (HW.out _ (zaO (Below.refl _ _) _)).mono ?_
  rintro e w' ⟨rfl,rfl⟩
  go_wp2
  go_region_held3 (fun w' => w'.cell? ⟨ρ,0,none⟩=some (.bool dn)∧w'.cell? ⟨ρ,2,none⟩=some (.int .i64 nm)∧w'.cell? ⟨ρ,3,none⟩=some (.int .i64 bs)∧w'.cell? ⟨ρ,8,none⟩=some (.int .i64 fr)∧w'.cell? ⟨ρ,9,none⟩=some (.int .i64 wt)) (go_keep) (fail)
  obtain ⟨w0,hw0⟩:∃ w0,w0=((w.alloc (.cells #[.bool false,.int .i64 0,.int .i64 0,.slice none 0 0,.int .i64 0,.int .i64 0] 134)).alloc (.cells #[.bool !dn,.int .i64 nm,.int .i64 bs,.slice none 0 0,.int .i64 fr,.int .i64 wt] 134)).drew:=⟨_,rfl⟩
  have HI:Hid (RepInv w w0 #[.bool false,.int .i64 0,.int .i64 0,.slice none 0 0,.int .i64 0,.int .i64 0] #[.bool !dn,.int .i64 nm,.int .i64 bs,.slice none 0 0,.int .i64 fr,.int .i64 wt] (.slice none 0 0) 0 ak):=by
   subst hw0
   refine ⟨?_,?_,by simp [World.ownsRow,ints],(zaO (zaO (Below.refl _ _) _) _).drew,by simp⟩
   ·exact (zm0 w _ _).1
   ·exact (zm0 w _ _).2
  rw [← hw0]
  clear hw0
  obtain ⟨i0,hi,hz0,hz1,hz2⟩:=info_parts zfb
  clear hp c5 d0 d2 d3 d8 d9 HW
  go_wp2
  go_loopw [9] (fun j wr=>∃ (k:Nat) (v:Value),k≤ak.length∧j = .int .i64 k∧Hid (RepInv w wr #[.bool false,.int .i64 0,.int .i64 0,.slice none 0 0,.int .i64 0,.int .i64 0] #[.bool !dn,.int .i64 nm,.int .i64 bs,v,.int .i64 fr,.int .i64 wt] v k ak)) (fun j _=>ak.length - (intOf j).toNat)
  case atStart=>exact ⟨0,_,Nat.zero_le _,rfl,HI⟩
  case round =>
   obtain ⟨k,v,hk,rfl,hinv⟩:=hrel
   have hbel:=hinv.out.bel
   have d6r:wr.cell? ⟨ρ,6,none⟩=some (.slice adk ak.length capk):=by rw [hbel.cell (p:=⟨ρ,6,none⟩) hρ];exact d6
   have e3:wr.cell? ⟨w.heap.size+1,3,none⟩=some v:=zaX hinv.out.out 3
   have f3:wr.frozen? ⟨w.heap.size+1,3,none⟩=false:=zaZ hinv.out.out 3
   have hsz:=hinv.out.size
   obtain ⟨adv,cpv,rfl⟩:=zh1 hinv.out.own
   by_cases hl:k<ak.length
   ·obtain ⟨gk,capk',hvk,_,_,hgk,_,hck,_⟩:=HAK.out.at (by omega)
    cases hvk
    have a0:wr.cell? ⟨gk,k,none⟩=some (.int .i64 (ak[k]:Nat)):=by rw [hbel.cell (p:=⟨gk,k,none⟩) hgk];exact hck k _ (by simp [ints,hl])
    have hown:=hinv.out.own
    have HSN:Hid (ints (ak.take (k+1))=ints (ak.take k) ++ [.int .i64 (ak[k]:Nat)]):=zfq ak k hl
    clear HAK hck hbel d6
    generalize ak[k]=ax at *
    have hlq:w.heap.size+1<wr.heap.size:=by omega
    have hgk' : gk<wr.heap.size:=by omega
    have hρ' : ρ<wr.heap.size:=by omega
    have HM:Hid (∀ w3 v3,(wr.alloc (.cells #[.int .i64 ax] 3)).drew.grownBy w3 (Value.slice adv k cpv).ownBlock→w3.ownsRow (w.heap.size+2) 3 1 v3 (k+1) (ints (ak.take k) ++ [.int .i64 ax])→_):=fun w3 v3 h3 h4=>hinv.out.more h3 h4 HSN.out
    have HI2:Hid (RepInv w wr #[.bool false,.int .i64 0,.int .i64 0,.slice none 0 0,.int .i64 0,.int .i64 0] #[.bool !dn,.int .i64 nm,.int .i64 bs,.slice adv k cpv,.int .i64 fr,.int .i64 wt] (.slice adv k cpv) k ak):=hinv
    have hkb:k≤6:=by omega
    clear hinv
    go_wp2
    go_region_law (refine step_append_lies _ rfl _ _ 78 rfl (w.heap.size+2) 3 i0 _ 1 8 Tryz.underlying78 hi hz0 hz1 hz2 rfl (by decide) _ k _ rfl (hown.alloc _) ⟨wr.heap.size,0,none⟩ 1 1 [.int .i64 ax] rfl rfl (World.news_of_block (heap_alloc_new wr _)) (by simp [Value.oneCell']) (by decide) (by unfold maxLen;omega) (by omega) (by simp;omega) (wr.heap.size+1) (by simp) ?_;intro g3' capn w3 hown3 hgrow3 hat3 hlt3;obtain ⟨hinv3,e1,f1,hold⟩:=HM.out w3 _ hgrow3 hown3)
    all_goals go_wp2
    all_goals exact ⟨⟨k+1,_,by omega,by go_num,hinv3⟩,by simp [intOf];omega⟩
   ·have hkl:k=ak.length:=by omega
    subst hkl
    obtain ⟨r0,r1,r2,r3,r4,r5⟩:wr.cell? ⟨w.heap.size,0,none⟩=some (.bool false)∧wr.cell? ⟨w.heap.size,1,none⟩=some (.int .i64 0)∧wr.cell? ⟨w.heap.size,2,none⟩=some (.int .i64 0)∧wr.cell? ⟨w.heap.size,3,none⟩=some (.slice none 0 0)∧wr.cell? ⟨w.heap.size,4,none⟩=some (.int .i64 0)∧wr.cell? ⟨w.heap.size,5,none⟩=some (.int .i64 0):=⟨zaX hinv.out.res 0,zaX hinv.out.res 1,zaX hinv.out.res 2,zaX hinv.out.res 3,zaX hinv.out.res 4,zaX hinv.out.res 5⟩
    have rf:=zaZ hinv.out.res
    obtain ⟨o0,o1,o2,o4,o5⟩:wr.cell? ⟨w.heap.size+1,0,none⟩=some (.bool !dn)∧wr.cell? ⟨w.heap.size+1,1,none⟩=some (.int .i64 nm)∧wr.cell? ⟨w.heap.size+1,2,none⟩=some (.int .i64 bs)∧wr.cell? ⟨w.heap.size+1,4,none⟩=some (.int .i64 fr)∧wr.cell? ⟨w.heap.size+1,5,none⟩=some (.int .i64 wt):=⟨zaX hinv.out.out 0,zaX hinv.out.out 1,zaX hinv.out.out 2,zaX hinv.out.out 4,zaX hinv.out.out 5⟩
    have hdone:=hinv.out.done (.bool !dn) (.int .i64 nm) (.int .i64 bs) (.slice adv ak.length cpv) (.int .i64 fr) (.int .i64 wt)
    unfold set6 at hdone
    have HD:=Hid.mk hdone
    clear hdone hinv
    go_wp2
    clear r0 r1 r2 r3 r4 r5 rf o0 o1 o2 o4 o5 e3 f3 d6r
    generalize ((((((wr.setCell ⟨w.heap.size,0,none⟩ (.bool !dn)).setCell ⟨w.heap.size,1,none⟩ (.int .i64 nm)).setCell ⟨w.heap.size,2,none⟩ (.int .i64 bs)).setCell ⟨w.heap.size,3,none⟩ (.slice adv ak.length cpv)).setCell ⟨w.heap.size,4,none⟩ (.int .i64 fr)).setCell ⟨w.heap.size,5,none⟩ (.int .i64 wt))=W at HD ⊢
    obtain ⟨hB,hO,hW⟩:=HD.out
    refine bodyPost_ret (v := .tuple #[.agg #[.bool !dn,.int .i64 nm,.int .i64 bs,.slice adv ak.length cpv,.int .i64 fr,.int .i64 wt],.int .i64 0]) ?_ rfl ⟨_,rfl,hO,hW⟩
    have r0:=zaX hB 0
    have r1:=zaX hB 1
    have r2:=zaX hB 2
    have r3:=zaX hB 3
    have r4:=zaX hB 4
    have r5:=zaX hB 5
    simp only [List.getElem?_toArray,List.getElem?_cons_zero,List.getElem?_cons_succ] at r0 r1 r2 r3 r4 r5
    simp [results,Tryz.results134,go_sem,r0,r1,r2,r3,r4,r5]
open Go.RowKit Go.MuLone
def EdgesOf (w:World)(v:Value)(es:List (Int × Int)):Prop :=
 ∃ ad cap,v = .slice ad es.length cap∧es.length≤cap∧(0<es.length→∃ b off,ad=some ⟨b,off,none⟩∧b<w.heap.size∧∀ i (h:i<es.length),w.cell? ⟨b,off+i*2,none⟩=some (.int .i64 es[i].1)∧w.cell? ⟨b,off+i*2+1,none⟩=some (.int .i64 es[i].2))
theorem EdgesOf.below {w w' : World}{v:Value}{es:List (Int × Int)}(h:EdgesOf w v es)(hb:Below w.heap.size w w'):EdgesOf w' v es:=by
 obtain ⟨ad,cap,rfl,hc,H⟩:=h
 refine ⟨ad,cap,rfl,hc,fun h0 => ?_⟩
 obtain ⟨b,off,rfl,hlt,hrow⟩:=H h0
 exact ⟨b,off,rfl,Nat.lt_of_lt_of_le hlt hb.size,fun i hi=>⟨(hb.cell (p:=⟨b,_,none⟩) hlt).trans (hrow i hi).1,(hb.cell (p:=⟨b,_,none⟩) hlt).trans (hrow i hi).2⟩⟩
set_option maxRecDepth 100000 in
theorem zlB (reps room:Int)(ad:Option Addr)(m cap:Nat)(bp rr:Bool)(w:World) :
  Calls Tryz.prog 53 #[.agg #[.int .i64 reps,.slice ad m cap,.bool bp,.bool rr,.int .i64 room]] w fun e w' => e = .returned (.bool (decide (1≤reps∧reps≤6∧1≤room∧room≤8)))∧Below w.heap.size w w' := by
 go_enter Tryz.func53,Tryz.ntmps53
 by_cases h1:1≤reps
 ·by_cases h2:reps≤6
  ·by_cases h3:1≤room
   ·by_cases h4:room≤8
    ·go_wp2
     go_ret
     exact ⟨zkL (by simp [h1,h2,h3,h4]),zaO (Below.refl _ _) _⟩
    ·go_wp2
     go_ret
     exact ⟨zkL (by simp;omega),zaO (Below.refl _ _) _⟩
   ·go_wp2
    go_ret
    exact ⟨zkL (by simp;omega),zaO (Below.refl _ _) _⟩
  ·go_wp2
   go_ret
   exact ⟨zkL (by simp;omega),zaO (Below.refl _ _) _⟩
 ·go_wp2
  go_ret
  exact ⟨zkL (by simp;omega),zaO (Below.refl _ _) _⟩
def linkB (f:Nat→Nat→Bool):List Value:=(List.range 36).map fun k => .bool (f (k / 6) (k % 6))
theorem zf2 (f:Nat→Nat→Bool)(k:Nat)(hk:k<36):(linkB f).toArray[k]? = some (.bool (f (k / 6) (k % 6))):=by
 simp [linkB,hk]
theorem zf1 (f:Nat→Nat→Bool)(a b:Nat)(ha:a<6)(hb:b<6):((linkB f).toArray.setIfInBounds (a*6+b) (.bool true)).setIfInBounds (b*6+a) (.bool true)=(linkB (addE f a b)).toArray:=by
 apply Array.ext_getElem?
 intro k
 by_cases hk:k<36
 ·rw [zf2 _ k hk,Array.getElem?_setIfInBounds]
  have hs:((linkB f).toArray.setIfInBounds (a*6+b) (.bool true)).size=36:=by simp [linkB]
  have hs0:(linkB f).toArray.size=36:=by simp [linkB]
  unfold addE
  by_cases e1:b*6+a=k
  ·rw [if_pos e1,if_pos (by omega)]
   have h1:k / 6=b:=by omega
   have h2:k % 6=a:=by omega
   simp [h1,h2]
  ·rw [if_neg e1,Array.getElem?_setIfInBounds]
   by_cases e2:a*6+b=k
   ·rw [if_pos e2,if_pos (by omega)]
    have h1:k / 6=a:=by omega
    have h2:k % 6=b:=by omega
    simp [h1,h2]
   ·rw [if_neg e2,zf2 _ k hk]
    have n1:¬ (k / 6=a∧k % 6=b):=by omega
    have n2:¬ (k / 6=b∧k % 6=a):=by omega
    have:(decide (k / 6=a) && decide (k % 6=b))=false:=by simpa using n1
    have h3:(decide (k / 6=b) && decide (k % 6=a))=false:=by simpa using n2
    rw [this,h3,Bool.or_false,Bool.or_false]
 ·rw [Array.getElem?_eq_none (by simp [linkB];omega),Array.getElem?_eq_none (by simp [linkB];omega)]
theorem minmax {a b:Int}:(min a b=a∧max a b=b)∨(min a b=b∧max a b=a):=by omega
def LinkAt (w:World)(g:Nat)(f:Nat→Nat→Bool):Prop:=w.heap[g]? = some (.cells (linkB f).toArray 104 (0,0))
theorem LinkAt.cell {w:World}{g:Nat}{f:Nat→Nat→Bool}(h:LinkAt w g f)(k:Nat)(hk:k<36):w.cell? ⟨g,k,none⟩=some (.bool (f (k / 6) (k % 6))):=by
 unfold LinkAt at h
 rw [zaX h,zf2 f k hk]
theorem zfc:(Tryz.prog.info? 104).map (·.size)=some 36:=by kernel_rfl
theorem zf4 (f:Nat→Nat→Bool):(linkB f).toArray.size=36:=by simp [linkB]
theorem zf3 (f:Nat→Nat→Bool):(linkB f).toArray.all (·.oneCell')=true:=by
 rw [Array.all_eq_true_iff_forall_mem]
 intro v hv
 simp only [linkB,List.mem_toArray,List.mem_map] at hv
 obtain ⟨k,-,rfl⟩:=hv
 rfl
theorem zf5 (f:Nat→Nat→Bool):(Tryz.prog.info? 104).map (·.size)=some (linkB f).toArray.size:=by rw [zf4];exact zfc
theorem LinkAt.over {w W:World}{g:Nat}{f:Nat→Nat→Bool}(h:LinkAt W g f)(hb:Below g w W)(f' : Nat→Nat→Bool):LinkAt (W.setRow g (linkB f').toArray) g f' ∧ Below g w (W.setRow g (linkB f').toArray):=by
 have hlt:=zaY h
 refine ⟨setRow_heap W g _ _ _ _ h,hb.os,hb.tape,hb.output,by simpa [World.setRow] using hb.size,fun k hk => ?_⟩
 rw [setRow_other W g k _ (by omega)]
 exact hb.block k hk
theorem zf7 {W:World}{g:Nat}{f:Nat→Nat→Bool}(h:LinkAt W g f):(loadVar 104 ⟨g,0,none⟩).run Tryz.prog W = .ok (.agg (linkB f).toArray) W :=
 run_loadVar_row W g _ _ _ _ _ h Tryz.underlying104 rfl (zf5 f)
theorem zcD {n:Nat}{f:Nat→Nat→Bool}{ea eb lo hi:Int}(h:edgeOk n f ea eb=true)(hm:(lo=ea∧hi=eb)∨(lo=eb∧hi=ea))(hl:lo≤hi):∃ la ha:Nat,lo=la∧hi=ha∧la<n∧ha<n∧la ≠ ha∧addE f ea.toNat eb.toNat=addE f la ha:=by
 unfold edgeOk at h
 simp only [Bool.and_eq_true,decide_eq_true_eq] at h
 obtain ⟨⟨h1,h2,h3,h4,h5⟩,-⟩:=h
 rcases hm with ⟨rfl,rfl⟩ | ⟨rfl,rfl⟩
 ·exact ⟨lo.toNat,hi.toNat,by omega,by omega,by omega,by omega,by omega,rfl⟩
 ·refine ⟨lo.toNat,hi.toNat,by omega,by omega,by omega,by omega,by omega,?_⟩
  funext i j
  unfold addE
  rw [Bool.or_assoc,Bool.or_assoc,Bool.or_comm (decide (i=hi.toNat) && _)]
theorem LinkAt.add {w W:World}{g a b:Nat}{f:Nat→Nat→Bool}(h:LinkAt W (g+1) f)(hz:LinkAt W g noE)(hb:Below g w W)(ha:a<6)(hb6:b<6) :
  LinkAt ((W.setCell ⟨g+1,a*6+b,none⟩ (.bool true)).setCell ⟨g+1,b*6+a,none⟩ (.bool true)) (g+1) (addE f a b)∧LinkAt ((W.setCell ⟨g+1,a*6+b,none⟩ (.bool true)).setCell ⟨g+1,b*6+a,none⟩ (.bool true)) g noE∧Below g w ((W.setCell ⟨g+1,a*6+b,none⟩ (.bool true)).setCell ⟨g+1,b*6+a,none⟩ (.bool true)):=by
 have g1:=zet W ⟨g+1,a*6+b,none⟩ (.bool true)
 have g2:=zet (W.setCell ⟨g+1,a*6+b,none⟩ (.bool true)) ⟨g+1,b*6+a,none⟩ (.bool true)
 have hlt:=zaY hz
 have hg:=zev g1 g2
 refine ⟨?_,(hg.block g hlt (fun e=>by have h0:g=g+1:=Option.some.inj e;omega)).trans hz,hb.grown hg (by omega) (fun k hk=>by cases hk;exact Nat.le_succ _)⟩
 have:=zeK (o:=b*6+a) (zeK (o:=a*6+b) h (.bool true)) (.bool true)
 rw [zf1 f a b ha hb6] at this
 exact this
theorem zkJ {fn:Func}{p q:Tmp}(h:fn.results=#[.cell p 104,.tmp q])(tmps:Array Value){W:World}{g:Nat}{f:Nat→Nat→Bool}{v:Value}(hp:tmps.getD p undef = .pointer (some ⟨g,0,none⟩))(hq:tmps.getD q undef=v)(hL:LinkAt W g f) :
  (results fn tmps).run Tryz.prog W = .ok (.tuple #[.agg (linkB f).toArray,v]) W:=by
 have hp' : tmps[p]?.getD undef = .pointer (some ⟨g,0,none⟩):=by simpa using hp
 have hq' : tmps[q]?.getD undef=v:=by simpa using hq
 simp [results,h,hp',hq',asAddr,zf7 hL]
set_option maxRecDepth 100000 in
theorem zf6 (v:Value)(es:List (Int × Int))(n:Nat)(w:World)(hv:EdgesOf w v es)(h6:n≤6)(hlen:es.length≤1048576) :
  Calls Tryz.prog 54 #[v,.int .i64 n] w fun e w' => e = .returned (.tuple #[.agg (linkB ((linkAll n noE es).getD noE)).toArray,.bool (linkAll n noE es).isSome])∧Below w.heap.size w w' := by
 obtain ⟨ad,cap,rfl,hcap,H⟩:=hv
 have HR:Hid (0<es.length→∃ b off,ad=some ⟨b,off,none⟩∧b<w.heap.size∧∀ i (h:i<es.length),w.cell? ⟨b,off+i*2,none⟩=some (.int .i64 es[i].1)∧w.cell? ⟨b,off+i*2+1,none⟩=some (.int .i64 es[i].2)):=H
 clear H
 go_enter Tryz.func54,Tryz.ntmps54
 go_wp2
 have hb0:=zaO (zaO (Below.refl _ w) (.cells (linkB noE).toArray 104)) (.cells (linkB noE).toArray 104)
 have hz0:=(zm0 w (.cells (linkB noE).toArray 104) (.cells (linkB noE).toArray 104)).1
 have hz1:=(zm0 w (.cells (linkB noE).toArray 104) (.cells (linkB noE).toArray 104)).2
 have HS:Hid (∃ f,LinkAt ((w.alloc (.cells (linkB noE).toArray 104)).alloc (.cells (linkB noE).toArray 104)) (w.heap.size+1) f∧LinkAt ((w.alloc (.cells (linkB noE).toArray 104)).alloc (.cells (linkB noE).toArray 104)) w.heap.size noE∧SymE f∧linkAll n f (es.drop 0)=linkAll n noE es∧Below w.heap.size w ((w.alloc (.cells (linkB noE).toArray 104)).alloc (.cells (linkB noE).toArray 104))):=⟨noE,hz0,hz1,zmc,rfl,hb0⟩
 clear hb0 hz0 hz1
 go_loopw [13] (fun s wr=>∃ j:Nat,j≤es.length∧s = .int .i64 j∧Hid (∃ f,LinkAt wr (w.heap.size+1) f∧LinkAt wr w.heap.size noE∧SymE f∧linkAll n f (es.drop j)=linkAll n noE es∧Below w.heap.size w wr)) (fun s _=>es.length - (intOf s).toNat)
 case atStart=>exact ⟨0,Nat.zero_le _,rfl,HS⟩
 case round =>
  clear HS
  obtain ⟨j,hj,rfl,hst⟩:=hrel
  obtain ⟨f,hL,hZ,hsym,hlk,hbw⟩:=hst.out
  clear hst
  by_cases hl:j<es.length
  ·obtain ⟨b,off,rfl,hb,hrow⟩:=HR.out (by omega)
   obtain ⟨r0,r1⟩:=hrow j hl
   have c0:=(hbw.cell (p:=⟨b,off+j*2,none⟩) hb).trans r0
   have c1:=(hbw.cell (p:=⟨b,off+j*2+1,none⟩) hb).trans r1
   have hlk' := hlk
   rw [zf0 hl] at hlk'
   clear hrow HR r0 r1 hlk
   generalize es[j]=ed at *
   obtain ⟨ea,eb⟩:=ed
   simp only at c0 c1 hlk'
   have q1:(0:Int)≤(j:Int):=by omega
   have q2:(j:Int)<(es.length:Int):=by omega
   have HLK:Hid ((if edgeOk n f ea eb then linkAll n (addE f ea.toNat eb.toNat) (es.drop (j+1)) else none)=linkAll n noE es):=hlk'
   clear hlk'
   have HL:Hid (LinkAt wr (w.heap.size+1) f):=hL
   have HZ:Hid (LinkAt wr w.heap.size noE):=hZ
   clear hL hZ
   go_wp2
   go_quiet (fail)
   obtain ⟨W,hW⟩:∃ W:World,W=(wr.alloc (Obj.cells #[Value.int IntKind.i64 ea,Value.int IntKind.i64 eb] 55)).drewN nq:=⟨_,rfl⟩
   rw [← hW]
   have hbW0:Below wr.heap.size wr W:=by rw [hW];exact below_drewN ((Below.refl _ wr).alloc (Nat.le_refl _) _) _
   clear hW
   have HLW:Hid (LinkAt W (w.heap.size+1) f):=(hbW0.block _ (zaY HL.out)).trans HL.out
   have HZW:Hid (LinkAt W w.heap.size noE):=(hbW0.block _ (zaY HZ.out)).trans HZ.out
   have HBW:Hid (Below w.heap.size w W):=hbw.trans (hbW0.mono hbw.size)
   clear hbW0 HL HZ hbw c0 c1
   have HMM:Hid ((min ea eb=ea∧max ea eb=eb)∨(min ea eb=eb∧max ea eb=ea)):=minmax
   have HLE:Hid (min ea eb≤max ea eb):=by rw [Hid];omega
   generalize min ea eb=lo at *
   generalize max ea eb=hi at *
   go_upto_region 6 with fail
   go_cut [45] from 27 to 55 (fun s45 wc=>s45 = .bool (!edgeOk n f ea eb)∧wc=W)
   case first =>
    by_cases hA:lo<0
    ·have hE:edgeOk n f ea eb=false:=by
      unfold edgeOk
      rw [decide_eq_false (by rcases HMM.out with ⟨h1,h2⟩ | ⟨h1,h2⟩ <;> omega)]
      rfl
     go_wp2
     go_meet
     case rel=>exact ⟨by rw [hE];rfl,rfl⟩
    ·by_cases hB:(n:Int)≤hi
     ·have hE:edgeOk n f ea eb=false:=by
       unfold edgeOk
       rw [decide_eq_false (by rcases HMM.out with ⟨h1,h2⟩ | ⟨h1,h2⟩ <;> omega)]
       rfl
      go_wp2
      go_meet
      case rel=>exact ⟨by rw [hE];rfl,rfl⟩
     ·by_cases hC:lo=hi
      ·have hE:edgeOk n f ea eb=false:=by
        unfold edgeOk
        rw [decide_eq_false (by rcases HMM.out with ⟨h1,h2⟩ | ⟨h1,h2⟩ <;> omega)]
        rfl
       subst hC
       go_wp2
       go_meet
       case rel=>exact ⟨by rw [hE];rfl,rfl⟩
      ·obtain ⟨la,rfl⟩:∃ la:Nat,lo=la:=⟨lo.toNat,by omega⟩
       have hle:=HLE.out
       obtain ⟨ha,rfl⟩:∃ ha:Nat,hi=ha:=⟨hi.toNat,by omega⟩
       have hE:edgeOk n f ea eb = !f la ha:=by
        unfold edgeOk
        rw [decide_eq_true (by rcases HMM.out with ⟨h1,h2⟩ | ⟨h1,h2⟩ <;> omega),Bool.true_and]
        rcases HMM.out with ⟨h1,h2⟩ | ⟨h1,h2⟩
        ·rw [← h1,← h2,Int.toNat_natCast,Int.toNat_natCast]
        ·rw [← h1,← h2,Int.toNat_natCast,Int.toNat_natCast,hsym]
       have cc:=HLW.out.cell (la*6+ha) (by omega)
       rw [show (la*6+ha) / 6=la by omega,show (la*6+ha) % 6=ha by omega] at cc
       have q3:(0:Int)≤(la:Int):=by omega
       have q4:(la:Int)<6:=by omega
       have q5:(0:Int)≤(ha:Int):=by omega
       have q6:(ha:Int)<6:=by omega
       have q7:¬ (la:Int)<0:=by omega
       have q8:¬ (la:Int)=(ha:Int):=hC
       go_wp2
       go_meet
       case rel=>exact ⟨by rw [hE];simp [q8],rfl⟩
   case rest =>
    obtain ⟨rfl,rfl⟩:=hcut
    cases hE:edgeOk n f ea eb
    ·have hfin:=HLK.out
     rw [hE,if_neg (by simp)] at hfin
     have HF:Hid (linkAll n noE es=none):=hfin.symm
     have hz:=HZW.out
     clear hfin HLK HMM HLE
     go_wp2_with (refine wpList_store_row rfl 104 _ _ rfl w.heap.size (linkB noE).toArray rfl rfl _ _ hz (zf5 noE) rfl (zf3 noE) ?_)
     obtain ⟨hZ',hB'⟩:=HZW.out.over HBW.out noE
     refine bodyPost_ret (v := .tuple #[.agg (linkB noE).toArray,.bool false]) ?_ rfl ⟨?_,hB'⟩
     ·exact zkJ Tryz.results54 _ rfl rfl hZ'
     ·rw [HF.out];rfl
    ·have hfin:=HLK.out
     rw [hE,if_pos rfl] at hfin
     obtain ⟨la,ha,rfl,rfl,hla,hha,hlh,hadd⟩:=zcD hE HMM.out HLE.out
     have hst:Hid (LinkAt ((wc.setCell ⟨w.heap.size+1,la*6+ha,none⟩ (.bool true)).setCell ⟨w.heap.size+1,ha*6+la,none⟩ (.bool true)) (w.heap.size+1) (addE f ea.toNat eb.toNat)∧LinkAt ((wc.setCell ⟨w.heap.size+1,la*6+ha,none⟩ (.bool true)).setCell ⟨w.heap.size+1,ha*6+la,none⟩ (.bool true)) w.heap.size noE∧Below w.heap.size w ((wc.setCell ⟨w.heap.size+1,la*6+ha,none⟩ (.bool true)).setCell ⟨w.heap.size+1,ha*6+la,none⟩ (.bool true))):=by
      rw [hadd]
      exact HLW.out.add HZW.out HBW.out (by omega) (by omega)
     have cA:=HLW.out.cell (la*6+ha) (by omega)
     have cB:=HLW.out.cell (ha*6+la) (by omega)
     have fA:=zaZ HLW.out (la*6+ha)
     have fB:=zaZ HLW.out (ha*6+la)
     have HSY:Hid (SymE (addE f ea.toNat eb.toNat)):=zmb hsym _ _
     have HFI:Hid (linkAll n (addE f ea.toNat eb.toNat) (es.drop (j+1))=linkAll n noE es):=hfin
     clear HLW HZW HBW HMM HLE HLK hfin hsym hE hadd
     have q3:(0:Int)≤(la:Int):=by omega
     have q4:(la:Int)<6:=by omega
     have q5:(0:Int)≤(ha:Int):=by omega
     have q6:(ha:Int)<6:=by omega
     have hne:la*6+ha ≠ ha*6+la:=by omega
     have hne' : ha*6+la ≠ la*6+ha:=by omega
     go_wp2
     go_region_held3 (fun w' => True) (trivial) (fail)
     all_goals go_wp2
     exact ⟨⟨j+1,by omega,by go_num,_,hst.out.1,hst.out.2.1,HSY.out,HFI.out,hst.out.2.2.drew⟩,by simp [intOf];omega⟩
  ·rw [zfY (by omega)] at hlk
   have HLK:Hid (linkAll n noE es=some f):=hlk.symm
   have q2:¬ (j:Int)<(es.length:Int):=by omega
   have HZ:Hid (LinkAt wr w.heap.size noE):=hZ
   have HB:Hid (Below w.heap.size w wr):=hbw
   clear hlk hsym HR hbw
   go_wp2_with (first | (refine wpList_load_row rfl 104 _ rfl (w.heap.size+1) rfl _ _ _ _ hL Tryz.underlying104 rfl (zf5 f) ?_) | (refine wpList_store_row rfl 104 _ _ rfl w.heap.size (linkB f).toArray rfl rfl _ _ hZ (zf5 f) rfl (zf3 f) ?_))
   obtain ⟨hZ',hB'⟩:=HZ.out.over HB.out f
   refine bodyPost_ret (v := .tuple #[.agg (linkB f).toArray,.bool true]) ?_ rfl ⟨?_,hB'⟩
   ·exact zkJ Tryz.results54 _ rfl rfl hZ'
   ·rw [HLK.out];rfl
end Go.Proofs.YtahdlejgjcjeoabGreatDoor
