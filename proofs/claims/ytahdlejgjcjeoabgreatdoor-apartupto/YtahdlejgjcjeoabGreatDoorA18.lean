/- A region that draws its order and ends in one store: a condition on the world that holds behind every operation but that last one. -/
import Derived.Test.YtahdlejgjcjeoabGreatDoorA17
import Derived.Test.YtahdlejgjcjeoabGreatDoorA05
import Derived.Test.YtahdlejgjcjeoabGreatDoorA07
import Derived.Test.YtahdlejgjcjeoabGreatDoorProg
import Derived.OrdersHeld
import Derived.Deep.RegionHeld3
namespace Go.Proofs.YtahdlejgjcjeoabGreatDoor
set_option maxHeartbeats 8000000
open Go.RowKit
theorem zhn {o i:Nat}(hi:i<6){k:Nat}(hk:k=1∨k=2∨k=3∨k=4∨k=5):ofRep o i (o,k*10+i):=⟨rfl,by show 10≤k*10+i;omega,by show (k*10+i) % 10=i;omega⟩
def Tk.off (t:Tk):Tk:={ t with kept:=false }
def dropTo (ts:List Tk)(n k:Nat):List Tk:=ts.mapIdx fun j t=>if j<k∧t.num≤n then t.off else t
theorem zcv (ts:List Tk)(n:Nat):dropTo ts n 0=ts:=by
 unfold dropTo
 apply List.ext_getElem?
 intro j
 simp
theorem zcs (ts:List Tk)(n k:Nat):(dropTo ts n k).length=ts.length:=by simp [dropTo]
theorem zcr (ts:List Tk)(n k j:Nat)(h:j<ts.length):(dropTo ts n k)[j]'(by rw [zcs];exact h)=if j<k∧ts[j].num≤n then ts[j].off else ts[j]:=by simp [dropTo]
theorem zcu (ts:List Tk)(n k:Nat)(h:k<ts.length)(hn:ts[k].num≤n):dropTo ts n (k+1)=(dropTo ts n k).set k ts[k].off:=by
 apply List.ext_getElem
 ·simp [zcs]
 ·intro j h1 h2
  rw [zcs] at h1
  rw [zcr _ _ _ _ h1,List.getElem_set]
  by_cases e:k=j
  ·subst e
   rw [if_pos rfl,if_pos ⟨by omega,hn⟩]
  ·rw [if_neg e,zcr _ _ _ _ h1]
   by_cases hj:j<k
   ·have:j<k+1:=by omega
    simp [hj,this]
   ·have:¬ j<k+1:=by omega
    simp [hj,this]
theorem zct (ts:List Tk)(n k:Nat)(h:k<ts.length)(hn:¬ ts[k].num≤n):dropTo ts n (k+1)=dropTo ts n k:=by
 apply List.ext_getElem
 ·simp [zcs]
 ·intro j h1 h2
  rw [zcs] at h1
  rw [zcr _ _ _ _ h1,zcr _ _ _ _ h1]
  by_cases e:j=k
  ·subst e
   simp [hn]
  ·have:(j<k+1) ↔ (j<k):=by omega
   simp [this]
theorem zcq (ts:List Tk)(n:Nat):((dropTo ts n ts.length).filter (·.kept)).map Tk.ent=((ts.filter (·.kept)).map Tk.ent).filter fun e=>decide (n<e.num):=by
 have h:dropTo ts n ts.length=ts.map fun t=>if t.num≤n then t.off else t:=by
  apply List.ext_getElem
  ·simp [zcs]
  ·intro j h1 h2
   rw [zcs] at h1
   rw [zcr _ _ _ _ h1]
   simp [h1]
 rw [h]
 clear h
 induction ts with
 | nil=>rfl
 | cons t ts ih =>
  rw [List.map_cons,List.filter_cons,List.filter_cons]
  by_cases hn:t.num≤n
  ·rw [if_pos hn,if_neg (by simp [Tk.off]),ih]
   cases hk:t.kept
   ·rw [if_neg (by simp)]
   ·rw [if_pos rfl,List.map_cons,List.filter_cons,if_neg (by show ¬ (decide (n<t.num)=true);simp;omega)]
  ·rw [if_neg hn]
   cases hk:t.kept
   ·rw [if_neg (by simp),if_neg (by simp),ih]
   ·rw [if_pos rfl,if_pos rfl,List.map_cons,List.map_cons,List.filter_cons,if_pos (by show decide (n<t.num)=true;simp;omega),ih]
theorem RefRep.rest {w w' : World}{col col' : Col}{S:Nat × Nat→Prop}{o i:Nat}{near:List Bool}{D D' : RefD}{p p' : Rep}(h:RefRep w col o i near D p)(hf:FrC S col col' w w')(hS:¬ S (o,10+i))(hb:D.block p=D'.block p')(hρ:D'.ρ=D.ρ)(hr:RefRest w' col' o i near D' p'):RefRep w' col' o i near D' p' :=
 { hr with
  blk:=by rw [hρ,← hb];exact hf.block h.blk (by rw [h.cρ];exact hS)
  cρ:=by rw [hρ];exact (hf.colB h.blk).trans h.cρ }
theorem LogIs.same {rs:List Rc}{p p' : Rep}(h:LogIs rs p)(h1:p'.log=p.log)(h2:p'.torn=p.torn)(h3:p'.down=p.down):LogIs rs p' := by
 obtain ⟨A,B,e,hA,hm,hB⟩:=h
 exact ⟨A,B,e,hA,by rw [h1];exact hm,by rw [h2,h3];exact hB⟩
theorem RefRep.offAt {wr:World}{col:Col}{o i g cap k:Nat}{near:List Bool}{D:RefD}{p:Rep}(h:RefRep wr col o i near D p)(hi:i<6)(hk:k<D.ts.length)(hv:D.vt = .slice (some ⟨g,0,none⟩) D.ts.length cap) :
  RefRep (wr.setCell ⟨g,k*4+3,none⟩ (.bool false)) col o i near { D with ts:=D.ts.set k D.ts[k].off } { p with buf:=((D.ts.set k D.ts[k].off).filter (·.kept)).map Tk.ent }∧FrC (ofRep o i) col col wr (wr.setCell ⟨g,k*4+3,none⟩ (.bool false)):=by
 have ht:=h.taken
 rw [hv] at ht
 obtain ⟨h1,hf⟩:=ht.store (k*4+3) (.bool false)
 have hf2:FrC (ofRep o i) col col wr (wr.setCell ⟨g,k*4+3,none⟩ (.bool false)):=hf.mono fun x e=>by rw [e];exact zhn hi (k:=2) (by omega)
 refine ⟨h.rest (D' := { D with ts:=D.ts.set k D.ts[k].off }) hf (by simp) rfl rfl ?_,hf2⟩
 have ne:∀ j,j ≠ 20+i→¬ ((o,j)=(o,20+i)):=fun j hj e=>hj (congrArg Prod.snd e)
 refine ⟨h.atoms.kept hf (ne _ (by omega)),?_,fun t ht => ?_,?_,rfl,h.near.kept hf (ne _ (by omega)),h.acked.kept hf (ne _ (by omega)),h.log.kept hf (ne _ (by omega)),fun r hr=>(h.rcd r hr).kept hf (ne _ (by omega)),h.logs.same rfl rfl rfl⟩
 ·show RowC _ col (o,20+i) _ 4 D.vt (D.ts.set k D.ts[k].off).length _
  rw [List.length_set,hv,← zdv Tk.cells 4 zmI D.ts k 3 (.bool false) D.ts[k].off hk (by decide) rfl]
  exact h1
 ·rcases List.mem_or_eq_of_mem_set ht with ht | rfl
  ·exact (h.tkd t ht).kept hf (ne _ (by omega))
  ·exact (h.tkd D.ts[k] (List.getElem_mem hk)).kept hf (ne _ (by omega))
 ·show (D.ts.set k D.ts[k].off).length≤p.num
  rw [List.length_set]
  exact h.tsl
set_option maxRecDepth 100000 in
theorem zj5 {w:World}{col:Col}{o i:Nat}{near:List Bool}{D:RefD}{p:Rep}(h:RefRep w col o i near D p)(hi:i<6)(n:Nat)(hpn:p.num≤4294967296)(_hnn:n≤4294967296)(_hpb:p.base≤4294967296) :
  Calls Tryz.prog 115 #[.pointer (some ⟨D.ρ,0,none⟩),.int .i64 n] w fun e w' => e = .returned (.tuple #[])∧∃ D' col',D'.ρ=D.ρ∧Hid (RefRep w' col' o i near D' (p.drop n))∧Hid (FrC (ofRep o i) col col' w w'):=by
 have hts:D.ts.length≤4294967296:=Nat.le_trans h.tsl hpn
 have HI:Hid (RefRep w col o i near D p):=h
 obtain ⟨ad,cap,hv,hc⟩:=h.taken.form
 clear h
 go_enter Tryz.func115,Tryz.ntmps115
 go_wp2
 go_loopw [4] (fun j wr=>∃ k:Nat,k≤D.ts.length∧j = .int .i64 k∧Hid (RefRep wr col o i near { D with ts:=dropTo D.ts n k } { p with buf:=((dropTo D.ts n k).filter (·.kept)).map Tk.ent })∧Hid (FrC (ofRep o i) col col w wr)) (fun j _=>D.ts.length - (intOf j).toNat)
 case atStart=>exact ⟨0,Nat.zero_le _,rfl,by rw [zcv,HI.out.buf];exact HI,FrC.refl _ _ _⟩
 case round =>
  obtain ⟨k,hk,rfl,hrep,hfr⟩:=hrel
  have c4:wr.cell? ⟨D.ρ,4,none⟩=some (.slice ad D.ts.length cap):=by rw [← hv];exact hrep.out.cells.2.2.2.2.1
  have c3:wr.cell? ⟨D.ρ,3,none⟩=some (.int .i64 p.base):=hrep.out.cells.2.2.2.1
  have f3:wr.frozen? ⟨D.ρ,3,none⟩=false:=zaZ hrep.out.blk 3
  by_cases hl:k<D.ts.length
  ·have hl' : k<(dropTo D.ts n k).length:=by rw [zcs];exact hl
   obtain ⟨ad',cap',hv',hc',H⟩:=hrep.out.taken.elem zmI
   obtain ⟨g,rfl,hg,hcg,hfz,hrow⟩:=H (by show 0<(dropTo D.ts n k).length;omega)
   have hadv:Value.slice ad D.ts.length cap = .slice (some ⟨g,0,none⟩) D.ts.length cap' := by
    rw [← hv]
    have:=hv'
    simp only [zcs] at this
    exact this
   cases hadv
   have hgk:(dropTo D.ts n k)[k]=D.ts[k]:=by rw [zcr _ _ _ _ hl,if_neg (by omega)]
   have e0:wr.cell? ⟨g,k*4,none⟩=some (.int .i64 D.ts[k].num):=by rw [← hgk];exact hrow k hl' 0 _ rfl
   have e3:wr.cell? ⟨g,k*4+3,none⟩=some (.bool D.ts[k].kept):=by rw [← hgk];exact hrow k hl' 3 _ rfl
   have fg:=hfz (k*4+3)
   have HOFF:=hrep.out.offAt hi hl' (g:=g) (cap:=cap) (by show D.vt=_;rw [hv,zcs])
   simp only [hgk] at HOFF
   have HO:=Hid.mk HOFF
   clear hrow H hfz hv' HOFF hc'
   by_cases hn:D.ts[k].num≤n
   ·have q1:(D.ts[k].num:Int)≤(n:Int):=by omega
    have HD:Hid (dropTo D.ts n (k+1)=(dropTo D.ts n k).set k D.ts[k].off):=zcu D.ts n k hl hn
    generalize D.ts[k]=t at *
    go_wp2
    exact ⟨⟨k+1,by omega,by go_num,by rw [HD.out];exact HO.out.1,hfr.out.trans HO.out.2⟩,by simp [intOf];omega⟩
   ·have q1:(n:Int)<(D.ts[k].num:Int):=by omega
    have HD:Hid (dropTo D.ts n (k+1)=dropTo D.ts n k):=zct D.ts n k hl hn
    generalize D.ts[k]=t at *
    go_wp2
    exact ⟨⟨k+1,by omega,by go_num,by rw [HD.out];exact hrep,hfr⟩,by simp [intOf];omega⟩
  ·have hkl:k=D.ts.length:=by omega
   subst hkl
   have HB:Hid (((dropTo D.ts n D.ts.length).filter (·.kept)).map Tk.ent=p.buf.filter fun e=>decide (n<e.num)):=by rw [Hid,zcq,HI.out.buf]
   by_cases hb:p.base<n
   ·have q1:(p.base:Int)<(n:Int):=by omega
    have HS:=hrep.out.set (k:=3) (u := .int .i64 n) (D' := { D with ts:=dropTo D.ts n D.ts.length }) (p' := p.drop n) hi (by unfold RefD.block Rep.drop;simp [Nat.max_eq_right (Nat.le_of_lt hb)]) rfl { hrep.out.toRefRest with buf:=HB.out,logs:=hrep.out.logs.same rfl rfl rfl }
    go_wp2
    go_end0
    first | exact ⟨rfl,{ D with ts:=dropTo D.ts n D.ts.length },rfl,col,HS.1,hfr.out.trans HS.2⟩ | exact ⟨rfl,{ D with ts:=dropTo D.ts n D.ts.length },col,rfl,HS.1,hfr.out.trans HS.2⟩
   ·have q1:(n:Int)≤(p.base:Int):=by omega
    have HE:Hid (({ p with buf:=((dropTo D.ts n D.ts.length).filter (·.kept)).map Tk.ent }:Rep)=p.drop n):=by unfold Hid Rep.drop;rw [HB.out,Nat.max_eq_left (by omega)]
    go_wp2
    go_end0
    first | exact ⟨rfl,{ D with ts:=dropTo D.ts n D.ts.length },rfl,col,(by rw [← HE.out];exact hrep),hfr⟩ | exact ⟨rfl,{ D with ts:=dropTo D.ts n D.ts.length },col,rfl,(by rw [← HE.out];exact hrep),hfr⟩
def RefD.blockB (D:RefD)(p:Rep)(dn:Bool):Array Value:=#[.bool dn,D.va,.int .i64 p.num,.int .i64 p.base,D.vt,D.vn,D.vk,D.vl,.int .i64 p.frames,.int .i64 p.weight]
structure RefRepB (w:World)(col:Col)(o i:Nat)(near:List Bool)(D:RefD)(p:Rep)(dn:Bool):Prop extends RefRest w col o i near D p where
 blk:w.heap[D.ρ]? = some (.cells (D.blockB p dn) 142 (0,0))
 cρ:col D.ρ=(o,10+i)
theorem RefRep.toB {w:World}{col:Col}{o i:Nat}{near:List Bool}{D:RefD}{p:Rep}(h:RefRep w col o i near D p):RefRepB w col o i near D p p.down:={ h.toRefRest with blk:=h.blk,cρ:=h.cρ }
theorem RefRepB.cells {w:World}{col:Col}{o i:Nat}{near:List Bool}{D:RefD}{p:Rep}{dn:Bool}(h:RefRepB w col o i near D p dn) :
  w.cell? ⟨D.ρ,0,none⟩=some (.bool dn)∧w.cell? ⟨D.ρ,1,none⟩=some D.va∧w.cell? ⟨D.ρ,2,none⟩=some (.int .i64 p.num)∧w.cell? ⟨D.ρ,3,none⟩=some (.int .i64 p.base)∧w.cell? ⟨D.ρ,4,none⟩=some D.vt ∧
  w.cell? ⟨D.ρ,5,none⟩=some D.vn∧w.cell? ⟨D.ρ,6,none⟩=some D.vk∧w.cell? ⟨D.ρ,7,none⟩=some D.vl∧w.cell? ⟨D.ρ,8,none⟩=some (.int .i64 p.frames)∧w.cell? ⟨D.ρ,9,none⟩=some (.int .i64 p.weight)∧∀ k,w.frozen? ⟨D.ρ,k,none⟩=false :=
 ⟨zaX h.blk 0,zaX h.blk 1,zaX h.blk 2,zaX h.blk 3,zaX h.blk 4,zaX h.blk 5,zaX h.blk 6,zaX h.blk 7,zaX h.blk 8,zaX h.blk 9,zaZ h.blk⟩
theorem zgh (n:Nat):(madeCells (Value.cells (.int .i64 0)) (n*1)).toList=ints (List.replicate n 0):=by
 apply List.ext_getElem?
 intro t
 by_cases ht:t<n
 ·simp [madeCells,Value.cells,ints,ht,Nat.mod_one]
 ·simp [madeCells,ints,ht]
def fall5 (w:World)(q:Nat):World:=((((w.setCell ⟨q,0,none⟩ (.bool true)).setCell ⟨q,1,none⟩ (.slice none 0 0)).setCell ⟨q,2,none⟩ (.int .i64 0)).setCell ⟨q,3,none⟩ (.int .i64 0)).setCell ⟨q,4,none⟩ (.slice none 0 0)
theorem zc3 {w w1:World}{col:Col}{o i n:Nat}{near:List Bool}{D:RefD}{p:Rep}{dn:Bool}(h:RefRepB w col o i near D p dn)(hi:i<6)(hn:p.acked.length=n)(hg:(fall5 w D.ρ).grownBy w1 none)(hown:w1.ownsRow w.heap.size 3 1 (.slice (some ⟨w.heap.size,0,none⟩) n n) n (ints (List.replicate n 0))) :
  (w1.cell? ⟨D.ρ,6,none⟩=some D.vk∧w1.frozen? ⟨D.ρ,6,none⟩=false)∧RefRep (w1.setCell ⟨D.ρ,6,none⟩ (.slice (some ⟨w.heap.size,0,none⟩) n n)) (paint col w.heap.size (o,40+i)) o i near { D with va := .slice none 0 0,vt := .slice none 0 0,vk := .slice (some ⟨w.heap.size,0,none⟩) n n,ts := [] } p.fall∧FrC (ofRep o i) col (paint col w.heap.size (o,40+i)) w (w1.setCell ⟨D.ρ,6,none⟩ (.slice (some ⟨w.heap.size,0,none⟩) n n)):=by
 have hlt:=zaY h.blk
 have hsz:(fall5 w D.ρ).heap.size=w.heap.size:=by simp [fall5,World.setCell]
 have hS:col D.ρ=(o,10+i):=h.cρ
 have f5:FrC (fun x=>x=(o,10+i)) col col w (fall5 w D.ρ):=by
  unfold fall5
  have st:∀ (W:World) (k:Nat) (u:Value),FrC (fun x=>x=(o,10+i)) col col W (W.setCell ⟨D.ρ,k,none⟩ u):=fun W k u=>zdK (S:=fun x=>x=(o,10+i)) k u hS
  exact ((((st _ _ _).trans (st _ _ _)).trans (st _ _ _)).trans (st _ _ _)).trans (st _ _ _)
 have hb5:(fall5 w D.ρ).heap[D.ρ]? = some (.cells #[.bool true,.slice none 0 0,.int .i64 0,.int .i64 0,.slice none 0 0,D.vn,D.vk,D.vl,.int .i64 p.frames,.int .i64 p.weight] 142 (0,0)):=zeJ (o:=4) (zeJ (o:=3) (zeJ (o:=2) (zeJ (o:=1) (zeJ (o:=0) h.blk (.bool true)) (.slice none 0 0)) (.int .i64 0)) (.int .i64 0)) (.slice none 0 0)
 have hb1:Below (fall5 w D.ρ).heap.size (fall5 w D.ρ) w1:=(Below.refl _ _).grown hg (Nat.le_refl _) (fun k hk=>by cases hk)
 have hw1:=(hb1.block D.ρ (by omega)).trans hb5
 have f1:FrC (fun x=>x=(o,10+i)) col (paint col w.heap.size (o,40+i)) w w1:=by
  have:=f5.below hb1 (o,40+i)
  rwa [hsz] at this
 have hρ1:paint col w.heap.size (o,40+i) D.ρ=(o,10+i):=by rw [zin col _ hlt];exact hS
 have f2:FrC (fun x=>x=(o,10+i)) col (paint col w.heap.size (o,40+i)) w (w1.setCell ⟨D.ρ,6,none⟩ (.slice (some ⟨w.heap.size,0,none⟩) n n)):=f1.trans (zdK (S:=fun x=>x=(o,10+i)) 6 _ hρ1)
 have f2' : FrC (fun x=>x=(o,10+i)) (paint col w.heap.size (o,40+i)) (paint col w.heap.size (o,40+i)) w1 (w1.setCell ⟨D.ρ,6,none⟩ (.slice (some ⟨w.heap.size,0,none⟩) n n)):=zdK (S:=fun x=>x=(o,10+i)) 6 _ hρ1
 have ne:∀ j,j ≠ 10+i→¬ ((o,j)=(o,10+i)):=fun j hj e=>hj (congrArg Prod.snd e)
 refine ⟨⟨zaX hw1 6,zaZ hw1 6⟩,?_,f2.mono fun x e=>by rw [e];exact zhn hi (k:=1) (by omega)⟩
 refine { atoms:=zeQ _ _ _,taken:=zkR _ _ _ _ _,tkd:=fun t ht=>(by cases ht),tsl:=Nat.zero_le _,buf:=rfl,near:=h.near.kept f2 (ne _ (by omega)),acked := ?_,log:=h.log.kept f2 (ne _ (by omega)),rcd:=fun r hr=>(h.rcd r hr).kept f2 (ne _ (by omega)),logs := ?_,blk := ?_,cρ:=hρ1 }
 ·have hr:RowC w1 (paint col w.heap.size (o,40+i)) (o,40+i) 3 1 (.slice (some ⟨w.heap.size,0,none⟩) n n) n (ints (List.replicate n 0)):=zkQ hown
  have:=hr.kept f2' (ne _ (by omega))
  show RowC _ _ _ _ 1 _ (List.replicate p.acked.length 0).length (ints (List.replicate p.acked.length 0))
  rw [hn,List.length_replicate]
  exact this
 ·obtain ⟨A,B,e,hA,hm,hB⟩:=h.logs
  refine ⟨A,B,e,hA,hm,?_⟩
  rcases hB with hB | ⟨r,h1,h2,h3,_⟩
  ·exact .inl hB
  ·exact .inr ⟨r,h1,h2,h3,rfl⟩
 ·exact zeJ (o:=6) hw1 (.slice (some ⟨w.heap.size,0,none⟩) n n)
set_option maxRecDepth 100000 in
theorem zj4 {w:World}{col:Col}{o i:Nat}{near:List Bool}{D:RefD}{p:Rep}{dn:Bool}(h:RefRepB w col o i near D p dn)(hi:i<6)(hak:p.acked.length≤6) :
  Calls Tryz.prog 67 #[.pointer (some ⟨D.ρ,0,none⟩)] w fun e w' => e = .returned (.tuple #[])∧∃ D' col',D'.ρ=D.ρ∧Hid (RefRep w' col' o i near D' p.fall)∧Hid (FrC (ofRep o i) col col' w w'):=by
 obtain ⟨d0,d1,d2,d3,d4,d5,d6,d7,d8,d9,hfz⟩:=h.cells
 obtain ⟨adk,capk,hvk,_⟩:=h.acked.form
 rw [hvk] at d6
 have hρ:=zaY h.blk
 have f0:=hfz 0
 have f1:=hfz 1
 have f2:=hfz 2
 have f3:=hfz 3
 have f4:=hfz 4
 have f6:=hfz 6
 obtain ⟨n,hn⟩:∃ n,p.acked.length=n:=⟨_,rfl⟩
 have HD:Hid (∀ w1,((((((w.setCell ⟨D.ρ,0,none⟩ (.bool true)).setCell ⟨D.ρ,1,none⟩ (.slice none 0 0)).setCell ⟨D.ρ,2,none⟩ (.int .i64 0)).setCell ⟨D.ρ,3,none⟩ (.int .i64 0)).setCell ⟨D.ρ,4,none⟩ (.slice none 0 0)).grownBy w1 none)→w1.ownsRow w.heap.size 3 1 (.slice (some ⟨w.heap.size,0,none⟩) n n) n (ints (List.replicate n 0))→_):=fun w1 hg ho=>zc3 h hi hn hg ho
 rw [hn] at d6 hak hvk
 rw [hvk] at HD
 clear hfz hn hvk
 obtain ⟨i0,hi0,hz0,hz1,hz2⟩:=info_parts zfb
 clear h
 generalize D.ρ=ρ at *
 go_enter Tryz.func67,Tryz.ntmps67
 go_wp2_with (at_make;refine wpList_make_full _ rfl _ _ 78 rfl w.heap.size 3 i0 _ 1 Tryz.underlying78 hi0 hz0 hz1 .i64 .i64 _ _ n rfl rfl (by go_num) (by go_num) (by rw [hz2];omega) (by unfold maxLen;omega) (by simp) ?_;intro w1 hown1 hg1;rw [zgh] at hown1;have hfin:=HD.out w1 hg1 (by simpa using hown1);obtain ⟨⟨e6,f6'⟩,hrep,hfr⟩:=hfin)
 go_end0
 first | exact ⟨rfl,_,rfl,_,hrep,hfr⟩ | exact ⟨rfl,_,_,rfl,hrep,hfr⟩
theorem zff:(Tryz.prog.info? 152).map (fun i=>(i.zero,i.size,i.bytes))=some (some (.agg #[.int .i64 0,.int .i64 0,.slice none 0 0,.bool false,.string ⟨#[]⟩]),5,64):=by kernel_rfl
theorem zdn {a b:Int}{v:Value}(h:v.oneCell' = true)(q:Bool)(s:ByteArray):∀ u ∈ [Value.int .i64 a,.int .i64 b,v,.bool q,.string s],u.oneCell' = true:=by
 intro u hu
 simp only [List.mem_cons,List.not_mem_nil,or_false] at hu
 rcases hu with rfl | rfl | rfl | rfl | rfl
 ·rfl
 ·rfl
 ·exact h
 ·rfl
 ·rfl
structure PreAt (w:World)(col:Col)(o x n rm:Nat)(bp rr:Bool)(vR:Value)(Ds:List RefD)(f:Nat→Nat→Bool):Prop where
 blk:w.heap[x]? = some (.cells #[.int .i64 n,.slice none 0 0,.bool bp,.bool rr,.int .i64 rm,vR,.slice none 0 0] 93 (0,0))
 cx:col x=(o,0)
 rows:RowC w col (o,2) 138 1 vR Ds.length (Ds.map fun D => .pointer (some ⟨D.ρ,0,none⟩))
 reps:∀ i (h:i<Ds.length),RefRep w col o i ((List.range n).map (f i)) Ds[i] (rep0 n)
def newD (ρ nb ab n:Nat):RefD:=⟨ρ,.slice none 0 0,.slice none 0 0,.slice (some ⟨nb,0,none⟩) n n,.slice (some ⟨ab,0,none⟩) n n,.slice none 0 0,[],[]⟩
def newCol (col:Col)(s o i nb ab ρ:Nat):Col:=fun q=>if q<s then col q else if q=nb then (o,30+i) else if q=ab then (o,40+i) else if q=ρ then (o,10+i) else (o,2)
theorem zik {w:World}{g n:Nat}{e:TypeId}{l:List Value}(h:w.heap[g]? = some (.cells l.toArray e (0,0)))(hl:l.length=n)(hn:n≤maxLen):w.ownsRow 0 e 1 (.slice (some ⟨g,0,none⟩) n n) n l :=
 ⟨by omega,.inr ⟨g,n,l.toArray,rfl,Nat.zero_le _,h,Nat.le_refl _,hn,by simp [hl],by simp [← hl]⟩⟩
theorem PreAt.push {w wA w3:World}{col:Col}{o x n rm nb ab ρ g cap:Nat}{bp rr:Bool}{vR:Value}{Ds:List RefD}(h:PreAt w col o x n rm bp rr vR Ds noE)(h6:n≤6)(_hi6:Ds.length<6)(hA:Below w.heap.size w wA)
  (hnb:wA.heap[nb]? = some (.cells (List.replicate n (Value.bool false)).toArray 4 (0,0))) (hab:wA.heap[ab]? = some (.cells (ints (List.replicate n 0)).toArray 3 (0,0)))
  (hρ:wA.heap[ρ]? = some (.cells #[.bool false,.slice none 0 0,.int .i64 0,.int .i64 0,.slice none 0 0,.slice (some ⟨nb,0,none⟩) n n,.slice (some ⟨ab,0,none⟩) n n,.slice none 0 0,.int .i64 0,.int .i64 0] 142 (0,0)))
  (nn:w.heap.size≤nb) (na:w.heap.size≤ab) (nρ:w.heap.size≤ρ) (hown:w3.ownsRow 0 138 1 (.slice (some ⟨g,0,none⟩) (Ds.length+1) cap) (Ds.length+1) ((Ds.map fun D=>Value.pointer (some ⟨D.ρ,0,none⟩)) ++ [.pointer (some ⟨ρ,0,none⟩)]))
  (hg:wA.grownBy w3 vR.ownBlock) (hat:vR.ownBlock=some g∨g=wA.heap.size) :
  PreAt (w3.setCell ⟨x,5,none⟩ (.slice (some ⟨g,0,none⟩) (Ds.length+1) cap)) (newCol col w.heap.size o Ds.length nb ab ρ) o x n rm bp rr (.slice (some ⟨g,0,none⟩) (Ds.length+1) cap) (Ds ++ [newD ρ nb ab n]) noE ∧
   FrC (fun κ=>κ=(o,0)∨κ=(o,2)) col (newCol col w.heap.size o Ds.length nb ab ρ) w (w3.setCell ⟨x,5,none⟩ (.slice (some ⟨g,0,none⟩) (Ds.length+1) cap)):=by
 have hxl:=zaY h.blk
 have hsA:=hA.size
 have gs:=zet w3 ⟨x,5,none⟩ (.slice (some ⟨g,0,none⟩) (Ds.length+1) cap)
 have hvl:∀ q,vR.ownBlock=some q→q<w.heap.size:=zh3 h.rows.own
 have hxv:vR.ownBlock ≠ some x:=fun e=>by
  have:=h.rows.col x e
  rw [h.cx] at this
  simp at this
 have hxg:x ≠ g:=by
  rcases hat with e | e
  ·exact fun e' => hxv (by rw [e,e'])
  ·omega
 have hf:FrC (fun κ=>κ=(o,0)∨κ=(o,2)) col (newCol col w.heap.size o Ds.length nb ab ρ) w (w3.setCell ⟨x,5,none⟩ (.slice (some ⟨g,0,none⟩) (Ds.length+1) cap)):=by
  refine ⟨((((Fr.refl _ w).below hA).step hg fun q hq => .inr (.inr (h.rows.col q hq))).step gs fun q hq => ?_),fun q hq=>if_pos hq⟩
  cases hq
  exact .inr (.inl h.cx)
 have keep:∀ q b,w.heap.size≤q→wA.heap[q]? = some b→(w3.setCell ⟨x,5,none⟩ (.slice (some ⟨g,0,none⟩) (Ds.length+1) cap)).heap[q]? = some b:=fun q b hq hb=>by
  have h1:w3.heap[q]? = wA.heap[q]? := hg.block q (zaY hb) (fun e=>by have:=hvl q e.symm;omega)
  rw [Below.heap_setCell _ _ _ _ (show q ≠ x by omega),h1,hb]
 have ne1:nb ≠ ab:=fun e=>by rw [e,hab] at hnb;simp at hnb
 have ne2:nb ≠ ρ:=fun e=>by rw [e,hρ] at hnb;simp at hnb
 have ne3:ab ≠ ρ:=fun e=>by rw [e,hρ] at hab;simp at hab
 have cn:newCol col w.heap.size o Ds.length nb ab ρ nb=(o,30+Ds.length):=by unfold newCol;rw [if_neg (by omega),if_pos rfl]
 have ca:newCol col w.heap.size o Ds.length nb ab ρ ab=(o,40+Ds.length):=by unfold newCol;rw [if_neg (by omega),if_neg (Ne.symm ne1),if_pos rfl]
 have cρ:newCol col w.heap.size o Ds.length nb ab ρ ρ=(o,10+Ds.length):=by unfold newCol;rw [if_neg (by omega),if_neg (Ne.symm ne2),if_neg (Ne.symm ne3),if_pos rfl]
 have hgA:g=wA.heap.size→newCol col w.heap.size o Ds.length nb ab ρ g=(o,2):=fun e=>by
  have l1:=zaY hnb
  have l2:=zaY hab
  have l3:=zaY hρ
  unfold newCol
  rw [if_neg (by omega),if_neg (by omega),if_neg (by omega),if_neg (by omega)]
 refine ⟨⟨?_,?_,⟨?_,?_⟩,fun i hi => ?_⟩,hf⟩
 ·have hx3:w3.heap[x]? = w.heap[x]? := (hg.block x (by omega) (Ne.symm hxv)).trans (hA.block x hxl)
  have:=zeK (o:=5) (hx3.trans h.blk) (.slice (some ⟨g,0,none⟩) (Ds.length+1) cap)
  exact this
 ·exact (hf.col x hxl).trans h.cx
 ·rw [List.length_append,List.map_append]
  exact zia hown gs (fun q hq=>by cases hq;intro e;exact hxg (Option.some.inj e).symm)
 ·intro q hq
  obtain rfl:=zh2 hq
  rcases hat with e | e
  ·rw [hf.col g (hvl g e)]
   exact h.rows.col g e
  ·exact hgA e
 ·by_cases hil:i<Ds.length
  ·rw [List.getElem_append_left hil]
   exact (h.reps i hil).kept hf (by simp) (fun k hk=>by simp;omega)
  ·have hie:i=Ds.length:=by simp at hi;omega
   subst hie
   rw [List.getElem_append_right (Nat.le_refl _)]
   simp only [Nat.sub_self,List.getElem_cons_zero]
   have hrn:(List.range n).map (noE Ds.length)=List.replicate n false:=by
    apply List.ext_getElem (by simp)
    intro k h1 h2
    simp [noE]
   rw [hrn]
   exact {
    atoms:=zeQ _ _ _
    taken:=zkR _ _ _ _ _
    tkd:=fun t ht=>by cases ht
    tsl:=Nat.zero_le _
    buf:=rfl
    near:=⟨by
     have:=zik (n:=n) (keep nb _ nn hnb) (by simp) (Nat.le_trans h6 (by decide))
     show World.ownsRow _ _ _ _ (.slice (some ⟨nb,0,none⟩) n n) _ _
     simpa using this,fun q hq=>by obtain rfl:=zh2 hq;exact cn⟩
    acked:=⟨by
     have:=zik (n:=n) (keep ab _ na hab) (by simp [ints]) (Nat.le_trans h6 (by decide))
     show World.ownsRow _ _ _ _ (.slice (some ⟨ab,0,none⟩) n n) _ _
     simpa [rep0] using this,fun q hq=>by obtain rfl:=zh2 hq;exact ca⟩
    log:=zkR _ _ _ _ _
    rcd:=fun r hr=>by cases hr
    logs:=⟨[],[],rfl,fun r hr=>(by cases hr),rfl,.inl ⟨rfl,rfl⟩⟩
    blk:=keep ρ _ nρ hρ
    cρ:=cρ }
theorem PreAt.done {w:World}{col:Col}{o x n rm:Nat}{bp rr:Bool}{vR:Value}{Ds:List RefD}{f:Nat→Nat→Bool}(h:PreAt w col o x n rm bp rr vR Ds f)(hl:Ds.length=n):RefAt w col o x ⟨vR,.slice none 0 0,Ds,[]⟩ (clu0 rm bp rr n f) where
 blk:=by simpa [clu0] using h.blk
 cx:=h.cx
 rows:=h.rows
 net:=zkR _ _ _ _ _
 netd f hf:=by cases hf
 nets:=rfl
 len:=by simpa [clu0] using hl
 reps i hi hi' := by
  have:=h.reps i hi
  simpa [clu0,nearRow] using this
def set1 (f:Nat→Nat→Bool)(a b:Nat):Nat→Nat→Bool:=fun i j=>f i j || (decide (i=a) && decide (j=b))
theorem PreAt.near {w:World}{col:Col}{o x n rm a b:Nat}{bp rr:Bool}{vR:Value}{Ds:List RefD}{f:Nat→Nat→Bool}(h:PreAt w col o x n rm bp rr vR Ds f)(hi6:Ds.length≤6)(ha:a<Ds.length)(hb:b<n) :
  ∃ ga cap,(Ds[a]).vn = .slice (some ⟨ga,0,none⟩) n cap∧w.cell? ⟨(Ds[a]).ρ,5,none⟩=some (.slice (some ⟨ga,0,none⟩) n cap)∧w.cell? ⟨ga,b,none⟩=some (.bool (f a b))∧w.frozen? ⟨ga,b,none⟩=false ∧
   PreAt (w.setCell ⟨ga,b,none⟩ (.bool true)) col o x n rm bp rr vR Ds (set1 f a b)∧FrC (ofRep o a) col col w (w.setCell ⟨ga,b,none⟩ (.bool true))∧ga ≠ x∧ga ≠ (Ds[a]).ρ∧(∀ q,col q=(o,2)→ga ≠ q)∧col ga=(o,30+a):=by
 have hr:=h.reps a ha
 have hn:=hr.near
 have hlen:((List.range n).map (f a)).length=n:=by simp
 rw [hlen] at hn
 obtain ⟨ga,cap,hv,h1,h2,hgl,hgc,hcell,hfz⟩:=hn.at (by omega)
 rw [hv] at hn
 obtain ⟨hs,hf⟩:=hn.store b (.bool true)
 have hfr:FrC (ofRep o a) col col w (w.setCell ⟨ga,b,none⟩ (.bool true)):=hf.mono fun κ hκ=>by rw [hκ];exact ⟨rfl,by show 10≤30+a;omega,by show (30+a) % 10=a;omega⟩
 have hdiff:∀ q k,k<30→col q=(o,k)→ga ≠ q:=fun q k hk hq e=>by
  rw [← e,hgc] at hq
  have:=congrArg Prod.snd hq
  simp at this
  omega
 refine ⟨ga,cap,hv,?_,hcell b _ (by simp [hb]),hfz b,?_,hfr,hdiff x 0 (by omega) h.cx,hdiff _ (10+a) (by omega) hr.cρ,fun q hq=>hdiff q 2 (by omega) hq,hgc⟩
 ·have:=zaX hr.blk 5
  rw [this,← hv]
  rfl
 ·refine ⟨hf.block h.blk (by rw [h.cx];simp;omega),h.cx,h.rows.kept hf (by simp;omega),fun i hi => ?_⟩
  by_cases e:i=a
  ·subst e
   have hset:(((List.range n).map (f i)).map Value.bool).set b (.bool true)=((List.range n).map (set1 f i b i)).map Value.bool:=by
    apply List.ext_getElem (by simp)
    intro k k1 k2
    simp only [List.getElem_set,List.getElem_map,List.getElem_range]
    unfold set1
    by_cases ek:b=k
    ·subst ek;simp
    ·have:k ≠ b:=fun e=>ek e.symm
     simp [ek,this]
   have hk:=h.reps i hi
   refine { atoms:=hk.atoms.kept hf (by simp;omega),taken:=hk.taken.kept hf (by simp),tkd:=fun t ht=>(hk.tkd t ht).kept hf (by simp;omega),tsl:=hk.tsl,buf:=hk.buf,near := ?_,acked:=hk.acked.kept hf (by simp),log:=hk.log.kept hf (by simp),rcd:=fun r hr=>(hk.rcd r hr).kept hf (by simp;omega),logs:=hk.logs,blk:=hf.block hk.blk (by rw [hk.cρ];simp),cρ:=hk.cρ }
   rw [← hset,hv]
   simpa using hs
  ·have hne:(List.range n).map (set1 f a b i)=(List.range n).map (f i):=by
    apply List.map_congr_left
    intro k _
    unfold set1
    simp [e]
   rw [hne]
   exact (h.reps i hi).kept hf (by simp;omega) (fun k hk=>by simp;omega)
open Go
theorem zg4 {b:Bool}{p:Prop}(hb:b=true)(h:b=false):p:=by rw [hb] at h;cases h
section
variable {P:Program} {ops:Array Oper} {Q:Exit→Act→World→Prop} {md:Region.Mode} {S:World→Prop} {L:Nat}
def wpAnyL (P:Program)(md:Region.Mode)(ops:Array Oper)(Q:Exit→Act→World→Prop)(S:World→Prop)(L:Nat):Nat→Array Bool→Act→World→Prop
 | 0,listed,a,w=>Region.ready md ops listed = []∧Q .normal a w
 | fuel+1,listed,a,w =>
  (Region.ready md ops listed = []→Q .normal a w) ∧
  ∀ i∈Region.ready md ops listed,wpOp P ops Q i (fun a' w' => ((listed.setIfInBounds i true).getD L true=false→S w')∧wpAnyL P md ops Q S L fuel (listed.setIfInBounds i true) a' w') a w
theorem znG:∀ (fuel:Nat) (listed:Array Bool) (a:Act) (w:World),wpAnyL P md ops Q S L fuel listed a w→wpAny P md ops Q fuel listed a w
 | 0,_,_,_,h=>h
 | fuel+1,_,_,_,h=>⟨h.1,fun i hi=>wpOp_mono (fun a' w' h' => znG fuel _ a' w' h'.2) (h.2 i hi)⟩
def waitsFor (md:Region.Mode)(ops:Array Oper)(L i:Nat):Bool:=match ops[L]? with | some o=>o.after.toList.any (fun e=>Region.binds md e && e.on == i) | none=>false
theorem znp {i:Nat}{listed:Array Bool}(hw:waitsFor md ops L i=true)(hr:i∈Region.ready md ops listed):L ∉ Region.ready md ops listed:=by
 intro hL
 obtain ⟨-,oL,hoL,hall⟩:=mem_ready.1 hL
 have h0:=(mem_ready.1 hr).1
 unfold waitsFor at hw
 rw [hoL] at hw
 simp only [List.any_eq_true,Bool.and_eq_true,beq_iff_eq] at hw
 obtain ⟨e,he,hb,rfl⟩:=hw
 have h1:=hall e (by simpa using he) hb
 rcases Nat.lt_or_ge e.on listed.size with h' | h'
 ·simp [h'] at h0 h1;rw [h0] at h1;cases h1
 ·simp [Array.getElem?_eq_none h'] at h1
theorem znB {i:Nat}{oi:Oper}{v:Value}(hi:ops[i]? = some oi)(hsel:∀ (j:Nat) (o:Oper) cs b,ops[j]? = some o→o.op ≠ .select cs b)
  (hQ:∀ c a w,Q (.panic c) (a.put oi.dst v) w→Q (.panic c) a w) (hw:waitsFor md ops L i=true) (hiL:i ≠ L) :
  ∀ (fuel:Nat) (listed:Array Bool) (a:Act) (w:World),
   (∀ j oj,ops[j]? = some oj→j ≠ i→listed.getD j true=false→(∀ e∈oj.after,Region.binds md e=true→e.on ≠ i)→oi.apart ops oj=true) →
   i∈Region.ready md ops listed→YieldsIf P ops S oi v a→S w→listed.getD L true=false →
   wpAnyL P md ops Q S L fuel (listed.setIfInBounds i true) (a.put oi.dst v) w→wpAnyL P md ops Q S L (fuel+1) listed a w:=by
 intro fuel
 induction fuel with
 | zero =>
  intro listed a w _ hr hy hS hun H
  refine ⟨fun h=>(by rw [h] at hr;cases hr),fun j hj => ?_⟩
  by_cases hji:j=i
  ·subst hji;exact hy.wpOp hi hS ⟨fun _=>hS,H⟩
  ·have:=ready_mono hj hji
   rw [H.1] at this
   cases this
 | succ fuel ih =>
  intro listed a w hfree hr hy hS hun H
  refine ⟨fun h=>(by rw [h] at hr;cases hr),fun j hj => ?_⟩
  by_cases hji:j=i
  ·subst hji;exact hy.wpOp hi hS ⟨fun _=>hS,H⟩
  ·have hjL:j ≠ L:=fun e=>znp hw hr (e ▸ hj)
   have h1:=H.2 j (ready_mono hj hji)
   obtain ⟨hjun,oj,hoj,hall⟩:=mem_ready.1 hj
   have hnot:∀ e∈oj.after,Region.binds md e=true→e.on ≠ i:=fun e he hb heq=>by
    have h1:=hall e he hb
    have h0:=(mem_ready.1 hr).1
    rw [heq] at h1
    rcases Nat.lt_or_ge i listed.size with h' | h'
    ·simp [h'] at h0 h1;rw [h0] at h1;cases h1
    ·simp [Array.getElem?_eq_none h'] at h1
   have h2:=wpOp_putIf hoj (hfree j oj hoj hji hjun hnot) (fun cs b=>hsel i oi cs b hi) (fun cs b=>hsel j oj cs b hoj) hQ hy h1
   have hfree' : ∀ k ok,ops[k]? = some ok→k ≠ i→(listed.setIfInBounds j true).getD k true=false →
     (∀ e∈ok.after,Region.binds md e=true→e.on ≠ i)→oi.apart ops ok=true:=fun k ok hk hki hun hno=>by
    refine hfree k ok hk hki ?_ hno
    by_cases hjk:j=k
    ·subst hjk;exact hjun
    ·rw [getD_set_ne true hjk] at hun;exact hun
   have hun' : (listed.setIfInBounds j true).getD L true=false:=by rw [getD_set_ne true hjL];exact hun
   have hun2:((listed.setIfInBounds i true).setIfInBounds j true).getD L true=false:=by rw [getD_set_ne true hjL,getD_set_ne true hiL];exact hun
   refine wpOp_mono (fun a' w' h3=>⟨fun _=>h3.2.1 hun2,ih (listed.setIfInBounds j true) a' w' hfree' (ready_mono hr (Ne.symm hji)) h3.1 (h3.2.1 hun2) hun' ?_⟩) h2
   rw [Array.setIfInBounds_comm _ _ hji]
   exact h3.2.2
theorem znC {i:Nat}{oi:Oper}{v:Value}(hi:ops[i]? = some oi)(hsel:∀ (j:Nat) (o:Oper) cs b,ops[j]? = some o→o.op ≠ .select cs b)
  (hQ:∀ c a w,Q (.panic c) (a.put oi.dst v) w→Q (.panic c) a w) (hiL:i ≠ L) :
  ∀ (fuel:Nat) (listed:Array Bool) (a:Act) (w:World),
   (∀ j oj,ops[j]? = some oj→j ≠ i→listed.getD j true=false→(∀ e∈oj.after,Region.binds md e=true→e.on ≠ i)→oi.apart ops oj=true) →
   i∈Region.ready md ops listed→YieldsIf P ops (fun _=>True) oi v a→(listed.getD L true=false→S w) →
   wpAnyL P md ops Q S L fuel (listed.setIfInBounds i true) (a.put oi.dst v) w→wpAnyL P md ops Q S L (fuel+1) listed a w:=by
 intro fuel
 induction fuel with
 | zero =>
  intro listed a w _ hr hy hS H
  refine ⟨fun h=>(by rw [h] at hr;cases hr),fun j hj => ?_⟩
  by_cases hji:j=i
  ·subst hji
   exact hy.wpOp hi trivial ⟨fun h=>hS (by rw [getD_set_ne true hiL] at h;exact h),H⟩
  ·have:=ready_mono hj hji
   rw [H.1] at this
   cases this
 | succ fuel ih =>
  intro listed a w hfree hr hy hS H
  refine ⟨fun h=>(by rw [h] at hr;cases hr),fun j hj => ?_⟩
  by_cases hji:j=i
  ·subst hji
   exact hy.wpOp hi trivial ⟨fun h=>hS (by rw [getD_set_ne true hiL] at h;exact h),H⟩
  ·have h1:=H.2 j (ready_mono hj hji)
   obtain ⟨hjun,oj,hoj,hall⟩:=mem_ready.1 hj
   have hnot:∀ e∈oj.after,Region.binds md e=true→e.on ≠ i:=fun e he hb heq=>by
    have h1:=hall e he hb
    have h0:=(mem_ready.1 hr).1
    rw [heq] at h1
    rcases Nat.lt_or_ge i listed.size with h' | h'
    ·simp [h'] at h0 h1;rw [h0] at h1;cases h1
    ·simp [Array.getElem?_eq_none h'] at h1
   have h2:=wpOp_putIf hoj (hfree j oj hoj hji hjun hnot) (fun cs b=>hsel i oi cs b hi) (fun cs b=>hsel j oj cs b hoj) hQ hy h1
   have hfree' : ∀ k ok,ops[k]? = some ok→k ≠ i→(listed.setIfInBounds j true).getD k true=false →
     (∀ e∈ok.after,Region.binds md e=true→e.on ≠ i)→oi.apart ops ok=true:=fun k ok hk hki hun hno=>by
    refine hfree k ok hk hki ?_ hno
    by_cases hjk:j=k
    ·subst hjk;exact hjun
    ·rw [getD_set_ne true hjk] at hun;exact hun
   have hcom:((listed.setIfInBounds j true).setIfInBounds i true)=((listed.setIfInBounds i true).setIfInBounds j true):=Array.setIfInBounds_comm _ _ hji
   have hback:(listed.setIfInBounds j true).getD L true=false→((listed.setIfInBounds i true).setIfInBounds j true).getD L true=false:=fun h=>by
    rw [← hcom,getD_set_ne true hiL]
    exact h
   refine wpOp_mono (fun a' w' h3=>⟨fun h=>h3.2.1 (hback h),ih (listed.setIfInBounds j true) a' w' hfree' (ready_mono hr (Ne.symm hji)) h3.1 (fun h=>h3.2.1 (hback h)) ?_⟩) h2
   rw [hcom]
   exact h3.2.2
theorem znE {i:Nat}{oi:Oper}{v:Value}{fuel:Nat}{listed:Array Bool}{a:Act}{w:World}(hi:ops[i]? = some oi)
  (hs:Region.noSelect ops=true) (hf:Region.free md ops listed i=true) (hr:(Region.ready md ops listed).contains i=true) (hw:waitsFor md ops L i=true)
  (hQ:∀ c a w,Q (.panic c) (a.put oi.dst v) w→Q (.panic c) a w) (hy:YieldsIf P ops S oi v a) (hS:S w) (hL:(decide (i ≠ L) && !listed.getD L true)=true)
  (h:wpAnyL P md ops Q S L fuel (listed.setIfInBounds i true) (a.put oi.dst v) w):wpAnyL P md ops Q S L (fuel+1) listed a w:=by
 simp only [Bool.and_eq_true,decide_eq_true_eq,Bool.not_eq_true'] at hL
 exact znB hi (Region.noSelect_spec hs) hQ hw hL.1 fuel listed a w (Region.free_spec hi hf) (by simpa using hr) hy hS hL.2 h
theorem znF {i:Nat}{oi:Oper}{v:Value}{fuel:Nat}{listed:Array Bool}{a:Act}{w:World}(hi:ops[i]? = some oi)
  (hs:Region.noSelect ops=true) (hf:Region.free md ops listed i=true) (hr:(Region.ready md ops listed).contains i=true) (hL:decide (i ≠ L)=true)
  (hQ:∀ c a w,Q (.panic c) (a.put oi.dst v) w→Q (.panic c) a w) (hy:YieldsIf P ops (fun _=>True) oi v a) (hS:S w)
  (h:wpAnyL P md ops Q S L fuel (listed.setIfInBounds i true) (a.put oi.dst v) w):wpAnyL P md ops Q S L (fuel+1) listed a w :=
 znC hi (Region.noSelect_spec hs) hQ (of_decide_eq_true hL) fuel listed a w (Region.free_spec hi hf) (by simpa using hr) hy (fun _=>hS) h
def AllReadyL (P:Program)(md:Region.Mode)(ops:Array Oper)(Q:Exit→Act→World→Prop)(S:World→Prop)(L:Nat)(fuel:Nat)(listed:Array Bool)(a:Act)(w:World)(rs:List Nat):Prop :=
 ∀ i∈rs,wpOp P ops Q i (fun a' w' => ((listed.setIfInBounds i true).getD L true=false→S w')∧wpAnyL P md ops Q S L fuel (listed.setIfInBounds i true) a' w') a w
theorem AllReadyL.nil {fuel:Nat}{listed:Array Bool}{a:Act}{w:World}:AllReadyL P md ops Q S L fuel listed a w []:=fun _ h=>by cases h
theorem AllReadyL.cons {fuel:Nat}{listed:Array Bool}{a:Act}{w:World}{i:Nat}{o:Oper}{rs:List Nat}(ho:ops[i]? = some o)
  (h:∀ K' : Act→World→Prop,Shut (∀ a w,((listed.setIfInBounds i true).getD L true=false→S w)→(((listed.setIfInBounds i true).getD L true=false→S w)→wpAnyL P md ops Q S L fuel (listed.setIfInBounds i true) a w)→K' a w)→if Region.wanted o (yielded ops a.tmps)=true then Oper.wp P o a w K' Q else K' (a.put o.dst undef) w)
  (hs:AllReadyL P md ops Q S L fuel listed a w rs):AllReadyL P md ops Q S L fuel listed a w (i :: rs):=fun j hj=>by
 rcases List.mem_cons.1 hj with rfl | hj
 ·exact wpOp_step ho (fun K' hK=>h K' (fun a w hS hW=>hK a w ⟨hS,hW hS⟩))
 ·exact hs j hj
theorem znD {rs:List Nat}{fuel:Nat}{listed:Array Bool}{a:Act}{w:World}(hr:Region.ready md ops listed=rs)(hne:rs ≠ [])
  (h:AllReadyL P md ops Q S L fuel listed a w rs):wpAnyL P md ops Q S L (fuel+1) listed a w :=
 ⟨fun h0=>absurd (hr ▸ h0) hne,hr ▸ h⟩
theorem znA {listed:Array Bool}{a:Act}{w:World}(hr:Region.ready md ops listed = [])(h:Q .normal a w) :
  ∀ fuel,wpAnyL P md ops Q S L fuel listed a w
 | 0=>⟨hr,h⟩
 | _+1=>⟨fun _=>h,by rw [hr];simp⟩
theorem znN {id:Nat}{a:Act}{w:World}(L:Nat)(hm:P.follows .mixedOrders=true)(hS:S w.drew)
  (h:S w.drew→wpAnyL P .any ops Q S L ops.size (Array.replicate ops.size false) a w.drew):(Code.region id ops true).wp P Q a w :=
 wp_region_any hm (znG _ _ _ _ (h hS))
end
end Go.Proofs.YtahdlejgjcjeoabGreatDoor
