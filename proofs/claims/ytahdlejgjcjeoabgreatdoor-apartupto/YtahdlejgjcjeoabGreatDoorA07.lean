/- The program's cluster: what can be asked of it (the lock is free; how the cells lie). -/
import Derived.Test.YtahdlejgjcjeoabGreatDoorA06
import Derived.Test.YtahdlejgjcjeoabGreatDoorA03
import Derived.Test.YtahdlejgjcjeoabGreatDoorA02
import Derived.Deep.DeepCutAuto
import Derived.Test.YtahdlejgjcjeoabGreatDoorA05
import Derived.Deep.RegionHeld3
import Derived.Deep.Light
namespace Go.Proofs.YtahdlejgjcjeoabGreatDoor
set_option maxHeartbeats 8000000
open Go.RowKit
structure Tk where
 num:Nat
 org:Nat
 v:Value
 d:List At
 kept:Bool
def Tk.cells (t:Tk):List Value := [.int .i64 t.num,.int .i64 t.org,t.v,.bool t.kept]
def Tk.ent (t:Tk):Ent:=⟨t.num,t.org,t.d⟩
structure Rc where
 kind:Nat
 num:Nat
 v:Value
 d:List At
 torn:Bool
 bytes:ByteArray
def Rc.cells (r:Rc):List Value := [.int .i64 r.kind,.int .i64 r.num,r.v,.bool r.torn,.string r.bytes]
def Rc.rec' (r:Rc):Rec:=⟨r.kind,r.num,r.d⟩
structure Fm where
 f:Frm
 v:Value
def Fm.cells (m:Fm):List Value := [.int .i64 m.f.kind,.int .i64 m.f.src,.int .i64 m.f.dst,.int .i64 m.f.upto,m.v]
structure RefD where
 ρ:Nat
 va:Value
 vt:Value
 vn:Value
 vk:Value
 vl:Value
 ts:List Tk
 rs:List Rc
def RefD.block (D:RefD)(p:Rep):Array Value:=#[.bool p.down,D.va,.int .i64 p.num,.int .i64 p.base,D.vt,D.vn,D.vk,D.vl,.int .i64 p.frames,.int .i64 p.weight]
def LogIs (rs:List Rc)(p:Rep):Prop :=
 ∃ A B,rs=A ++ B∧(∀ r∈A,r.torn=false)∧A.map Rc.rec' = p.log∧((B = []∧p.torn = [])∨∃ r,B = [r]∧r.torn=true∧r.bytes=bstr p.torn∧p.down=true)
def ints (l:List Nat):List Value:=l.map fun n:Nat => .int .i64 (n:Int)
structure RefRest (w:World)(col:Col)(o i:Nat)(near:List Bool)(D:RefD)(p:Rep):Prop where
 atoms:Held w col (o,1) D.va p.atoms
 taken:RowC w col (o,20+i) 164 4 D.vt D.ts.length (D.ts.flatMap Tk.cells)
 tkd:∀ t∈D.ts,Held w col (o,1) t.v t.d
 tsl:D.ts.length≤p.num
 buf:(D.ts.filter (·.kept)).map Tk.ent=p.buf
 near:RowC w col (o,30+i) 4 1 D.vn near.length (near.map Value.bool)
 acked:RowC w col (o,40+i) 3 1 D.vk p.acked.length (ints p.acked)
 log:RowC w col (o,50+i) 152 5 D.vl D.rs.length (D.rs.flatMap Rc.cells)
 rcd:∀ r∈D.rs,Held w col (o,1) r.v r.d
 logs:LogIs D.rs p
structure RefRep (w:World)(col:Col)(o i:Nat)(near:List Bool)(D:RefD)(p:Rep):Prop extends RefRest w col o i near D p where
 blk:w.heap[D.ρ]? = some (.cells (D.block p) 142 (0,0))
 cρ:col D.ρ=(o,10+i)
def ofRep (o i:Nat):Nat × Nat→Prop:=fun κ=>κ.1=o∧10≤κ.2∧κ.2 % 10=i
theorem RefRest.kept {w w' : World}{col col' : Col}{S:Nat × Nat→Prop}{o i:Nat}{near:List Bool}{D:RefD}{p:Rep}(h:RefRest w col o i near D p)(hf:FrC S col col' w w')(h1:¬ S (o,1))(hS:∀ k,k=2∨k=3∨k=4∨k=5→¬ S (o,k*10+i)):RefRest w' col' o i near D p where
 atoms:=h.atoms.kept hf h1
 taken:=h.taken.kept hf (hS 2 (by omega))
 tkd t ht:=(h.tkd t ht).kept hf h1
 tsl:=h.tsl
 buf:=h.buf
 near:=h.near.kept hf (hS 3 (by omega))
 acked:=h.acked.kept hf (hS 4 (by omega))
 log:=h.log.kept hf (hS 5 (by omega))
 rcd r hr:=(h.rcd r hr).kept hf h1
 logs:=h.logs
theorem RefRep.kept {w w' : World}{col col' : Col}{S:Nat × Nat→Prop}{o i:Nat}{near:List Bool}{D:RefD}{p:Rep}(h:RefRep w col o i near D p)(hf:FrC S col col' w w')(h1:¬ S (o,1))(hS:∀ k,k=1∨k=2∨k=3∨k=4∨k=5→¬ S (o,k*10+i)):RefRep w' col' o i near D p :=
 { h.toRefRest.kept hf h1 (fun k hk=>hS k (by omega)) with
  blk:=hf.block h.blk (by rw [h.cρ];exact hS 1 (by omega))
  cρ:=(hf.colB h.blk).trans h.cρ }
theorem RefRep.below {w w' : World}{col:Col}{o i:Nat}{near:List Bool}{D:RefD}{p:Rep}(h:RefRep w col o i near D p)(hb:Below w.heap.size w w')(κ:Nat × Nat):RefRep w' (paint col w.heap.size κ) o i near D p :=
 h.kept (S:=fun _=>False) (zdH hb κ) id fun _ _=>id
theorem RefRep.set {w:World}{col:Col}{o i k:Nat}{near:List Bool}{D D' : RefD}{p p' : Rep}{u:Value}(h:RefRep w col o i near D p)(hi:i<6)(hb:(D.block p).setIfInBounds k u=D'.block p')(hρ:D'.ρ=D.ρ)(hr:RefRest w col o i near D' p') :
  RefRep (w.setCell ⟨D.ρ,k,none⟩ u) col o i near D' p' ∧ FrC (ofRep o i) col col w (w.setCell ⟨D.ρ,k,none⟩ u):=by
 have hS:ofRep o i (col D.ρ):=by rw [h.cρ];exact ⟨rfl,by show 10≤10+i;omega,by show (10+i) % 10=i;omega⟩
 have hf:FrC (fun x=>x=(o,10+i)) col col w (w.setCell ⟨D.ρ,k,none⟩ u):=zdK k u h.cρ
 refine ⟨{ hr.kept hf (fun e=>by have:=congrArg Prod.snd e;simp only at this;omega) (fun j hj e=>by have:=congrArg Prod.snd e;simp only at this;omega) with blk := ?_,cρ:=by rw [hρ];exact h.cρ },zdK k u hS⟩
 rw [hρ,← hb]
 exact zeK h.blk u
def nearRow (c:Clu)(i:Nat):List Bool:=(List.range c.reps.length).map (c.near i)
structure RefC where
 vR:Value
 vN:Value
 Ds:List RefD
 ns:List Fm
structure RefAt (w:World)(col:Col)(o x:Nat)(K:RefC)(c:Clu):Prop where
 blk:w.heap[x]? = some (.cells #[.int .i64 c.reps.length,.slice none 0 0,.bool c.bp,.bool c.rr,.int .i64 c.room,K.vR,K.vN] 93 (0,0))
 cx:col x=(o,0)
 rows:RowC w col (o,2) 138 1 K.vR K.Ds.length (K.Ds.map fun D => .pointer (some ⟨D.ρ,0,none⟩))
 net:RowC w col (o,3) 162 5 K.vN K.ns.length (K.ns.flatMap Fm.cells)
 netd:∀ f∈K.ns,Held w col (o,1) f.v f.f.d
 nets:K.ns.map Fm.f=c.net
 len:K.Ds.length=c.reps.length
 reps:∀ i (h:i<K.Ds.length) (h' : i<c.reps.length),RefRep w col o i (nearRow c i) (K.Ds[i]) (c.reps[i])
theorem RefAt.kept {w w' : World}{col col' : Col}{S:Nat × Nat→Prop}{o x:Nat}{K:RefC}{c:Clu}(h:RefAt w col o x K c)(hf:FrC S col col' w w')(hS:∀ k,¬ S (o,k)):RefAt w' col' o x K c where
 blk:=hf.block h.blk (by rw [h.cx];exact hS 0)
 cx:=(hf.colB h.blk).trans h.cx
 rows:=h.rows.kept hf (hS 2)
 net:=h.net.kept hf (hS 3)
 netd f hm:=(h.netd f hm).kept hf (hS 1)
 nets:=h.nets
 len:=h.len
 reps i hi hi' := (h.reps i hi hi').kept hf (hS 1) fun k _=>hS _
theorem RefAt.below {w w' : World}{col:Col}{o x:Nat}{K:RefC}{c:Clu}(h:RefAt w col o x K c)(hb:Below w.heap.size w w')(κ:Nat × Nat):RefAt w' (paint col w.heap.size κ) o x K c :=
 h.kept (S:=fun _=>False) (zdH hb κ) fun _=>id
theorem RefAt.same {w w' : World}{col:Col}{o x:Nat}{K:RefC}{c:Clu}(h:RefAt w col o x K c)(hb:Below w.heap.size w w'):RefAt w' col o x K c :=
 h.kept (S:=fun _=>False) (zdJ hb) fun _=>id
theorem RefAt.setRep {w w' : World}{col col' : Col}{o x i:Nat}{K:RefC}{c:Clu}{D' : RefD}{p' : Rep}(h:RefAt w col o x K c)(h6:c.reps.length≤6)(hi:i<c.reps.length)(hf:FrC (ofRep o i) col col' w w')(hρ:∀ h' : i<K.Ds.length,D'.ρ=(K.Ds[i]).ρ)(hp:RefRep w' col' o i (nearRow c i) D' p') :
  RefAt w' col' o x { K with Ds:=K.Ds.set i D' } (c.setRep i p') where
 blk:=by
  have:=hf.block h.blk (by rw [h.cx];unfold ofRep;simp)
  simpa [Clu.setRep] using this
 cx:=(hf.colB h.blk).trans h.cx
 rows:=by
  have hr:=h.rows.kept hf (by unfold ofRep;simp)
  have he:(K.Ds.set i D').map (fun D=>Value.pointer (some ⟨D.ρ,0,none⟩))=K.Ds.map (fun D=>Value.pointer (some ⟨D.ρ,0,none⟩)):=by
   apply List.ext_getElem?
   intro j
   simp only [List.getElem?_map,List.getElem?_set]
   split
   ·rename_i e
    subst e
    split
    ·rename_i hl
     rw [List.getElem?_eq_getElem hl]
     simp [hρ hl]
    ·rename_i hl
     rw [List.getElem?_eq_none (by omega)]
   ·rfl
  show RowC w' col' (o,2) _ 1 K.vR (K.Ds.set i D').length ((K.Ds.set i D').map _)
  rw [he,List.length_set]
  exact hr
 net:=h.net.kept hf (by unfold ofRep;simp)
 netd f hm:=(h.netd f hm).kept hf (by unfold ofRep;simp)
 nets:=h.nets
 len:=by simpa [Clu.setRep] using h.len
 reps j hj hj' := by
  have hjc:j<c.reps.length:=by simpa [Clu.setRep] using hj'
  have hjK:j<K.Ds.length:=by simpa using hj
  have hn:nearRow (c.setRep i p') j=nearRow c j:=by simp [nearRow,Clu.setRep]
  rw [hn]
  by_cases e:j=i
  ·subst e
   simpa [Clu.setRep] using hp
  ·have:=(h.reps j hjK hjc).kept hf (by unfold ofRep;simp) (fun k _=>by unfold ofRep;simp only;omega)
   simpa [Clu.setRep,Ne.symm e] using this
theorem RefRep.cells {w:World}{col:Col}{o i:Nat}{near:List Bool}{D:RefD}{p:Rep}(h:RefRep w col o i near D p) :
  w.cell? ⟨D.ρ,0,none⟩=some (.bool p.down)∧w.cell? ⟨D.ρ,1,none⟩=some D.va∧w.cell? ⟨D.ρ,2,none⟩=some (.int .i64 p.num)∧w.cell? ⟨D.ρ,3,none⟩=some (.int .i64 p.base)∧w.cell? ⟨D.ρ,4,none⟩=some D.vt ∧
  w.cell? ⟨D.ρ,5,none⟩=some D.vn∧w.cell? ⟨D.ρ,6,none⟩=some D.vk∧w.cell? ⟨D.ρ,7,none⟩=some D.vl∧w.cell? ⟨D.ρ,8,none⟩=some (.int .i64 p.frames)∧w.cell? ⟨D.ρ,9,none⟩=some (.int .i64 p.weight)∧∀ k,w.frozen? ⟨D.ρ,k,none⟩=false :=
 ⟨zaX h.blk 0,zaX h.blk 1,zaX h.blk 2,zaX h.blk 3,zaX h.blk 4,zaX h.blk 5,zaX h.blk 6,zaX h.blk 7,zaX h.blk 8,zaX h.blk 9,zaZ h.blk⟩
theorem RefAt.cells {w:World}{col:Col}{o x:Nat}{K:RefC}{c:Clu}(h:RefAt w col o x K c) :
  w.cell? ⟨x,0,none⟩=some (.int .i64 c.reps.length)∧w.cell? ⟨x,1,none⟩=some (.slice none 0 0)∧w.cell? ⟨x,2,none⟩=some (.bool c.bp)∧w.cell? ⟨x,3,none⟩=some (.bool c.rr)∧w.cell? ⟨x,4,none⟩=some (.int .i64 c.room)∧w.cell? ⟨x,5,none⟩=some K.vR∧w.cell? ⟨x,6,none⟩=some K.vN∧∀ k,w.frozen? ⟨x,k,none⟩=false :=
 ⟨zaX h.blk 0,zaX h.blk 1,zaX h.blk 2,zaX h.blk 3,zaX h.blk 4,zaX h.blk 5,zaX h.blk 6,zaZ h.blk⟩
theorem RefAt.ptr {w:World}{col:Col}{o x i:Nat}{K:RefC}{c:Clu}(h:RefAt w col o x K c)(hi:i<c.reps.length):∃ g cap D,K.vR = .slice (some ⟨g,0,none⟩) c.reps.length cap∧c.reps.length≤cap∧K.Ds[i]? = some D∧w.cell? ⟨g,i,none⟩=some (.pointer (some ⟨D.ρ,0,none⟩))∧RefRep w col o i (nearRow c i) D (c.rep i):=by
 have hk:i<K.Ds.length:=by rw [h.len];exact hi
 obtain ⟨g,cap,hv,hc,_,_,_,hcell,_⟩:=h.rows.at (by omega)
 rw [h.len] at hv hc
 refine ⟨g,cap,K.Ds[i],hv,hc,List.getElem?_eq_getElem hk,hcell i _ (by simp [hk]),?_⟩
 have:=h.reps i hk hi
 simpa [Clu.rep,hi] using this
set_option maxRecDepth 100000 in
theorem zmP (v:Value)(l:List At)(w:World)(hv:SliceOf w v l)(hs:∀ a∈l,fits a)(hlen:l.length≤1099511627776) :
  Calls Tryz.prog 76 #[v] w fun e w' => ∃ v' out,e = .returned v' ∧ w'.ownsRow w.heap.size 76 6 v' out.length (flat out)∧Hid (IsTold l out)∧Below w.heap.size w w' := by
 obtain ⟨ad,cap,rfl,hcap,H⟩:=hv
 have HR:Hid (0<l.length→∃ b off,ad=some ⟨b,off,none⟩∧b<w.heap.size∧RowAt w b off l):=H
 clear H
 have HS:Hid (∀ a∈l,fits a):=hs
 clear hs
 obtain ⟨i0,hi,hz0,hz1,hz2⟩:=info_parts zeZ
 go_enter Tryz.func76,Tryz.ntmps76
 go_wp2
 go_loopw [3,4] (fun v j wr=>∃ k:Nat,k≤l.length∧j = .int .i64 k∧wr.ownsRow w.heap.size 76 6 v (leftTo l k).length (flat (leftTo l k))∧Below w.heap.size w wr) (fun _ j _=>l.length - (intOf j).toNat)
 case atStart=>exact ⟨0,Nat.zero_le _,rfl,by simp [flat,leftTo,World.ownsRow],Below.refl _ _⟩
 case round =>
  obtain ⟨k,hk,rfl,hown,hbw⟩:=hrel
  by_cases hl:k<l.length
  ·obtain ⟨b,off,rfl,hb,hrow⟩:=HR.out (by omega)
   have hsz:=hbw.size
   have hcon:=zcf b off cap l k wr (hrow.below hbw hb) HS.out hcap (by omega) (by omega) hl
   have hsucc:=zfS l k
   have hll:=zfR l k
   cases hc:cntTo l k l.length
   ·rw [hc] at hcon hsucc
    have HSU:Hid (leftTo l (k+1)=leftTo l k):=by simpa [Hid] using hsucc
    clear hsucc hrow HR hc hll
    go_wp2_with (go_at_call 121;refine hcon.mono ?_;rintro e w1 ⟨rfl,hb1⟩)
    go_roundw
    case rel=>exact ⟨k+1,by omega,by go_num,by rw [HSU.out];exact zh5 hown hb1,hbw.trans (hb1.mono hsz)⟩
    case measure=>simp [intOf];omega
   ·rw [hc] at hcon hsucc
    have HSU:Hid (leftTo l (k+1)=leftTo l k ++ [nth l k]):=by simpa [Hid] using hsucc
    clear hsucc hc
    have hrow' := (hrow.below hbw hb).nth hl
    clear hrow HR
    have hft:=zdB (leftTo l k) (nth l k)
    generalize nth l k=x at *
    have HF:Hid (flat (leftTo l k ++ [x])=flat (leftTo l k) ++ enc x):=hft
    clear hft
    go_wp2_with fail
    refine hcon.mono ?_
    rintro e w1 ⟨rfl,hb1⟩
    obtain ⟨c0,c1,c2,c3,c4,c5⟩:=zbt hb1 (by omega) hrow'
    have hown1:=zh5 hown hb1
    have hbw1:Below w.heap.size w w1:=hbw.trans (hb1.mono hsz)
    have hsz1:=hbw1.size
    clear hcon hrow' hb1 hown hbw
    generalize hM:leftTo l k=M at *
    have HM:Hid (leftTo l k=M):=hM
    clear hM
    go_wp2_with (at_builtin;refine wpList_append_lies _ rfl _ _ 53 rfl w.heap.size 76 i0 _ 6 64 Tryz.underlying53 hi hz0 hz1 hz2 rfl (by decide) _ M.length _ rfl (hown1.alloc _) ⟨w1.heap.size,0,none⟩ 1 1 (enc x) rfl rfl (zgZ w1 x _) (zcS x) (by decide) (by unfold maxLen;omega) (by omega) (by simp;omega) (w1.heap.size+1) (by simp) ?_;intro g capn w2 hown2 hgrow2 hat2 hlt2)
    go_roundw
    case rel=>exact ⟨k+1,by omega,by go_num,by rw [HSU.out,HF.out,List.length_append];exact hown2,(hbw1.alloc hsz1 _).grown hgrow2 (by simp;omega) (zh4 hown1)⟩
    case measure=>simp [intOf];omega
  ·have hkl:k=l.length:=by omega
   subst hkl
   clear HR hl hk
   have hap:=zfU (l:=l)
   have hll:=zfR l l.length
   have hsub:∀ x∈leftTo l l.length,fits x:=fun x hx=>HS.out x (zfV x hx).1
   have hdone:=fun O=>Sel.done (l:=l) (O:=O)
   generalize leftTo l l.length=L at *
   have HAP:Hid (L.Pairwise (fun x y=>plc x y ≠ 0)):=hap
   have HDN:Hid (∀ O,Sel L O→L.length≤O.length→IsTold l O):=hdone
   have HSB:Hid (∀ x∈L,fits x):=hsub
   clear hap hdone hsub HS
   obtain ⟨adL,capL,rfl,hcL,HL⟩:=zlD rfl hown
   have HRL:Hid (0<L.length→∃ b off,adL=some ⟨b,off,none⟩∧b<wr.heap.size∧RowAt wr b off L):=HL
   clear HL
   obtain ⟨wL,rfl⟩:∃ wo:World,wo=wr:=⟨_,rfl⟩
   go_wp2
   go_loopw [6] (fun s6 wr=>∃ O,O.length≤L.length∧wr.ownsRow wL.heap.size 76 6 s6 O.length (flat O)∧Hid (Sel L O)∧Below wL.heap.size wL wr) (fun s6 _=>L.length - lenOf s6)
   case atStart=>exact ⟨[],Nat.zero_le _,by simp [flat,World.ownsRow],Sel.start L,Below.refl _ _⟩
   case round =>
    obtain ⟨O,hO,hownO,hSel,hbO⟩:=hrel
    by_cases hmore:O.length<L.length
    ·obtain ⟨ad6,cap6,rfl,hc6,H6⟩:=zlD rfl hownO
     have HR6:Hid (0<O.length→∃ b off,ad6=some ⟨b,off,none⟩∧b<wr.heap.size∧RowAt wr b off O):=H6
     clear H6
     obtain ⟨bL,offL,rfl,hbL,hrowL⟩:=HRL.out (by omega)
     have HRW:Hid (RowAt wL bL offL L):=hrowL
     clear hrowL HRL
     have hszO:=hbO.size
     obtain ⟨wo,rfl⟩:∃ wo:World,wo=wr:=⟨_,rfl⟩
     go_wp2
     go_loopw [7,8] (fun s7 s8 wr=>∃ (i:Nat) (bb:Int),i≤L.length∧s8 = .int .i64 i∧s7 = .int .i64 bb∧Hid (Best L O i bb)∧Below wo.heap.size wo wr) (fun _ s8 _=>L.length - (intOf s8).toNat)
     case atStart=>exact ⟨0,-1,Nat.zero_le _,rfl,rfl,Best.start L O,Below.refl _ _⟩
     case round =>
      obtain ⟨i,bb,hiL,rfl,rfl,hbest,hbi⟩:=hrel
      by_cases hil:i<L.length
      ·have hszi:=hbi.size
       have hx:=(HRW.out.below (hbO.trans (hbi.mono hszO)) hbL).nth hil
       have hfx:=HSB.out _ (zg6 L i hil)
       go_upto_if 43 with fail
       go_cut [9] (fun s9 wx=>s9 = .bool (bhB O (nth L i))∧Below wr.heap.size wr wx)
       case first =>
        by_cases hO0:0<O.length
        ·obtain ⟨b6,off6,rfl,hb6,hrow6⟩:=HR6.out hO0
         obtain ⟨p,hp⟩:∃ p,O.length=p+1:=⟨O.length - 1,by omega⟩
         have hy:=(hrow6.below hbi hb6).nth (k:=p) (by omega)
         have hfy:=HSB.out _ (hSel.out.sub _ (zg6 O p (by omega)))
         have hbl:=zaV O p hp (nth L i)
         clear hrow6 HR6
         obtain ⟨c0,c1,c2,c3,c4,c5⟩:=hx
         obtain ⟨d0,d1,d2,d3,d4,d5⟩:=hy
         generalize nth L i=x at *
         generalize nth O p=y at *
         have HBL:Hid (bhB O x=decide (0<plc x y)):=hbl
         clear hbl
         have hbr:bL<wr.heap.size:=by omega
         have hbr6:b6<wr.heap.size:=by omega
         have q1:(0:Int)≤(i:Int):=by omega
         have q2:(i:Int)<(L.length:Int):=by omega
         have q3:(0:Int)≤(p:Int):=by omega
         have q4:(p:Int)<(O.length:Int):=by omega
         have q5:(0:Int)<(O.length:Int):=by omega
         have hw1:IntKind.i64.wrap (p:Int)=(p:Int):=by rw [IntKind.wrap_i64];omega
         have hw2:(O.length:Int) - 1=(p:Int):=by omega
         have HP:Hid (O.length=p+1):=hp
         clear hp
         go_wp2
         go_region_held3 (fun w' => w'.cell? ⟨bL,offL+i*6,none⟩=some (.int .i64 x.ty)∧w'.cell? ⟨bL,offL+i*6+1,none⟩=some (.string x.key)∧w'.cell? ⟨bL,offL+i*6+2,none⟩=some (.int .i64 x.side)∧w'.cell? ⟨bL,offL+i*6+3,none⟩=some (.int .i64 x.who)∧w'.cell? ⟨bL,offL+i*6+4,none⟩=some (.string x.elem)∧w'.cell? ⟨bL,offL+i*6+5,none⟩=some (.int .i64 x.n)∧w'.cell? ⟨b6,off6+p*6,none⟩=some (.int .i64 y.ty)∧w'.cell? ⟨b6,off6+p*6+1,none⟩=some (.string y.key)∧w'.cell? ⟨b6,off6+p*6+2,none⟩=some (.int .i64 y.side)∧w'.cell? ⟨b6,off6+p*6+3,none⟩=some (.int .i64 y.who)∧w'.cell? ⟨b6,off6+p*6+4,none⟩=some (.string y.elem)∧w'.cell? ⟨b6,off6+p*6+5,none⟩=some (.int .i64 y.n)) (first | go_keep | (go_split_ands;refine ⟨?_,?_,?_,?_,?_,?_,?_,?_,?_,?_,?_,?_⟩ <;> (first | (rw [hb1.cell (p:=⟨bL,_,none⟩) (by simpa using hbr)];assumption) | (rw [hb1.cell (p:=⟨b6,_,none⟩) (by simpa using hbr6)];assumption)))) (first | (go_at_call 122;refine (ziw x y _ hfx hfy).mono ?_;rintro e w1 ⟨rfl,hb1⟩))
         go_wp2
         go_meet
         case rel=>exact ⟨by rw [HBL.out],(Below.refl _ wr).drew.trans hb1⟩
        ·have hO1:O = []:=List.length_eq_zero_iff.1 (by omega)
         have HBL:Hid (bhB O (nth L i)=true):=by rw [hO1];rfl
         have hz:(O.length:Int)=0:=by omega
         clear hO1
         go_wp2
         go_meet
         case rel=>exact ⟨by rw [HBL.out],Below.refl _ _⟩
       case rest =>
        obtain ⟨rfl,hbc⟩:=hcut
        have hszc:=hbc.size
        have hbic:Below wo.heap.size wo wc:=hbi.trans (hbc.mono hszi)
        have hx' := zbt hbc (by omega) hx
        clear hx hbc hbi
        cases hbb:bhB O (nth L i)
        ·have hnb:¬ bh O (nth L i):=fun h=>by rw [(zaU _ _).2 h] at hbb;cases hbb
         have HB:Hid (Best L O (i+1) bb):=hbest.out.skip hnb
         clear hnb hbb
         go_wp2
         exact ⟨⟨i+1,bb,by omega,by go_num,rfl,HB,hbic⟩,by simp [intOf];omega⟩
        ·have hbh:bh O (nth L i):=(zaU _ _).1 hbb
         clear hbb
         by_cases hneg:bb = -1
         ·subst hneg
          have HB:Hid (Best L O (i+1) i):=hbest.out.first hbh
          clear hbh
          go_wp2
          exact ⟨⟨i+1,i,by omega,by go_num,rfl,HB,hbic⟩,by simp [intOf];omega⟩
         ·obtain ⟨m,rfl,hmi⟩:∃ m:Nat,bb=m∧m<i:=by
           rcases hbest.out with ⟨h0,_⟩ | ⟨m,h1,h2,_⟩
           ·exact absurd h0 hneg
           ·exact ⟨m,h1,h2⟩
          clear hneg
          have hszo:=hbic.size
          have hy:=(HRW.out.below (hbO.trans (hbic.mono hszO)) hbL).nth (k:=m) (by omega)
          have hfy:=HSB.out _ (zg6 L m (by omega))
          have htk:=fun h=>hbest.out.take hbh h
          have hkp:=fun h=>hbest.out.keep h
          obtain ⟨c0,c1,c2,c3,c4,c5⟩:=hx'
          obtain ⟨d0,d1,d2,d3,d4,d5⟩:=hy
          clear hbh
          generalize nth L i=x at *
          generalize nth L m=y at *
          have HTK:Hid (plc x y<0→Best L O (i+1) i):=htk
          have HKP:Hid (0≤plc x y→Best L O (i+1) m):=hkp
          clear htk hkp
          have hbr:bL<wc.heap.size:=by omega
          have q1:(0:Int)≤(i:Int):=by omega
          have q2:(i:Int)<(L.length:Int):=by omega
          have q3:(0:Int)≤(m:Int):=by omega
          have q4:(m:Int)<(L.length:Int):=by omega
          go_wp2
          go_region_held3 (fun w' => w'.cell? ⟨bL,offL+i*6,none⟩=some (.int .i64 x.ty)∧w'.cell? ⟨bL,offL+i*6+1,none⟩=some (.string x.key)∧w'.cell? ⟨bL,offL+i*6+2,none⟩=some (.int .i64 x.side)∧w'.cell? ⟨bL,offL+i*6+3,none⟩=some (.int .i64 x.who)∧w'.cell? ⟨bL,offL+i*6+4,none⟩=some (.string x.elem)∧w'.cell? ⟨bL,offL+i*6+5,none⟩=some (.int .i64 x.n)∧w'.cell? ⟨bL,offL+m*6,none⟩=some (.int .i64 y.ty)∧w'.cell? ⟨bL,offL+m*6+1,none⟩=some (.string y.key)∧w'.cell? ⟨bL,offL+m*6+2,none⟩=some (.int .i64 y.side)∧w'.cell? ⟨bL,offL+m*6+3,none⟩=some (.int .i64 y.who)∧w'.cell? ⟨bL,offL+m*6+4,none⟩=some (.string y.elem)∧w'.cell? ⟨bL,offL+m*6+5,none⟩=some (.int .i64 y.n)) (first | go_keep | (go_split_ands;refine ⟨?_,?_,?_,?_,?_,?_,?_,?_,?_,?_,?_,?_⟩ <;> (rw [hb1.cell (p:=⟨bL,_,none⟩) (by simpa using hbr)];assumption))) (first | (go_at_call 122;refine (ziw x y _ hfx hfy).mono ?_;rintro e w1 ⟨rfl,hb1⟩))
          have hbw1:Below wo.heap.size wo w1:=hbic.drew.trans (hb1.mono hszo)
          clear hb1
          go_wp2
          all_goals go_light
          ·exact ⟨⟨i+1,i,by omega,by go_num,rfl,HTK.out (by assumption),hbw1⟩,by simp [intOf];omega⟩
          ·exact ⟨⟨i+1,m,by omega,by go_num,rfl,HKP.out (by assumption),hbw1⟩,by simp [intOf];omega⟩
      ·have hiL' : i=L.length:=by omega
       subst hiL'
       obtain ⟨m,rfl,hm,hbm,hmin⟩:=hbest.out.found HAP.out hSel.out hmore
       have HSel' : Hid (Sel L (O ++ [nth L m])):=hSel.out.step HAP.out hm hbm hmin
       have hszi:=hbi.size
       have hx:=(HRW.out.below (hbO.trans (hbi.mono hszO)) hbL).nth hm
       have hft:=zdB O (nth L m)
       obtain ⟨c0,c1,c2,c3,c4,c5⟩:=hx
       clear hbm hmin hbest hSel
       generalize nth L m=x at *
       have HF:Hid (flat (O ++ [x])=flat O ++ enc x):=hft
       clear hft
       have hown1:=zh5 hownO hbi
       have hbw1:Below wL.heap.size wL wr:=hbO.trans (hbi.mono hszO)
       have hsz1:=hbw1.size
       go_wp2_with (at_builtin;refine wpList_append_lies _ rfl _ _ 53 rfl wL.heap.size 76 i0 _ 6 64 Tryz.underlying53 hi hz0 hz1 hz2 rfl (by decide) _ O.length _ rfl (hown1.alloc _) ⟨wr.heap.size,0,none⟩ 1 1 (enc x) rfl rfl (zgZ wr x _) (zcS x) (by decide) (by unfold maxLen;omega) (by omega) (by simp;omega) (wr.heap.size+1) (by simp) ?_;intro g capn w2 hown2 hgrow2 hat2 hlt2)
       go_roundw
       case rel=>exact ⟨O ++ [x],by simp;omega,by rw [HF.out,List.length_append];exact hown2,HSel',(hbw1.alloc hsz1 _).grown hgrow2 (by simp;omega) (zh4 hown1)⟩
       case measure=>simp [lenOf];omega
    ·have hdn:=HDN.out O hSel.out (by omega)
     have hfin:=zic hownO hbw.size
     have hbf:Below w.heap.size w wr:=hbw.trans (hbO.mono hbw.size)
     obtain ⟨ad6,cap6,rfl,hc6,H6⟩:=zlD rfl hownO
     clear H6
     have HDN' : Hid (IsTold l O):=hdn
     clear hdn
     have hz:O.length=L.length:=by omega
     go_wp2
     go_ret
     exact ⟨_,O,rfl,hfin,HDN',hbf⟩
theorem zmv (x:Nat)(r:Int)(ad:Option Addr)(n cap:Nat)(w:World)(c5:w.cell? ⟨x,5,none⟩=some (.slice ad n cap)) :
  Calls Tryz.prog 73 #[.pointer (some ⟨x,0,none⟩),.int .i64 r] w fun e w' => e = .returned (.bool (decide (0≤r∧r<n)))∧w' = w:=by
 by_cases h:0≤r
 ·go_enter Tryz.func73,Tryz.ntmps73
  go_wp2
  go_ret
  exact ⟨zkL (by simp [h]),rfl⟩
 ·go_enter Tryz.func73,Tryz.ntmps73
  go_wp2
  go_ret
  exact ⟨zkL (by simp;omega),rfl⟩
theorem zeG (x:Nat)(r:Int)(ad:Option Addr)(n cap:Nat)(w:World)(c6:w.cell? ⟨x,6,none⟩=some (.slice ad n cap)) :
  Calls Tryz.prog 123 #[.pointer (some ⟨x,0,none⟩),.int .i64 r] w fun e w' => e = .returned (.bool (decide (0≤r∧r<n)))∧w' = w:=by
 by_cases h:0≤r
 ·go_enter Tryz.func123,Tryz.ntmps123
  go_wp2
  go_ret
  exact ⟨zkL (by simp [h]),rfl⟩
 ·go_enter Tryz.func123,Tryz.ntmps123
  go_wp2
  go_ret
  exact ⟨zkL (by simp;omega),rfl⟩
theorem zj9 (x:Nat)(ad:Option Addr)(n cap:Nat)(w:World)(c6:w.cell? ⟨x,6,none⟩=some (.slice ad n cap)) :
  Calls Tryz.prog 38 #[.pointer (some ⟨x,0,none⟩)] w fun e w' => e = .returned (.int .i64 n)∧w' = w:=by
 go_enter Tryz.func38,Tryz.ntmps38
 go_wp2
 go_ret
 exact ⟨rfl,rfl⟩
theorem zkr {w:World}{col:Col}{o x:Nat}{K:RefC}{c:Clu}(h:RefAt w col o x K c)(r:Int) :
  Calls Tryz.prog 73 #[.pointer (some ⟨x,0,none⟩),.int .i64 r] w fun e w' => e = .returned (.bool (c.there r))∧w' = w:=by
 obtain ⟨ad,cap,hv,_⟩:=h.rows.form
 have c5:=h.cells.2.2.2.2.2.1
 rw [hv,h.len] at c5
 exact zmv x r ad _ cap w c5
theorem zkb {w:World}{col:Col}{o x:Nat}{K:RefC}{c:Clu}(h:RefAt w col o x K c)(r:Int) :
  Calls Tryz.prog 123 #[.pointer (some ⟨x,0,none⟩),.int .i64 r] w fun e w' => e = .returned (.bool (c.has r))∧w' = w:=by
 obtain ⟨ad,cap,hv,_⟩:=h.net.form
 have c6:=h.cells.2.2.2.2.2.2.1
 have hl:K.ns.length=c.net.length:=by rw [← h.nets,List.length_map]
 rw [hv,hl] at c6
 exact zeG x r ad _ cap w c6
theorem zj8 {w:World}{col:Col}{o x:Nat}{K:RefC}{c:Clu}(h:RefAt w col o x K c) :
  Calls Tryz.prog 38 #[.pointer (some ⟨x,0,none⟩)] w fun e w' => e = .returned (.int .i64 c.net.length)∧w' = w:=by
 obtain ⟨ad,cap,hv,_⟩:=h.net.form
 have c6:=h.cells.2.2.2.2.2.2.1
 have hl:K.ns.length=c.net.length:=by rw [← h.nets,List.length_map]
 rw [hv,hl] at c6
 exact zj9 x ad _ cap w c6
theorem zkv {w:World}{col:Col}{o x:Nat}{K:RefC}{c:Clu}(h:RefAt w col o x K c)(_h6:c.reps.length≤6)(r:Int) :
  Calls Tryz.prog 70 #[.pointer (some ⟨x,0,none⟩),.int .i64 r] w fun e w' => e = .returned (.int .i64 (c.works r))∧w' = w:=by
 have HT:=zkr h r
 cases ht:c.there r
 ·rw [ht] at HT
  go_enter Tryz.func70,Tryz.ntmps70
  go_wp2_with fail
  refine HT.mono ?_
  rintro e w' ⟨rfl,rfl⟩
  go_wp2
  go_ret
  exact ⟨zkM (by unfold Clu.works;rw [ht];rfl),rfl⟩
 ·obtain ⟨h0,hr⟩:=zmw ht
  obtain ⟨n,rfl⟩:∃ n:Nat,r=n:=⟨r.toNat,by omega⟩
  simp only [Int.toNat_natCast] at hr
  obtain ⟨g,cap,D,hv,hc,hD,hp,hR⟩:=h.ptr hr
  have c5:=h.cells.2.2.2.2.2.1
  rw [hv] at c5
  have d0:=hR.cells.1
  have HW:Hid (c.works (n:Int)=if (c.rep n).down then 8 else 0):=by unfold Clu.works Hid;rw [ht];simp
  rw [ht] at HT
  clear h hR ht
  generalize (c.rep n).down=dn at *
  generalize c.reps.length=L at *
  have q1:(n:Int)<(L:Int):=by omega
  cases dn
  ·go_enter Tryz.func70,Tryz.ntmps70
   go_wp2_with fail
   refine HT.mono ?_
   rintro e w' ⟨rfl,rfl⟩
   go_wp2
   go_ret
   exact ⟨zkM (by rw [HW.out];rfl),rfl⟩
  ·go_enter Tryz.func70,Tryz.ntmps70
   go_wp2_with fail
   refine HT.mono ?_
   rintro e w' ⟨rfl,rfl⟩
   go_wp2
   go_ret
   exact ⟨zkM (by rw [HW.out];rfl),rfl⟩
open Go.RowKit Go.MuLone
theorem zaQ {w w2:World}{x:Nat}(h:w.cell? ⟨x,0,none⟩=some (.int .i32 0))(hb:Below w.heap.size (w.setCell ⟨x,0,none⟩ (.int .i32 1)) w2):Below w.heap.size w (w2.setCell ⟨x,0,none⟩ (.int .i32 0)):=by
 have g1:=zet w ⟨x,0,none⟩ (.int .i32 1)
 have g2:=zet w2 ⟨x,0,none⟩ (.int .i32 0)
 obtain ⟨cs,e,fz,hx,h0⟩:=Go.Sort.cells_of_cell? h
 have hlt:x<w.heap.size:=(Array.getElem?_eq_some_iff.1 hx).1
 refine ⟨g2.os.trans (hb.os.trans g1.os),g2.tape.trans (hb.tape.trans g1.tape),g2.output.trans (hb.output.trans g1.output),Nat.le_trans (Nat.le_trans g1.size hb.size) g2.size,fun k hk => ?_⟩
 by_cases hkx:k=x
 ·subst hkx
  have h1:w2.heap[k]? = some (.cells (cs.setIfInBounds 0 (.int .i32 1)) e fz):=by
   rw [hb.block k hk]
   exact zeK hx _
  rw [zeK h1,hx]
  have:(cs.setIfInBounds 0 (Value.int .i32 1)).setIfInBounds 0 (.int .i32 0)=cs:=by
   apply Array.ext_getElem?
   intro i
   by_cases hi:i=0
   ·subst hi
    rw [h0]
    have:0<cs.size:=(Array.getElem?_eq_some_iff.1 h0).1
    simp [this]
   ·simp [Ne.symm hi]
  rw [this]
 ·have n1:some k ≠ some (⟨x,0,none⟩:Addr).block:=fun e=>hkx (by cases e;rfl)
  rw [g2.block k (Nat.lt_of_lt_of_le hk (Nat.le_trans g1.size hb.size)) n1,hb.block k hk]
  exact g1.block k hk n1
set_option maxRecDepth 100000 in
theorem zhs (x:Nat)(r:Int)(ad:Option Addr)(n cap:Nat)(w:World)(c41:w.cell? ⟨x,41,none⟩=some (.slice ad n cap))(hr:¬ (0≤r∧r<n)) :
  Calls Tryz.prog 71 #[.pointer (some ⟨x,0,none⟩),.int .i64 r] w fun e w' => e = .returned (.tuple #[.pointer none,.int .i64 5])∧w' = w:=by
 go_enter Tryz.func71,Tryz.ntmps71
 by_cases h0:r<0
 ·go_wp2
  go_ret2
  exact ⟨rfl,rfl⟩
 ·have q1:(n:Int)≤r:=by omega
  have q0:0≤r:=by omega
  go_wp2
  go_ret2
  exact ⟨rfl,rfl⟩
set_option maxRecDepth 100000 in
theorem zht (x R i n cap:Nat)(w:World)(c41:w.cell? ⟨x,41,none⟩=some (.slice (some ⟨R,0,none⟩) n cap))(hi:i<n) :
  Calls Tryz.prog 71 #[.pointer (some ⟨x,0,none⟩),.int .i64 i] w fun e w' => e = .returned (.tuple #[.pointer (some ⟨R,i*14,none⟩),.int .i64 0])∧w' = w:=by
 have q1:(i:Int)<(n:Int):=by omega
 have q0:(0:Int)≤(i:Int):=by omega
 go_enter Tryz.func71,Tryz.ntmps71
 go_wp2
 go_ret2
 exact ⟨by simp,rfl⟩
structure ClAt (w:World)(x R n cap:Nat):Prop where
 c0:w.cell? ⟨x,0,none⟩=some (.int .i32 0)
 f0:w.frozen? ⟨x,0,none⟩=false
 c41:w.cell? ⟨x,41,none⟩=some (.slice (some ⟨R,0,none⟩) n cap)
 xR:x ≠ R
 cap:n≤cap
theorem ClAt.lt {w:World}{x R n cap:Nat}(h:ClAt w x R n cap):x<w.heap.size:=by
 obtain ⟨cs,e,fz,hx,_⟩:=Go.Sort.cells_of_cell? h.c0
 exact (Array.getElem?_eq_some_iff.1 hx).1
theorem ClAt.l41 {w:World}{x R n cap:Nat}(h:ClAt w x R n cap):(w.setCell ⟨x,0,none⟩ (.int .i32 1)).cell? ⟨x,41,none⟩=some (.slice (some ⟨R,0,none⟩) n cap) :=
 (World.cell?_setCell_other _ ⟨x,0,none⟩ ⟨x,41,none⟩ _ (by simp)).trans h.c41
theorem ClAt.lR {w:World}{x R n cap k:Nat}{v:Value}(h:ClAt w x R n cap)(hv:w.cell? ⟨R,k,none⟩=some v):(w.setCell ⟨x,0,none⟩ (.int .i32 1)).cell? ⟨R,k,none⟩=some v :=
 (World.cell?_setCell_other _ ⟨x,0,none⟩ ⟨R,k,none⟩ _ (fun e=>h.xR (by cases e;rfl))).trans hv
theorem zgb (w:World)(x:Nat):(w.setCell ⟨x,0,none⟩ (.int .i32 1)).heap.size=w.heap.size:=by simp
theorem ClAt.unlock {w w2:World}{x R n cap:Nat}(h:ClAt w x R n cap)(hb:Below w.heap.size (w.setCell ⟨x,0,none⟩ (.int .i32 1)) w2):w2.cell? ⟨x,0,none⟩=some (.int .i32 1)∧w2.frozen? ⟨x,0,none⟩=false∧Below w.heap.size w (w2.setCell ⟨x,0,none⟩ (.int .i32 0)):=by
 refine ⟨?_,?_,zaQ h.c0 hb⟩
 ·rw [hb.cell (p:=⟨x,0,none⟩) h.lt]
  exact World.cell?_setCell_same _ _ _ h.c0
 ·rw [hb.frozen (p:=⟨x,0,none⟩) h.lt,World.frozen?_setCell]
  exact h.f0
theorem ClAt.below {w w' : World}{x R n cap:Nat}{B:Nat}(h:ClAt w x R n cap)(hb:Below B w w')(hx:x<B):ClAt w' x R n cap :=
 ⟨by rw [hb.cell (p:=⟨x,0,none⟩) hx];exact h.c0,by rw [hb.frozen (p:=⟨x,0,none⟩) hx];exact h.f0,by rw [hb.cell (p:=⟨x,41,none⟩) hx];exact h.c41,h.xR,h.cap⟩
set_option maxRecDepth 100000 in
theorem zna (x:Nat)(r:Int)(ad:Option Addr)(n cap:Nat)(w:World)(c41:w.cell? ⟨x,41,none⟩=some (.slice ad n cap))(hr:¬ (0≤r∧r<n)) :
  Calls Tryz.prog 68 #[.pointer (some ⟨x,0,none⟩),.int .i64 r] w fun e w' => e = .returned (.tuple #[.pointer none,.int .i64 5])∧w' = w:=by
 go_enter Tryz.func68,Tryz.ntmps68
 go_wp2_with fail
 refine (zhs x r ad n cap w c41 hr).mono ?_
 rintro e w1 ⟨rfl,rfl⟩
 go_wp2
 go_ret2
 exact ⟨rfl,rfl⟩
set_option maxRecDepth 100000 in
theorem znb (x R i n cap:Nat)(up:Bool)(w:World)(c41:w.cell? ⟨x,41,none⟩=some (.slice (some ⟨R,0,none⟩) n cap))(hi:i<n)(hup:w.cell? ⟨R,i*14,none⟩=some (.bool up)) :
  Calls Tryz.prog 68 #[.pointer (some ⟨x,0,none⟩),.int .i64 i] w fun e w' => e = .returned (.tuple #[.pointer (if up then some ⟨R,i*14,none⟩ else none),.int .i64 (if up then 0 else 8)])∧w' = w:=by
 go_enter Tryz.func68,Tryz.ntmps68
 go_wp2_with fail
 refine (zht x R i n cap w c41 hi).mono ?_
 rintro e w1 ⟨rfl,rfl⟩
 cases up
 ·go_wp2
  go_ret2
  exact ⟨rfl,rfl⟩
 ·go_wp2
  go_ret2
  exact ⟨rfl,rfl⟩
set_option maxRecDepth 100000 in
theorem zi1 (x R n cap:Nat)(ad:Option Addr)(m cp:Nat)(w:World)(h:ClAt w x R n cap)(c42:w.cell? ⟨x,42,none⟩=some (.slice ad m cp)) :
  Calls Tryz.prog 12 #[.pointer (some ⟨x,0,none⟩)] w fun e w' => e = .returned (.int .i64 m)∧Below w.heap.size w w' := by
 have k42:(w.setCell ⟨x,0,none⟩ (.int .i32 1)).cell? ⟨x,42,none⟩=some (.slice ad m cp):=(World.cell?_setCell_other _ ⟨x,0,none⟩ ⟨x,42,none⟩ _ (by simp)).trans c42
 go_enter_defers Tryz.func12,Tryz.ntmps12
 go_wp2_with (go_at_call 44;refine (lock_free zgD ⟨x,0,none⟩ _ h.c0 h.f0).mono ?_;rintro e w' ⟨rfl,rfl⟩)
 refine leaves_cons (f:=45) (args:=#[.pointer (some ⟨x,0,none⟩)]) (by simp) (by simp [go_sem]) ?_
 obtain ⟨u0,u1,u2⟩:=h.unlock (w2:=_) (Below.refl _ _)
 refine (unlock_deferred zgD ⟨x,0,none⟩ .returning _ u0 u1).mono ?_
 rintro e u' w'' ⟨rfl,rfl,rfl⟩
 exact ⟨_,results_tmp rfl _ _ _,rfl,u2⟩
end Go.Proofs.YtahdlejgjcjeoabGreatDoor
