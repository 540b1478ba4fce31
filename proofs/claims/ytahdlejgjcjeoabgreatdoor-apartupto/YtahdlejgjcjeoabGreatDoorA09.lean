/- Walk of the program's fall. -/
import Derived.Test.YtahdlejgjcjeoabGreatDoorA02
import Derived.Test.YtahdlejgjcjeoabGreatDoorA08
import Derived.Test.YtahdlejgjcjeoabGreatDoorA01
import Derived.Test.YtahdlejgjcjeoabGreatDoorA03
import Derived.Test.YtahdlejgjcjeoabGreatDoorA07
namespace Go.Proofs.YtahdlejgjcjeoabGreatDoor
set_option maxHeartbeats 8000000
open Go.RowKit Go.ChangeShapes Go.WideShapes
theorem zbz:Tryz.prog.cellsOf 55=2:=by kernel_rfl
theorem zbF:Tryz.prog.cellsOf 22=1:=by kernel_rfl
theorem cellsC:Tryz.prog.cellsOf 24=5:=by kernel_rfl
def edgeD {H:Type}(p:Int × Int):DataW H := .agg [.lit (.int .i64 p.1),.lit (.int .i64 p.2)]
set_option maxRecDepth 100000 in
theorem zhC {H:Type}{en:TypeId × Value→H}{w:World}{base:Nat}{sp:Nat→Bool}{held:Bool}{fuel:Nat}{cs:List Value}{x:DataW H × List MemPlace}
  (h:DataW.trod en Tryz.prog w base sp held fuel 55 cs=some x):∃ p:Int × Int,cs = [.int .i64 p.1,.int .i64 p.2]∧x=(edgeD p,[]):=by
 obtain ⟨xs,n,-,rfl,hl,hxl,hf⟩:=DataW.trod_struct Tryz.underlying55 h
 rw [zbz] at hl
 have h0:=hf 0 _ rfl
 have h1:=hf 1 _ rfl
 match cs,hl,xs,hxl with
 | [v0,v1],_,[x0,x1],_ =>
  have g0:DataW.trod en Tryz.prog w base sp held n 3 [v0]=some x0:=by simpa [zbA] using h0
  have g1:DataW.trod en Tryz.prog w base sp held n 3 [v1]=some x1:=by simpa [zbA] using h1
  obtain ⟨n0,e0,rfl,-⟩:=DataW.trod_int Tryz.underlying3 g0
  obtain ⟨n1,e1,rfl,-⟩:=DataW.trod_int Tryz.underlying3 g1
  simp only [List.cons.injEq,and_true] at e0 e1
  subst e0 e1
  exact ⟨(n0,n1),rfl,rfl⟩
theorem zbd {H:Type}:∀ l:List (DataW H),(∀ d∈l,∃ p,d=edgeD p)→l.length≤Rows.uptoBulkAll l
 | [],_=>Nat.zero_le _
 | x :: r,h=>by
  obtain ⟨a,rfl⟩:=h x (by simp)
  have:=zbd r (fun d hd=>h d (by simp [hd]))
  simp only [Rows.uptoBulkAll,List.length_cons]
  have:1≤Rows.uptoBulk (edgeD (H:=H) a):=by simp [edgeD,Rows.uptoBulk]
  omega
set_option maxRecDepth 100000 in
theorem zhD {H:Type}{en:TypeId × Value→H}{w:World}{fuel:Nat}{v:Value}{x:DataW H × List MemPlace}
  (hf:DataW.trod en Tryz.prog w 0 (fun _=>true) true fuel 22 [v]=some x) (hk:Rows.uptoBulk x.1≤1048576) :
  ∃ es,EdgesOf w v es∧es.length≤1048576:=by
 rcases DataW.trod_slice Tryz.underlying22 hf with ⟨hc,-⟩ | ⟨a,len,cap,elems,rest,n,-,hc,hx,-,hl,-,hlen,hel,-,-⟩
 ·simp at hc
  subst hc
  exact ⟨[],⟨none,0,rfl,Nat.le_refl _,fun h=>by simp at h⟩,by simp⟩
 ·simp at hc
  subst hc
  subst hx
  have each:∀ i,i<len→∃ p:Int × Int,w.cells? 0 (a.add (i*2)) 2=some [.int .i64 p.1,.int .i64 p.2]∧elems[i]? = some (edgeD p,[]):=by
   intro i hi
   have h1:=hel i hi
   rw [zbz] at h1
   rw [List.getElem?_eq_getElem (by omega),Option.bind_eq_some_iff] at h1
   obtain ⟨cs,hcs,ht⟩:=h1
   obtain ⟨p,rfl,hx⟩:=zhC ht
   exact ⟨p,hcs,by rw [List.getElem?_eq_getElem (by omega),hx]⟩
  obtain ⟨l,hll,hq⟩:=zf8 len each
  have hall:∀ y∈elems.map (·.1),∃ p,y=edgeD p:=by
   intro y hy
   obtain ⟨i,hi⟩:=List.getElem?_of_mem hy
   have hi' : i<l.length:=by
    have:=(List.getElem?_eq_some_iff.1 hi).1
    simp at this
    omega
   have:=(hq i hi').2
   rw [List.getElem?_map,this] at hi
   simp at hi
   exact ⟨l[i],hi.symm⟩
  have hlen2:l.length≤1048576:=by
   have:=zbd (elems.map (·.1)) hall
   rw [List.length_map] at this
   simp only [Rows.uptoBulk] at hk
   omega
  refine ⟨l,⟨some a,cap,by rw [hll],by omega,fun hp => ?_⟩,hlen2⟩
  have cell:∀ (k:Nat) (h:k<l.length) (j:Nat),j<2→w.cell? ((a.add (k*2)).add j)=([.int .i64 l[k].1,.int .i64 l[k].2]:List Value)[j]? := fun k h j hj=>(World.cells?_some (hq k h).1).2.2 j hj
  obtain ⟨b,off,spot⟩:=a
  have c0:w.cell? ⟨b,off,spot⟩=some (.int .i64 (l[0]'hp).1):=cell 0 hp 0 (by decide)
  have hspot:spot=none:=by
   cases spot with
   | none=>rfl
   | some q =>
    unfold World.cell? at c0
    split at c0 <;> simp at c0
  subst hspot
  refine ⟨b,off,rfl,?_,?_⟩
  ·have:w.heap[b]? ≠ none:=by
    intro hn
    unfold World.cell? at c0
    rw [hn] at c0
    simp at c0
   have:=mt Array.getElem?_eq_none this
   omega
  ·intro k h
   have hadd:∀ j,((⟨b,off,none⟩:Addr).add (k*2)).add j=⟨b,off+k*2+j,none⟩:=by
    intro j
    unfold Addr.add
    repeat' split
    all_goals simp_all
   refine ⟨?_,?_⟩
   ·have:=cell k h 0 (by decide);rw [hadd] at this;exact this
   ·have:=cell k h 1 (by decide);rw [hadd] at this;exact this
set_option maxRecDepth 100000 in
theorem zhB {H:Type}{en:TypeId × Value→H}{w:World}{r:Reach}{b0:Nat}{v:Value}{d:DataW H}{ps:List MemPlace}
  (hval:Value.okWide Tryz.prog w r b0 24 v) (hd:DataW.Trod en Tryz.prog w 0 (fun _=>true) true 24 v d ps) (hk:Rows.uptoBulk d≤1048576) :
  ∃ (reps room:Int) (bp rr:Bool) (vE:Value) (es:List (Int × Int)),v = .agg #[.int .i64 reps,vE,.bool bp,.bool rr,.int .i64 room]∧EdgesOf w vE es∧es.length≤1048576:=by
 have hag:∃ cs,v = .agg cs:=by
  unfold Value.okWide at hval
  rw [Tryz.underlying24] at hval
  obtain ⟨cs,rfl,_⟩:=hval
  exact ⟨cs,rfl⟩
 obtain ⟨ca,rfl⟩:=hag
 obtain ⟨fuel,hf⟩:=hd
 obtain ⟨xs,n,-,hx,hl,hxl,hfs⟩:=DataW.trod_struct Tryz.underlying24 hf
 rw [cellsC] at hl
 have h0:=hfs 0 _ rfl
 have h1:=hfs 1 _ rfl
 have h2:=hfs 2 _ rfl
 have h3:=hfs 3 _ rfl
 have h4:=hfs 4 _ rfl
 obtain ⟨cs⟩:=ca
 simp only [Value.cells] at hl h0 h1 h2 h3 h4
 match cs,hl,xs,hxl with
 | [v0,v1,v2,v3,v4],_,[x0,x1,x2,x3,x4],_ =>
  have g0:DataW.trod en Tryz.prog w 0 (fun _=>true) true n 3 [v0]=some x0:=by simpa [zbA] using h0
  have g1:DataW.trod en Tryz.prog w 0 (fun _=>true) true n 22 [v1]=some x1:=by simpa [zbF] using h1
  have g2:DataW.trod en Tryz.prog w 0 (fun _=>true) true n 4 [v2]=some x2:=by simpa [zby] using h2
  have g3:DataW.trod en Tryz.prog w 0 (fun _=>true) true n 4 [v3]=some x3:=by simpa [zby] using h3
  have g4:DataW.trod en Tryz.prog w 0 (fun _=>true) true n 3 [v4]=some x4:=by simpa [zbA] using h4
  have hb1:Rows.uptoBulk x1.1≤1048576:=by
   have hd:d = .agg ([x0,x1,x2,x3,x4].map (·.1)):=by
    have:=congrArg Prod.fst hx
    exact this
   rw [hd] at hk
   simp only [Rows.uptoBulk,Rows.uptoBulkAll,List.map_cons,List.map_nil] at hk
   omega
  obtain ⟨n0,e0,-,-⟩:=DataW.trod_int Tryz.underlying3 g0
  obtain ⟨n2,e2,-⟩:=DataW.trod_bool Tryz.underlying4 g2
  obtain ⟨n3,e3,-⟩:=DataW.trod_bool Tryz.underlying4 g3
  obtain ⟨n4,e4,-,-⟩:=DataW.trod_int Tryz.underlying3 g4
  obtain ⟨es,he,hel⟩:=zhD g1 hb1
  simp only [List.cons.injEq,and_true] at e0 e2 e3 e4
  subst e0 e2 e3 e4
  exact ⟨n0,n4,n2,n3,v1,es,rfl,he,hel⟩
theorem zkV {W : World} (h : laidMetH Tryz.prog [("ripple/state.steps", Rows.laid_ripple_state_steps), ("ripple/state.rules", Rows.laid_ripple_state_rules)] W) : RulesAt W := by
 have h' : laidMet Tryz.prog [("ripple/state.steps", Rows.laid_ripple_state_steps), ("ripple/state.rules", Rows.laid_ripple_state_rules)] W := h
 obtain ⟨ps,⟨g,t,cs,fuel,p,q,hg,ht,hvar,hd,hrest,rfl⟩,hnd,hall⟩:=h'
 refine zkU (show laidMet Tryz.prog [("ripple/state.rules", Rows.laid_ripple_state_rules)] W from ⟨q, hrest, (List.nodup_append.1 hnd).2.1, fun b off hm => hall b off (List.mem_append.2 (.inr hm))⟩)
open Go.RowKit
def OpV.val (o:OpV):Value := .agg #[.int .i64 o.ty,.string o.key,.int .i64 o.side,.string o.elem,.int .i64 o.n]
def OpV.short (o:OpV):Prop:=o.key.size≤281474976710656∧o.elem.size≤281474976710656
theorem zmK (s:ByteArray):s.toList = [] ↔ s.size=0:=by rw [← List.isEmpty_iff,zfr]
theorem zj7 (o:OpV)(w:World)(ho:o.short) :
  Calls Tryz.prog 112 #[o.val] w fun e w' => e = .returned (.bool (fineOp o))∧Below w.heap.size w w' := by
 obtain ⟨ty,key,side,elem,n⟩:=o
 simp only [OpV.short] at ho
 obtain ⟨hk,he⟩:=ho
 unfold OpV.val
 simp only
 go_enter Tryz.func112,Tryz.ntmps112
 go_wp2
 all_goals
  go_ret
  refine ⟨zkL ?_,by repeat (first | exact Below.refl _ _ | refine below_drewN ?_ _ | refine Below.alloc ?_ (by simp) _)⟩
 all_goals go_light
 all_goals rw [Bool.eq_iff_iff]
 all_goals simp only [fineOp,decide_eq_true_eq,beq_iff_eq,beq_eq_false_iff_ne,ne_eq,Bool.false_eq_true,zmK,false_iff] at *
 all_goals first | omega | (simp_all;try omega;done)
structure ActV where
 k:Int
 r:Int
 q:Int
 n:Int
 op:OpV
 key:ByteArray
def ActV.cells (a:ActV):List Value := [.int .i64 a.k,.int .i64 a.r,.int .i64 a.q,.int .i64 a.n,.int .i64 a.op.ty,.string a.op.key,.int .i64 a.op.side,.string a.op.elem,.int .i64 a.op.n,.string a.key]
def ActV.val (a:ActV):Value := .agg #[.int .i64 a.k,.int .i64 a.r,.int .i64 a.q,.int .i64 a.n,.int .i64 a.op.ty,.string a.op.key,.int .i64 a.op.side,.string a.op.elem,.int .i64 a.op.n,.string a.key]
def i64r (x:Int):Prop := -9223372036854775808≤x∧x≤9223372036854775807
structure ActV.rng (a:ActV):Prop where
 n:i64r a.n
 r:i64r a.r
 q:i64r a.q
 ty:i64r a.op.ty
 sd:i64r a.op.side
 on:i64r a.op.n
structure ActV.fit (a:ActV):Prop where
 op:a.op.short
 n0 : -9223372036854775808≤a.n
 n1:a.n≤9223372036854775807
 key:a.key.size≤1099511627776
 rng:a.rng
def actB (k r q n ty:Int)(ky:ByteArray)(sd:Int)(el:ByteArray)(on:Int)(key:ByteArray):Obj := .cells #[.int .i64 k,.int .i64 r,.int .i64 q,.int .i64 n,.int .i64 ty,.string ky,.int .i64 sd,.string el,.int .i64 on,.string key] 33 (0,0)
def ActsOf (w:World)(v:Value)(l:List ActV):Prop :=
 ∃ ad cap,v = .slice ad l.length cap∧l.length≤cap∧(0<l.length→∃ b off,ad=some ⟨b,off,none⟩∧b<w.heap.size∧∀ i (h:i<l.length) j u,(l[i]).cells[j]? = some u→w.cell? ⟨b,off+i*10+j,none⟩=some u)
theorem ActsOf.below {w w' : World}{v:Value}{l:List ActV}(h:ActsOf w v l)(hb:Below w.heap.size w w'):ActsOf w' v l:=by
 obtain ⟨ad,cap,rfl,hc,H⟩:=h
 refine ⟨ad,cap,rfl,hc,fun h0 => ?_⟩
 obtain ⟨b,off,rfl,hlt,hrow⟩:=H h0
 exact ⟨b,off,rfl,Nat.lt_of_lt_of_le hlt hb.size,fun i hi j u hu=>(hb.cell (p:=⟨b,_,none⟩) hlt).trans (hrow i hi j u hu)⟩
theorem ActsOf.nth {w:World}{v:Value}{l:List ActV}(h:ActsOf w v l)(i:Nat)(hi:i<l.length):∃ b off cap,v = .slice (some ⟨b,off,none⟩) l.length cap∧b<w.heap.size ∧
  w.cell? ⟨b,off+i*10,none⟩=some (.int .i64 l[i].k)∧w.cell? ⟨b,off+i*10+1,none⟩=some (.int .i64 l[i].r)∧w.cell? ⟨b,off+i*10+2,none⟩=some (.int .i64 l[i].q)∧w.cell? ⟨b,off+i*10+3,none⟩=some (.int .i64 l[i].n)∧w.cell? ⟨b,off+i*10+4,none⟩=some (.int .i64 l[i].op.ty)∧w.cell? ⟨b,off+i*10+5,none⟩=some (.string l[i].op.key)∧w.cell? ⟨b,off+i*10+6,none⟩=some (.int .i64 l[i].op.side)∧w.cell? ⟨b,off+i*10+7,none⟩=some (.string l[i].op.elem)∧w.cell? ⟨b,off+i*10+8,none⟩=some (.int .i64 l[i].op.n)∧w.cell? ⟨b,off+i*10+9,none⟩=some (.string l[i].key):=by
 obtain ⟨ad,cap,rfl,-,H⟩:=h
 obtain ⟨b,off,rfl,hlt,hrow⟩:=H (by omega)
 exact ⟨b,off,cap,rfl,hlt,hrow i hi 0 _ rfl,hrow i hi 1 _ rfl,hrow i hi 2 _ rfl,hrow i hi 3 _ rfl,hrow i hi 4 _ rfl,hrow i hi 5 _ rfl,hrow i hi 6 _ rfl,hrow i hi 7 _ rfl,hrow i hi 8 _ rfl,hrow i hi 9 _ rfl⟩
theorem zeT {p:Prop}(h:p):Hid p:=h
structure Pe where
 num:Nat
 org:Nat
 v:Value
 d:List At
def Pe.cells (e:Pe):List Value := [.int .i64 e.num,.int .i64 e.org,e.v]
def Pe.ent (e:Pe):Ent:=⟨e.num,e.org,e.d⟩
theorem Pe.cells_length (e:Pe):e.cells.length=3:=rfl
structure PrD where
 up:Bool
 num:Nat
 base:Nat
 b:Nat
 n:Nat
 M:Sl→Option Gr
 vb:Value
 es:List Pe
 ak:Nat→Nat
 vl:Value
 bytes:List UInt8
 frames:Nat
 weight:Nat
def PrD.cells (D:PrD):List Value := [.bool D.up,.int .i64 D.num,.int .i64 D.base,.map (some D.b),D.vb,.int .i64 (D.ak 0),.int .i64 (D.ak 1),.int .i64 (D.ak 2),.int .i64 (D.ak 3),.int .i64 (D.ak 4),.int .i64 (D.ak 5),D.vl,.int .i64 D.frames,.int .i64 D.weight]
theorem PrD.cells_length (D:PrD):D.cells.length=14:=rfl
structure PrRep (w:World)(col:Col)(o i:Nat)(D:PrD):Prop where
 st:StMap w D.b D.n D.M
 cb:col D.b=(o,10+i)
 buf:RowC w col (o,20+i) 85 3 D.vb D.es.length (D.es.flatMap Pe.cells)
 ed:∀ e∈D.es,Held w col (o,1) e.v e.d
 log:RowC w col (o,50+i) 5 1 D.vl D.bytes.length (bcells D.bytes)
theorem StMap.block {w w' : World}{b n:Nat}{M:Sl→Option Gr}(h:StMap w b n M)(hb:w'.heap[b]? = w.heap[b]?):StMap w' b n M:=by
 obtain ⟨D,⟨es,clock,h1,h2⟩,h3⟩:=h
 exact ⟨D,⟨es,clock,hb.trans h1,h2⟩,h3⟩
theorem PrRep.kept {w w' : World}{col col' : Col}{S:Nat × Nat→Prop}{o i:Nat}{D:PrD}(h:PrRep w col o i D)(hf:FrC S col col' w w')(h1:¬ S (o,1))(h2:¬ S (o,10+i))(h3:¬ S (o,20+i))(h4:¬ S (o,50+i)):PrRep w' col' o i D where
 st:=h.st.block (hf.fr.block _ h.st.lt (by rw [h.cb];exact h2))
 cb:=(hf.col _ h.st.lt).trans h.cb
 buf:=h.buf.kept hf h3
 ed e he:=(h.ed e he).kept hf h1
 log:=h.log.kept hf h4
structure PrK where
 lk:Int
 bp:Bool
 rr:Bool
 room:Nat
 near:Nat→Nat→Bool
 R:Nat
 vF:Value
 Ds:List PrD
 ns:List Fm
def PrK.block (K:PrK):List Value := [.int .i32 K.lk,.int .u32 0,.bool K.bp,.bool K.rr,.int .i64 K.room] ++ (linkB K.near ++ [.slice (some ⟨K.R,0,none⟩) K.Ds.length K.Ds.length,K.vF])
def PrK.setD (K:PrK)(i:Nat)(D:PrD):PrK:={ K with Ds:=K.Ds.set i D }
structure PrB (w:World)(col:Col)(o x:Nat)(ex:Option Nat)(K:PrK):Prop where
 blk:w.heap[x]? = some (.cells K.block.toArray 108 (0,0))
 cx:col x=(o,0)
 row:w.heap[K.R]? = some (.cells (K.Ds.flatMap PrD.cells).toArray 126 (0,0))
 cR:col K.R=(o,2)
 net:RowC w col (o,3) 110 5 K.vF K.ns.length (K.ns.flatMap Fm.cells)
 netd:∀ f∈K.ns,Held w col (o,1) f.v f.f.d
 reps:∀ i (h:i<K.Ds.length),some i ≠ ex→PrRep w col o i K.Ds[i]
abbrev PrAt (w:World) (col:Col) (o x:Nat) (K:PrK):Prop:=PrB w col o x none K
theorem PrB.kept {w w' : World}{col col' : Col}{S:Nat × Nat→Prop}{o x:Nat}{ex:Option Nat}{K:PrK}(h:PrB w col o x ex K)(hf:FrC S col col' w w')(h4:∀ k,k<4→¬ S (o,k))(hS:∀ i,i<K.Ds.length→some i ≠ ex→∀ k,k=1∨k=2∨k=5→¬ S (o,k*10+i)):PrB w' col' o x ex K where
 blk:=hf.block h.blk (by rw [h.cx];exact h4 0 (by omega))
 cx:=(hf.colB h.blk).trans h.cx
 row:=hf.block h.row (by rw [h.cR];exact h4 2 (by omega))
 cR:=(hf.colB h.row).trans h.cR
 net:=h.net.kept hf (h4 3 (by omega))
 netd f hm:=(h.netd f hm).kept hf (h4 1 (by omega))
 reps i hi hne:=(h.reps i hi hne).kept hf (h4 1 (by omega)) (hS i hi hne 1 (by omega)) (hS i hi hne 2 (by omega)) (hS i hi hne 5 (by omega))
theorem PrB.far {w w' : World}{col col' : Col}{S:Nat × Nat→Prop}{o x:Nat}{ex:Option Nat}{K:PrK}(h:PrB w col o x ex K)(hf:FrC S col col' w w')(hS:∀ k,¬ S (o,k)):PrB w' col' o x ex K:=h.kept hf (fun k _=>hS k) fun _ _ _ _ _=>hS _
theorem PrB.below {w w' : World}{col:Col}{o x:Nat}{ex:Option Nat}{K:PrK}(h:PrB w col o x ex K)(hb:Below w.heap.size w w')(κ:Nat × Nat):PrB w' (paint col w.heap.size κ) o x ex K:=h.far (S:=fun _=>False) (zdH hb κ) fun _=>id
theorem PrB.same {w w' : World}{col:Col}{o x:Nat}{ex:Option Nat}{K:PrK}(h:PrB w col o x ex K)(hb:Below w.heap.size w w'):PrB w' col o x ex K:=h.far (S:=fun _=>False) (zdJ hb) fun _=>id
theorem PrB.rest {w w' : World}{col col' : Col}{o x i:Nat}{K:PrK}(h:PrB w col o x (some i) K)(h6:K.Ds.length≤6)(hi:i<K.Ds.length)(hf:FrC (ofRep o i) col col' w w'):PrB w' col' o x (some i) K :=
 h.kept hf (fun k hk=>by unfold ofRep;simp only;omega) fun j hj hne k hk=>by
  have:j ≠ i:=fun e=>hne (by rw [e])
  unfold ofRep
  simp only
  omega
theorem PrB.open {w:World}{col:Col}{o x i:Nat}{K:PrK}(h:PrAt w col o x K)(hi:i<K.Ds.length):PrB w col o x (some i) K∧PrRep w col o i K.Ds[i] :=
 ⟨⟨h.blk,h.cx,h.row,h.cR,h.net,h.netd,fun j hj _=>h.reps j hj (by simp)⟩,h.reps i hi (by simp)⟩
theorem PrB.close {w:World}{col:Col}{o x i:Nat}{K:PrK}(h:PrB w col o x (some i) K)(hp:∀ hi:i<K.Ds.length,PrRep w col o i K.Ds[i]):PrAt w col o x K :=
 ⟨h.blk,h.cx,h.row,h.cR,h.net,h.netd,fun j hj _=>by
  by_cases e:j=i
  ·subst e;exact hp hj
  ·exact h.reps j hj (fun e' => e (Option.some.inj e'))⟩
theorem PrB.xR {w:World}{col:Col}{o x:Nat}{ex:Option Nat}{K:PrK}(h:PrB w col o x ex K):x ≠ K.R:=fun e=>by
 have h1:=h.cx
 have h2:=h.cR
 rw [e,h2] at h1
 cases h1
theorem PrK.setD_len (K:PrK)(i:Nat)(D:PrD):(K.setD i D).Ds.length=K.Ds.length:=List.length_set ..
theorem PrK.setD_block (K:PrK)(i:Nat)(D:PrD):(K.setD i D).block=K.block:=by simp [PrK.block,PrK.setD]
theorem PrK.setD_at (K:PrK)(i:Nat)(D:PrD)(h:i<(K.setD i D).Ds.length):(K.setD i D).Ds[i]=D:=List.getElem_set_self ..
theorem PrK.setD_setD (K:PrK)(i:Nat)(D E:PrD):(K.setD i D).setD i E=K.setD i E:=by simp [PrK.setD]
theorem PrB.cell {w:World}{col:Col}{o x:Nat}{ex:Option Nat}{K:PrK}(h:PrB w col o x ex K){i:Nat}(hi:i<K.Ds.length){k:Nat}(hk:k<14){u:Value}(hu:(K.Ds[i]).cells[k]? = some u):w.cell? ⟨K.R,i*14+k,none⟩=some u:=by
 rw [zaX h.row,List.getElem?_toArray,zds PrD.cells 14 PrD.cells_length K.Ds i k hi hk]
 exact hu
theorem PrB.thaw {w:World}{col:Col}{o x:Nat}{ex:Option Nat}{K:PrK}(h:PrB w col o x ex K)(k:Nat):w.frozen? ⟨K.R,k,none⟩=false:=zaZ h.row k
structure Cells14 (w:World)(R i:Nat)(D:PrD):Prop where
 c0:w.cell? ⟨R,i*14,none⟩=some (.bool D.up)
 c1:w.cell? ⟨R,i*14+1,none⟩=some (.int .i64 D.num)
 c2:w.cell? ⟨R,i*14+2,none⟩=some (.int .i64 D.base)
 c3:w.cell? ⟨R,i*14+3,none⟩=some (.map (some D.b))
 c4:w.cell? ⟨R,i*14+4,none⟩=some D.vb
 c11:w.cell? ⟨R,i*14+11,none⟩=some D.vl
 c12:w.cell? ⟨R,i*14+12,none⟩=some (.int .i64 D.frames)
 c13:w.cell? ⟨R,i*14+13,none⟩=some (.int .i64 D.weight)
 fz:∀ k,w.frozen? ⟨R,k,none⟩=false
 ak:∀ q,q<6→w.cell? ⟨R,i*14+(5+q),none⟩=some (.int .i64 (D.ak q))
theorem PrB.cells {w:World}{col:Col}{o x:Nat}{ex:Option Nat}{K:PrK}(h:PrB w col o x ex K){i:Nat}(hi:i<K.Ds.length):Cells14 w K.R i K.Ds[i] where
 c0:=h.cell hi (k:=0) (by omega) rfl
 c1:=h.cell hi (by omega) rfl
 c2:=h.cell hi (by omega) rfl
 c3:=h.cell hi (by omega) rfl
 c4:=h.cell hi (by omega) rfl
 c11:=h.cell hi (by omega) rfl
 c12:=h.cell hi (by omega) rfl
 c13:=h.cell hi (by omega) rfl
 fz:=h.thaw
 ak q hq:=h.cell hi (by omega) (by
  rcases (by omega:q=0∨q=1∨q=2∨q=3∨q=4∨q=5) with rfl | rfl | rfl | rfl | rfl | rfl <;> rfl)
theorem zdu {α:Type}(f:α→List Value)(l:List α)(i:Nat)(a:α)(h:∀ hi:i<l.length,f a=f l[i]):(l.set i a).flatMap f=l.flatMap f:=by
 induction l generalizing i with
 | nil=>rfl
 | cons b l ih =>
  cases i with
  | zero=>simp [h (by simp)]
  | succ i=>simp only [List.set_cons_succ,List.flatMap_cons];rw [ih i (fun hi=>h (Nat.succ_lt_succ hi))]
theorem PrB.as {w:World}{col:Col}{o x i:Nat}{K:PrK}(h:PrB w col o x (some i) K)(D:PrD)(hD:∀ hi:i<K.Ds.length,D.cells=(K.Ds[i]).cells):PrB w col o x (some i) (K.setD i D) where
 blk:=by rw [K.setD_block];exact h.blk
 cx:=h.cx
 row:=by
  show w.heap[K.R]? = some (.cells ((K.Ds.set i D).flatMap PrD.cells).toArray _ _)
  rw [zdu PrD.cells K.Ds i D hD]
  exact h.row
 cR:=h.cR
 net:=h.net
 netd:=h.netd
 reps j hj hne:=by
  have hj' : j<K.Ds.length:=by rw [← K.setD_len i D];exact hj
  have:(K.setD i D).Ds[j]=K.Ds[j]:=List.getElem_set_ne (fun e=>hne (by rw [e])) _
  rw [this]
  exact h.reps j hj' hne
theorem PrB.put {w:World}{col:Col}{o x i k:Nat}{K:PrK}{u:Value}(h:PrB w col o x (some i) K)(hi:i<K.Ds.length)(hk:k<14)(D:PrD)(hD:(K.Ds[i]).cells.set k u=D.cells):PrB (w.setCell ⟨K.R,i*14+k,none⟩ u) col o x (some i) (K.setD i D)∧FrC (fun κ=>κ=(o,2)) col col w (w.setCell ⟨K.R,i*14+k,none⟩ u):=by
 have hf:FrC (fun κ=>κ=(o,2)) col col w (w.setCell ⟨K.R,i*14+k,none⟩ u):=zdK _ u h.cR
 refine ⟨?_,hf⟩
 have n0:∀ j,j ≠ 2→¬ ((o,j)=(o,2)):=fun j hj e=>hj (congrArg Prod.snd e)
 exact {
  blk:=by rw [K.setD_block];exact hf.block h.blk (by rw [h.cx];exact n0 0 (by omega))
  cx:=h.cx
  row:=by
   show _=some (Obj.cells ((K.Ds.set i D).flatMap PrD.cells).toArray _ _)
   rw [← zdv PrD.cells 14 PrD.cells_length K.Ds i k u D hi hk hD,← List.setIfInBounds_toArray]
   exact zeK h.row u
  cR:=h.cR
  net:=h.net.kept hf (n0 3 (by omega))
  netd:=fun f hm=>(h.netd f hm).kept hf (n0 1 (by omega))
  reps:=fun j hj hne=>by
   have hj' : j<K.Ds.length:=by rw [← K.setD_len i D];exact hj
   have:(K.setD i D).Ds[j]=K.Ds[j]:=List.getElem_set_ne (fun e=>hne (by rw [e])) _
   rw [this]
   exact (h.reps j hj' hne).kept hf (n0 1 (by omega)) (n0 _ (by omega)) (n0 _ (by omega)) (n0 _ (by omega)) }
theorem PrB.lock {w:World}{col:Col}{o x:Nat}{ex:Option Nat}{K:PrK}(h:PrB w col o x ex K)(l:Int):PrB (w.setCell ⟨x,0,none⟩ (.int .i32 l)) col o x ex { K with lk:=l }∧FrC (fun κ=>κ=(o,0)) col col w (w.setCell ⟨x,0,none⟩ (.int .i32 l)):=by
 have hf:FrC (fun κ=>κ=(o,0)) col col w (w.setCell ⟨x,0,none⟩ (.int .i32 l)):=zdK _ _ h.cx
 refine ⟨?_,hf⟩
 have n0:∀ j,j ≠ 0→¬ ((o,j)=(o,0)):=fun j hj e=>hj (congrArg Prod.snd e)
 exact {
  blk:=by
   rw [zeK h.blk]
   simp [PrK.block]
  cx:=h.cx
  row:=hf.block h.row (by rw [h.cR];exact n0 2 (by omega))
  cR:=h.cR
  net:=h.net.kept hf (n0 3 (by omega))
  netd:=fun f hm=>(h.netd f hm).kept hf (n0 1 (by omega))
  reps:=fun j hj hne=>(h.reps j hj hne).kept hf (n0 1 (by omega)) (n0 _ (by omega)) (n0 _ (by omega)) (n0 _ (by omega)) }
theorem PrB.cl {w:World}{col:Col}{o x:Nat}{ex:Option Nat}{K:PrK}(h:PrB w col o x ex K) :
  w.cell? ⟨x,0,none⟩=some (.int .i32 K.lk)∧w.cell? ⟨x,2,none⟩=some (.bool K.bp)∧w.cell? ⟨x,3,none⟩=some (.bool K.rr)∧w.cell? ⟨x,4,none⟩=some (.int .i64 K.room)∧w.cell? ⟨x,41,none⟩=some (.slice (some ⟨K.R,0,none⟩) K.Ds.length K.Ds.length)∧w.cell? ⟨x,42,none⟩=some K.vF∧∀ k,w.frozen? ⟨x,k,none⟩=false:=by
 have hl:(linkB K.near).length=36:=by simp [linkB]
 refine ⟨?_,?_,?_,?_,?_,?_,zaZ h.blk⟩ <;> rw [zaX h.blk] <;> simp [PrK.block,hl]
theorem PrB.clAt {w:World}{col:Col}{o x:Nat}{ex:Option Nat}{K:PrK}(h:PrB w col o x ex K)(h0:K.lk=0):ClAt w x K.R K.Ds.length K.Ds.length:=by
 obtain ⟨c0,_,_,_,c41,_,fz⟩:=h.cl
 rw [h0] at c0
 exact ⟨c0,fz 0,c41,h.xR,Nat.le_refl _⟩
structure PrD.is (D:PrD)(p:Rep):Prop where
 up:D.up = !p.down
 num:D.num=p.num
 base:D.base=p.base
 M:D.M=addTo (fun _=>none) p.atoms
 buf:D.es.map Pe.ent=p.buf
 ak:∀ q,q<6→D.ak q=p.acked.getD q 0
 bytes:D.bytes=logBytes p
 frames:D.frames=p.frames
 weight:D.weight=p.weight
structure PrK.is (K:PrK)(c:Clu):Prop where
 lk:K.lk=0
 bp:K.bp=c.bp
 rr:K.rr=c.rr
 room:K.room=c.room
 near:∀ i j,i<6→j<6→K.near i j=c.near i j
 len:K.Ds.length=c.reps.length
 nets:K.ns.map Fm.f=c.net
 reps:∀ i (h:i<K.Ds.length),(K.Ds[i]).is (c.rep i)
theorem PrK.is.set {K:PrK}{c:Clu}{i:Nat}{D:PrD}{p:Rep}(h:K.is c)(hi:i<c.reps.length)(hD:D.is p):(K.setD i D).is (c.setRep i p) where
 lk:=h.lk
 bp:=h.bp
 rr:=h.rr
 room:=h.room
 near:=h.near
 len:=by rw [K.setD_len,h.len];simp [Clu.setRep]
 nets:=h.nets
 reps j hj:=by
  have hj' : j<K.Ds.length:=by rw [← K.setD_len i D];exact hj
  by_cases e:j=i
  ·subst e
   rw [K.setD_at]
   simpa [Clu.rep,Clu.setRep,hi] using hD
  ·have h1:(K.setD i D).Ds[j]=K.Ds[j]:=List.getElem_set_ne (fun e' => e e'.symm) _
   rw [h1]
   have:=h.reps j hj'
   simpa [Clu.rep,Clu.setRep,Ne.symm e] using this
def emptied (w:World)(b clock:Nat):World:={ w with heap:=w.heap.setIfInBounds b (.map #[] clock) }
theorem zbU (b:Nat)(ty:TypeId)(W:World)(es:Array MapEntry)(clock:Nat)(h:W.heap[b]? = some (.map es clock)):(Builtin.clear_ #[122] ty #[.map (some b)]).run Tryz.prog W = .ok (.tuple #[]) (emptied W b clock):=by
 simp [Builtin.clear_,run_underlying Tryz.underlying122,MapKept.run_getObj_map h,MapKept.run_setObj_map _ h,Result.andThen,emptied]
theorem zcM (w:World)(b clock:Nat):w.grownBy (emptied w b clock) (some b):=by
 refine ⟨rfl,rfl,rfl,by simp [emptied],fun k hk hne => ?_⟩
 have:b ≠ k:=fun e=>hne (by rw [e])
 simp [emptied,this]
theorem zcK (w:World)(b clock:Nat)(a:Addr)(h:b ≠ a.block):(emptied w b clock).cell? a=w.cell? a:=by
 have:(emptied w b clock).heap[a.block]? = w.heap[a.block]? := by simp [emptied,h]
 simp [World.cell?,this]
theorem zcL (w:World)(b clock:Nat)(a:Addr)(h:b ≠ a.block):(emptied w b clock).frozen? a=w.frozen? a:=by
 have:(emptied w b clock).heap[a.block]? = w.heap[a.block]? := by simp [emptied,h]
 simp [World.frozen?,this]
theorem zcN {w:World}{b clock:Nat}(h:b<w.heap.size):StMap (emptied w b clock) b 0 (fun _=>none):=by
 refine ⟨.map [],⟨#[],clock,by simp [emptied,h],⟨by simp,?_,by simp⟩,Nat.le_refl _,rfl⟩,fun s _ _=>rfl,fun s g h=>by cases h⟩
 exact MapKept.stamped_empty clock
theorem StMap.heap {w:World}{b n:Nat}{M:Sl→Option Gr}(h:StMap w b n M):∃ es clock,w.heap[b]? = some (.map es clock):=by
 obtain ⟨D,⟨es,clock,h1,_⟩,_⟩:=h
 exact ⟨es,clock,h1⟩
def fall1 (w:World)(R i:Nat):World:=((w.setCell ⟨R,i*14,none⟩ (.bool false)).setCell ⟨R,i*14+1,none⟩ (.int .i64 0)).setCell ⟨R,i*14+2,none⟩ (.int .i64 0)
def fall2 (w:World)(R i:Nat):World:=((((((w.setCell ⟨R,i*14+4,none⟩ (.slice none 0 0)).setCell ⟨R,i*14+5,none⟩ (.int .i64 0)).setCell ⟨R,i*14+5+1,none⟩ (.int .i64 0)).setCell ⟨R,i*14+5+2,none⟩ (.int .i64 0)).setCell ⟨R,i*14+5+3,none⟩ (.int .i64 0)).setCell ⟨R,i*14+5+4,none⟩ (.int .i64 0)).setCell ⟨R,i*14+5+5,none⟩ (.int .i64 0)
set_option maxRecDepth 100000 in
theorem zc2 (R i:Nat)(D:PrD)(w:World)(hc:Cells14 w R i D)(es:Array MapEntry)(clock:Nat)(hm:w.heap[D.b]? = some (.map es clock))(hbR:D.b ≠ R) :
  Calls Tryz.prog 69 #[.pointer (some ⟨R,i*14,none⟩)] w fun e w' => e = .returned (.tuple #[])∧w' = fall2 (emptied (fall1 w R i) D.b clock) R i:=by
 obtain ⟨c0,c1,c2,c3,c4,c11,c12,c13,fz,ak⟩:=hc
 generalize hW1:fall1 w R i=W1
 have hm1:W1.heap[D.b]? = some (.map es clock):=by
  subst hW1
  unfold fall1
  rw [Below.heap_setCell _ _ _ _ hbR,Below.heap_setCell _ _ _ _ hbR,Below.heap_setCell _ _ _ _ hbR]
  exact hm
 have hcl:=fun ty=>zbU D.b ty W1 es clock hm1
 have k4:(emptied W1 D.b clock).cell? ⟨R,i*14+4,none⟩=some D.vb:=by
  rw [zcK _ _ _ _ hbR,← hW1]
  simp [fall1,World.cell?_setCell_other,c4]
 have kf:∀ k,(emptied W1 D.b clock).frozen? ⟨R,k,none⟩=false:=fun k=>by
  rw [zcL _ _ _ _ hbR,← hW1]
  simp [fall1,fz]
 have ka:∀ q,q<6→(emptied W1 D.b clock).cell? ⟨R,i*14+(5+q),none⟩=some (Value.int IntKind.i64 ↑(D.ak q)):=fun q hq=>by
  rw [zcK _ _ _ _ hbR,← hW1]
  unfold fall1
  rw [World.cell?_setCell_other _ _ _ _ (by simp),World.cell?_setCell_other _ _ _ _ (by simp),World.cell?_setCell_other _ _ _ _ (by simp)]
  exact ak q hq
 have ka0:=ka 0 (by omega)
 have ka1:=ka 1 (by omega)
 have ka2:=ka 2 (by omega)
 have ka3:=ka 3 (by omega)
 have ka4:=ka 4 (by omega)
 have ka5:=ka 5 (by omega)
 clear ka hm1
 generalize emptied W1 D.b clock=W2 at *
 subst hW1
 unfold fall1 at hcl
 go_enter Tryz.func69,Tryz.ntmps69
 go_wp2
 go_end0
 exact ⟨rfl,rfl⟩
def ofPrg (o i:Nat):Nat × Nat→Prop:=fun κ=>κ=(o,2)∨ofRep o i κ
theorem PrB.put2 {w:World}{col:Col}{o x i k:Nat}{K:PrK}{D:PrD}{u:Value}(h:PrB w col o x (some i) (K.setD i D))(hi:i<K.Ds.length)(hk:k<14)(D' : PrD)(hD:D.cells.set k u=D'.cells):PrB (w.setCell ⟨K.R,i*14+k,none⟩ u) col o x (some i) (K.setD i D')∧FrC (fun κ=>κ=(o,2)) col col w (w.setCell ⟨K.R,i*14+k,none⟩ u):=by
 have hi' : i<(K.setD i D).Ds.length:=by rw [K.setD_len];exact hi
 have:=PrB.put h hi' hk D' (u:=u) (by rw [K.setD_at];exact hD)
 rw [K.setD_setD] at this
 exact this
theorem PrB.self {w:World}{col:Col}{o x i:Nat}{ex:Option Nat}{K:PrK}(h:PrB w col o x ex K)(hi:i<K.Ds.length):PrB w col o x ex (K.setD i K.Ds[i]):=by
 have:K.setD i K.Ds[i]=K:=by simp [PrK.setD]
 rw [this]
 exact h
theorem zdI {S:Nat × Nat→Prop}{col:Col}{w:World}{b clock:Nat}(h:S (col b)):FrC S col col w (emptied w b clock) :=
 ⟨(Fr.refl _ w).step (zcM w b clock) (fun q hq=>by cases hq;exact .inr h),fun _ _=>rfl⟩
theorem PrRep.bR {w:World}{col:Col}{o x i:Nat}{ex:Option Nat}{K:PrK}{D:PrD}(h:PrB w col o x ex K)(hp:PrRep w col o i D):D.b ≠ K.R:=fun e=>by
 have h1:=hp.cb
 rw [e,h.cR] at h1
 have:=congrArg Prod.snd h1
 simp only at this
 omega
def PrD.fall (D:PrD):PrD:={ D with up:=false,num:=0,base:=0,n:=0,M:=fun _=>none,vb := .slice none 0 0,es := [],ak:=fun _=>0 }
theorem zi0 {w:World}{col:Col}{o x i:Nat}{K:PrK}{D:PrD}(h:PrB w col o x (some i) (K.setD i D))(h6:K.Ds.length≤6)(hi:i<K.Ds.length)(hp:PrRep w col o i D) :
  Calls Tryz.prog 69 #[.pointer (some ⟨K.R,i*14,none⟩)] w fun e w' => e = .returned (.tuple #[])∧PrB w' col o x (some i) (K.setD i D.fall)∧PrRep w' col o i D.fall∧FrC (ofPrg o i) col col w w' := by
 have hi' : i<(K.setD i D).Ds.length:=by rw [K.setD_len];exact hi
 have hc:=h.cells hi'
 rw [K.setD_at] at hc
 obtain ⟨es,clock,hm⟩:=hp.st.heap
 have hbR:D.b ≠ K.R:=PrRep.bR (K:=K.setD i D) h hp
 refine (zc2 K.R i D w hc es clock hm hbR).mono ?_
 rintro e w' ⟨rfl,rfl⟩
 obtain ⟨h1,f1⟩:=h.put2 hi (k:=0) (u := .bool false) (by omega) { D with up:=false } rfl
 obtain ⟨h2,f2⟩:=h1.put2 hi (k:=1) (u := .int .i64 0) (by omega) { D with up:=false,num:=0 } rfl
 obtain ⟨h3,f3⟩:=h2.put2 hi (k:=2) (u := .int .i64 0) (by omega) { D with up:=false,num:=0,base:=0 } rfl
 have F3:FrC (fun κ=>κ=(o,2)) col col w (fall1 w K.R i):=(f1.trans f2).trans f3
 have h3' : PrB (fall1 w K.R i) col o x (some i) (K.setD i { D with up:=false,num:=0,base:=0 }):=h3
 clear h1 h2 h3 f1 f2 f3
 generalize fall1 w K.R i=w3 at *
 have hcb:=hp.cb
 have hlt3:D.b<w3.heap.size:=Nat.lt_of_lt_of_le hp.st.lt F3.size
 have F4:FrC (ofRep o i) col col w3 (emptied w3 D.b clock):=zdI (by rw [hcb];exact ⟨rfl,by show 10≤10+i;omega,by show (10+i) % 10=i;omega⟩)
 have F4' : FrC (fun κ=>κ=(o,10+i)) col col w3 (emptied w3 D.b clock):=zdI hcb
 have hst:StMap (emptied w3 D.b clock) D.b 0 (fun _=>none):=zcN hlt3
 have h4:=(h3'.rest (by rw [K.setD_len];exact h6) (by rw [K.setD_len];exact hi) F4).as { D with up:=false,num:=0,base:=0,n:=0,M:=fun _=>none } (fun hi=>by rw [K.setD_at];rfl)
 rw [K.setD_setD] at h4
 generalize emptied w3 D.b clock=w4 at *
 clear h3'
 obtain ⟨h5,f5⟩:=h4.put2 hi (k:=4) (u := .slice none 0 0) (by omega) { D with up:=false,num:=0,base:=0,n:=0,M:=fun _=>none,vb := .slice none 0 0,es := [] } rfl
 obtain ⟨h6',f6⟩:=h5.put2 hi (k:=5) (u := .int .i64 0) (by omega) { D with up:=false,num:=0,base:=0,n:=0,M:=fun _=>none,vb := .slice none 0 0,es := [],ak:=fun q=>if q<1 then 0 else D.ak q } rfl
 obtain ⟨h7,f7⟩:=h6'.put2 hi (k:=6) (u := .int .i64 0) (by omega) { D with up:=false,num:=0,base:=0,n:=0,M:=fun _=>none,vb := .slice none 0 0,es := [],ak:=fun q=>if q<2 then 0 else D.ak q } rfl
 obtain ⟨h8,f8⟩:=h7.put2 hi (k:=7) (u := .int .i64 0) (by omega) { D with up:=false,num:=0,base:=0,n:=0,M:=fun _=>none,vb := .slice none 0 0,es := [],ak:=fun q=>if q<3 then 0 else D.ak q } rfl
 obtain ⟨h9,f9⟩:=h8.put2 hi (k:=8) (u := .int .i64 0) (by omega) { D with up:=false,num:=0,base:=0,n:=0,M:=fun _=>none,vb := .slice none 0 0,es := [],ak:=fun q=>if q<4 then 0 else D.ak q } rfl
 obtain ⟨h10,f10⟩:=h9.put2 hi (k:=9) (u := .int .i64 0) (by omega) { D with up:=false,num:=0,base:=0,n:=0,M:=fun _=>none,vb := .slice none 0 0,es := [],ak:=fun q=>if q<5 then 0 else D.ak q } rfl
 obtain ⟨h11,f11⟩:=h10.put2 hi (k:=10) (u := .int .i64 0) (by omega) D.fall rfl
 have F11:FrC (fun κ=>κ=(o,2)) col col w4 (fall2 w4 K.R i):=(((((f5.trans f6).trans f7).trans f8).trans f9).trans f10).trans f11
 have H11:PrB (fall2 w4 K.R i) col o x (some i) (K.setD i D.fall):=h11
 clear h5 h6' h7 h8 h9 h10 h11 f5 f6 f7 f8 f9 f10 f11
 generalize fall2 w4 K.R i=w5 at *
 have n2:∀ j,j ≠ 2→¬ ((o,j)=(o,2)):=fun j hj e=>hj (congrArg Prod.snd e)
 have n10:∀ j,j ≠ 10+i→¬ ((o,j)=(o,10+i)):=fun j hj e=>hj (congrArg Prod.snd e)
 refine ⟨rfl,H11,⟨?_,hcb,zkR _ _ _ _ _,(fun e he=>by cases he),((hp.log.kept F3 (n2 _ (by omega))).kept F4' (n10 _ (by omega))).kept F11 (n2 _ (by omega))⟩,?_⟩
 ·exact hst.block (F11.fr.block _ hst.lt (by rw [hcb];exact n2 _ (by omega)))
 ·exact ((F3.mono fun x hx => .inl hx).trans (F4.mono fun x hx => .inr hx)).trans (F11.mono fun x hx => .inl hx)
theorem PrD.is.fall {D:PrD}{p:Rep}(h:D.is p):D.fall.is p.fall where
 up:=rfl
 num:=rfl
 base:=rfl
 M:=rfl
 buf:=rfl
 ak q hq:=by simp only [PrD.fall,Rep.fall,List.getD,List.getElem?_replicate];split <;> rfl
 bytes:=h.bytes
 frames:=h.frames
 weight:=h.weight
end Go.Proofs.YtahdlejgjcjeoabGreatDoor
