/- Whose each block of memory is, and what for (owner and role); what keeps it so. -/
import Derived.Test.YtahdlejgjcjeoabGreatDoorA01
import Derived.Shelf.SlSortFuncK.RowK2
import Derived.Test.YtahdlejgjcjeoabGreatDoorA05
import Derived.Test.YtahdlejgjcjeoabGreatDoorA03
import Derived.ArgAppend
import Derived.Deep.DeepAppendRoom
import Derived.Test.YtahdlejgjcjeoabGreatDoorA04
namespace Go.Proofs.YtahdlejgjcjeoabGreatDoor
set_option maxHeartbeats 8000000
open Go.RowKit Go.Sort
theorem zeK {w:World}{g o:Nat}{cur:Array Value}{t:TypeId}{fz:Nat × Nat}(hb:w.heap[g]? = some (.cells cur t fz))(v:Value):(w.setCell ⟨g,o,none⟩ v).heap[g]? = some (.cells (cur.setIfInBounds o v) t fz):=by
 rw [setCell_eq]
 simp [mapBlock,Array.getElem?_modify,hb,onCells]
theorem zeL {g:Nat}{t:TypeId}{fz:Nat × Nat}:∀ (vs:List Value) (o:Nat) (w:World) (cur:Array Value),w.heap[g]? = some (.cells cur t fz)→(w.setCells g o vs).heap[g]? = some (.cells (setMany cur o vs) t fz)
 | [],_,_,_,hb=>hb
 | v :: r,o,w,cur,hb=>by
  show ((w.setCell ⟨g,o,none⟩ v).setCells g (o+1) r).heap[g]? = _
  rw [zeL r (o+1) _ _ (zeK hb v)]
  rfl
theorem zeu {g:Nat}:∀ (vs:List Value) (o:Nat) (w:World),w.grownBy (w.setCells g o vs) (some g)
 | [],_,w=>⟨rfl,rfl,rfl,Nat.le_refl _,fun _ _ _=>rfl⟩
 | v :: r,o,w=>by
  have h:=zeu (g:=g) r (o+1) (w.setCell ⟨g,o,none⟩ v)
  refine ⟨h.os,h.tape,h.output,Nat.le_trans (by simp [World.setCell]) h.size,fun k hk hne => ?_⟩
  have hk' : k<(w.setCell ⟨g,o,none⟩ v).heap.size:=by simpa [World.setCell] using hk
  have:=h.block k hk' hne
  have e:(w.setCell ⟨g,o,none⟩ v).heap[k]? = w.heap[k]? := Below.heap_setCell _ _ _ _ (fun e=>hne (by rw [e]))
  exact this.trans e
theorem setMany_get? (cur E:Array Value)(vs:List Value)(o t:Nat)(hE:setMany cur o vs=E)(ht:t<cur.size):E[t]? = if o≤t∧t<o+vs.length then vs[t - o]? else cur[t]? := by
 have e1:=get_setMany vs o cur t ht
 have hs:t<E.size:=by rw [← hE,size_setMany];exact ht
 rw [hE,getElem!_pos E t hs] at e1
 rw [Array.getElem?_eq_getElem hs,e1]
 split
 ·rename_i hc
  have hl:t - o<vs.length:=by omega
  rw [getElem!_pos vs (t - o) hl,List.getElem?_eq_getElem hl]
 ·rw [getElem!_pos cur t ht,Array.getElem?_eq_getElem ht]
theorem zml (cur E:Array Value)(L:List At)(i:Nat)(x:At)(_hi:i<L.length)(hsz:L.length*6≤cur.size)(h:cur.toList.take (L.length*6)=flat L)(hE:setMany cur (i*6) (enc x)=E):E.toList.take (L.length*6)=flat (L.set i x):=by
 have hget:=fun t ht=>setMany_get? cur E (enc x) (i*6) t hE ht
 have hlx:(enc x).length=6:=rfl
 rw [hlx] at hget
 clear hE
 have hfl:=zdy (L.set i x)
 have hll:(L.set i x).length=L.length:=by simp
 apply List.ext_getElem?
 intro t
 by_cases ht:t<L.length*6
 ·rw [List.getElem?_take_of_lt ht,Array.getElem?_toList,hget t (by omega)]
  have hk:t / 6<(L.set i x).length:=by omega
  have hg:=zdx (L.set i x) (t / 6) (t % 6) hk (Nat.mod_lt _ (by decide))
  rw [show t / 6*6+t % 6=t by omega] at hg
  rw [hg]
  by_cases hc:i*6≤t∧t<i*6+6
  ·rw [if_pos hc]
   have hti:t / 6=i:=by omega
   have htm:t - i*6=t % 6:=by omega
   have hxx:(L.set i x)[t / 6]=x:=by simp [hti]
   rw [htm,hxx]
  ·rw [if_neg hc]
   have hti:i ≠ t / 6:=by omega
   have hk2:t / 6<L.length:=by omega
   have hg2:=zdx L (t / 6) (t % 6) hk2 (Nat.mod_lt _ (by decide))
   rw [show t / 6*6+t % 6=t by omega,← h,List.getElem?_take_of_lt ht,Array.getElem?_toList] at hg2
   have hxx:(L.set i x)[t / 6]=L[t / 6]:=by simp [hti]
   rw [hg2,hxx]
 ·rw [List.getElem?_take_eq_none (by omega),List.getElem?_eq_none (by omega)]
theorem zig {w:World}{base g cap n:Nat}{e:TypeId}{L:List At}(h:w.ownsRow base e 6 (.slice (some ⟨g,0,none⟩) n cap) n (flat L))(hn:n=L.length)(i:Nat)(hi:i<L.length)(x:At) :
  (w.setCells g (i*6) (enc x)).ownsRow base e 6 (.slice (some ⟨g,0,none⟩) n cap) n (flat (L.set i x)):=by
 subst hn
 rcases h.2 with ⟨h0,_⟩ | ⟨g',cap',cur,hv,hg,hh,h1,h2,h3,h4⟩
 ·cases h0
 cases hv
 refine ⟨by rw [zdy];simp,.inr ⟨g,cap,_,rfl,hg,zeL _ _ _ _ hh,h1,h2,by simp [h3],?_⟩⟩
 exact zml cur _ L i x hi (by rw [h3];exact Nat.mul_le_mul_right _ h1) h4 rfl
theorem zh7 {w:World}{base g cap n:Nat}{e:TypeId}{L:List At}(h:w.ownsRow base e 6 (.slice (some ⟨g,0,none⟩) n cap) n (flat L))(hn:n=L.length)(i:Nat)(hi:i<L.length) :
  cellsAt w g (i*6) (nth L i)∧∀ o,w.frozen? ⟨g,o,none⟩=false:=by
 subst hn
 rcases h.2 with ⟨h0,_⟩ | ⟨g',cap',cur,hv,hg,hh,h1,h2,h3,h4⟩
 ·cases h0
 cases hv
 have:=zkP hh h4 i hi
 rw [Nat.zero_add] at this
 exact ⟨by rw [zg5 L i hi];exact this,fun o=>by simp [World.frozen?,hh]⟩
open Go.RowKit
theorem zkO {w:World}{b off:Nat}{l:List At}(h:RowAt w b off l):∀ j u,(flat l)[j]? = some u→w.cell? ((⟨b,off,none⟩:Addr).add j)=some u:=by
 intro j u hu
 have hadd:(⟨b,off,none⟩:Addr).add j=⟨b,off+j,none⟩:=by unfold Addr.add;split <;> simp_all
 have hj:j<(flat l).length:=(List.getElem?_eq_some_iff.1 hu).1
 rw [zdy] at hj
 have hk:j / 6<l.length:=by omega
 have hg:=zdx l (j / 6) (j % 6) hk (Nat.mod_lt _ (by decide))
 rw [show j / 6*6+j % 6=j by omega,hu] at hg
 obtain ⟨c0,c1,c2,c3,c4,c5⟩:=h (j / 6) hk
 rw [hadd]
 have hcase:j % 6=0∨j % 6=1∨j % 6=2∨j % 6=3∨j % 6=4∨j % 6=5:=by omega
 rcases hcase with e | e | e | e | e | e
 ·rw [show off+j=off+j / 6*6 by omega,c0,hg,e];rfl
 ·rw [show off+j=off+j / 6*6+1 by omega,c1,hg,e];rfl
 ·rw [show off+j=off+j / 6*6+2 by omega,c2,hg,e];rfl
 ·rw [show off+j=off+j / 6*6+3 by omega,c3,hg,e];rfl
 ·rw [show off+j=off+j / 6*6+4 by omega,c4,hg,e];rfl
 ·rw [show off+j=off+j / 6*6+5 by omega,c5,hg,e];rfl
theorem zdz (l:List At):∀ u∈flat l,u.oneCell' = true:=by
 intro u hu
 obtain ⟨a,_,h⟩:=List.mem_flatMap.1 hu
 exact zcS a u h
theorem znH {P:Program}(w:World){ops:Array Oper}{rest:List Oper}{o:Oper}{a:Act}{Q:Exit→Act→World→Prop}(hgd:o.guard=none)(s x:Operand)(t:TypeId)
  (ho:o.op = .call { callee := .builtin .append,args:=#[s,x],argTypes:=#[t,t] })
  (base:Nat) (e:TypeId) (i:TypeInfo) (z:Value) (size bytes:Nat) (ht:P.underlying t=some (.slice e)) (hi:P.info? e=some i) (hz:i.zero=some z)
  (hsize:i.size=size) (hby:i.bytes=bytes) (hzs:z.cells.size=size) (hsz:0<size)
  (v:Value) (n:Nat) (xs:List Value) (hs:a.eval s=v) (hown:w.ownsRow base e size v n xs)
  (ad:Addr) (m c:Nat) (news:List Value) (hx:a.eval x = .slice (some ad) m c) (hl:news.length=m*size) (hnews:∀ j u,news[j]? = some u→w.cell? (ad.add j)=some u) (h1:∀ u∈news,u.oneCell' = true)
  (hm:0<m) (h63:n+m≤maxLen) (hbytes:(n+m)*bytes≤140737488355328) (hbase:base≤w.heap.size)
  (h:∀ g cap w',w'.ownsRow base e size (.slice (some ⟨g,0,none⟩) (n+m) cap) (n+m) (xs ++ news)→((w.grownBy w' none∧w.heap.size≤g)∨(v.ownBlock=some g∧w.grownBy w' (some g)))→wpList P ops Q rest (a.put o.dst (.slice (some ⟨g,0,none⟩) (n+m) cap)) w'):wpList P ops Q (o :: rest) a w:=by
 have fin:∀ v' w',w'.ownsRow w.heap.size e size v' (n+m) (xs ++ news)→w.grownBy w' none→wpList P ops Q rest (a.put o.dst v') w' := by
  intro v' w' r1 r2
  rcases r1.2 with ⟨_,h0⟩ | ⟨g,cap,cur,rfl,hg,_⟩
  ·omega
  ·exact h g cap w' (zic r1 hbase) (.inl ⟨r2,hg⟩)
 rcases hown.2 with ⟨rfl,hn0⟩ | ⟨g,cap,cur,rfl,hg,hh,k1,k2,k3,k4⟩
 ·refine wpList_append_grows w hgd s x t ho e i z size bytes ht hi hz hsize hby hzs hsz none n 0 xs (by rw [hs,hn0]) (fun _=>⟨hn0,rfl⟩) hown.1 (fun b hb=>by cases hb) ad m c news hx hl hnews h1 (by omega) h63 hbytes fin
 ·by_cases hr:n+m≤cap
  ·exact wpList_append_own_spare w hgd s x t ho base e i size ht hi hsize g n cap xs hs hown ad m c news hx hl hnews h1 hr (fun w' r1 r2=>h g cap w' r1 (.inr ⟨rfl,r2⟩))
  ·refine wpList_append_grows w hgd s x t ho e i z size bytes ht hi hz hsize hby hzs hsz (some ⟨g,0,none⟩) n cap xs hs (fun hb=>by cases hb) hown.1 (fun b hb j u hu => ?_) ad m c news hx hl hnews h1 (by omega) h63 hbytes fin
   cases hb
   have hj:j<xs.length:=(List.getElem?_eq_some_iff.1 hu).1
   refine World.news_of_block hh j u ?_
   rw [← k4,List.getElem?_take] at hu
   split at hu
   ·exact hu
   ·cases hu
def mark (k:Int):At:=⟨-1 - k,⟨#[109,97,114,107]⟩,0,0,⟨#[]⟩,0⟩
theorem zaB (k:Int)(w:World)(h0:0≤k)(h1:k≤16777216):Calls Tryz.prog 36 #[.int .i64 k] w fun e w' => e = .returned (.agg #[.int .i64 (mark k).ty,.string (mark k).key,.int .i64 (mark k).side,.int .i64 (mark k).who,.string (mark k).elem,.int .i64 (mark k).n])∧Below w.heap.size w w' := by
 go_enter Tryz.func36,Tryz.ntmps36
 go_wp2
 refine bodyPost_ret (v:=(mark k).val) (by simp [results,Tryz.results36,go_sem,At.val,mark]) rfl ⟨rfl,?_⟩
 go_light
 repeat (first | exact Below.refl _ _ | refine zaO ?_ _)
def flatE (es:List (Value × Int)):List Value:=es.flatMap fun p => [p.1,.int .i64 p.2]
theorem zia {w w' : World}{base:Nat}{row:Option Nat}{e:TypeId}{s n:Nat}{v:Value}{xs:List Value}(h:w.ownsRow base e s v n xs)(hg:w.grownBy w' row)(hr:∀ q,v.ownBlock=some q→some q ≠ row):w'.ownsRow base e s v n xs:=by
 obtain ⟨h0,h⟩:=h
 refine ⟨h0,?_⟩
 rcases h with h | ⟨g,cap,cur,rfl,hgb,hh,k⟩
 ·exact .inl h
 ·exact .inr ⟨g,cap,cur,rfl,hgb,by rw [hg.block g (Array.getElem?_eq_some_iff.1 hh).1 (hr g rfl)];exact hh,k⟩
structure Fr (X:Nat→Prop)(w w' : World):Prop where
 os:w'.os=w.os
 tape:w'.tape=w.tape
 output:w'.output=w.output
 size:w.heap.size≤w'.heap.size
 block:∀ k,k<w.heap.size→¬ X k→w'.heap[k]? = w.heap[k]?
theorem Fr.refl (X:Nat→Prop)(w:World):Fr X w w:=⟨rfl,rfl,rfl,Nat.le_refl _,fun _ _ _=>rfl⟩
theorem Fr.step {X:Nat→Prop}{w w1 w2:World}{row:Option Nat}(h:Fr X w w1)(hg:w1.grownBy w2 row)(hr:∀ q,row=some q→w.heap.size≤q∨X q):Fr X w w2 :=
 ⟨hg.os.trans h.os,hg.tape.trans h.tape,hg.output.trans h.output,Nat.le_trans h.size hg.size,fun k hk hx=>by
  refine (hg.block k (Nat.lt_of_lt_of_le hk h.size) (fun e => ?_)).trans (h.block k hk hx)
  rcases hr k e.symm with h1 | h1
  ·omega
  ·exact hx h1⟩
theorem Fr.below {X:Nat→Prop}{w w1 w2:World}(h:Fr X w w1)(hb:Below w1.heap.size w1 w2):Fr X w w2:=h.step (zaP hb none) (fun q hq=>by cases hq)
theorem zet (w:World)(a:Addr)(u:Value):w.grownBy (w.setCell a u) (some a.block) :=
 ⟨rfl,rfl,rfl,by simp [World.setCell],fun k _ hne=>Below.heap_setCell _ _ _ _ (fun e=>hne (by rw [e]))⟩
theorem Fr.trans {X Y:Nat→Prop}{w w1 w2:World}(h:Fr X w w1)(k:Fr Y w1 w2)(hY:∀ q,q<w.heap.size→Y q→X q):Fr X w w2 :=
 ⟨k.os.trans h.os,k.tape.trans h.tape,k.output.trans h.output,Nat.le_trans h.size k.size,fun q hq hx=>(k.block q (Nat.lt_of_lt_of_le hq h.size) (fun hy=>hx (hY q hq hy))).trans (h.block q hq hx)⟩
theorem zdp (es:List (Value × Int))(s:Value)(k:Int):flatE (es ++ [(s,k)])=flatE es ++ [s,.int .i64 k]:=by simp [flatE]
theorem zh2 {g n cap q:Nat}(h:(Value.slice (some ⟨g,0,none⟩) n cap).ownBlock=some q):g=q:=by simpa [Value.ownBlock] using h
theorem zh3 {w:World}{base:Nat}{e:TypeId}{s n:Nat}{v:Value}{xs:List Value}(h:w.ownsRow base e s v n xs):∀ q,v.ownBlock=some q→q<w.heap.size:=by
 intro q hq
 rcases h.2 with ⟨rfl,_⟩ | ⟨g,cap,cur,rfl,_,hh,_⟩
 ·simp [Value.ownBlock] at hq
 ·obtain rfl:=zh2 hq
  exact (Array.getElem?_eq_some_iff.1 hh).1
theorem zh8 {X:Nat→Prop}{w w' : World}{base:Nat}{e:TypeId}{s n:Nat}{v:Value}{xs:List Value}(h:w.ownsRow base e s v n xs)(hf:Fr X w w')(hx:∀ q,v.ownBlock=some q→¬ X q):w'.ownsRow base e s v n xs:=by
 obtain ⟨h0,h⟩:=h
 refine ⟨h0,?_⟩
 rcases h with h | ⟨g,cap,cur,rfl,hgb,hh,k⟩
 ·exact .inl h
 ·exact .inr ⟨g,cap,cur,rfl,hgb,by rw [hf.block g (Array.getElem?_eq_some_iff.1 hh).1 (hx g rfl)];exact hh,k⟩
theorem zh1 {w:World}{base:Nat}{e:TypeId}{s n:Nat}{v:Value}{xs:List Value}(h:w.ownsRow base e s v n xs):∃ ad cap,v = .slice ad n cap:=by
 rcases h.2 with ⟨rfl,rfl⟩ | ⟨g,cap,cur,rfl,_⟩
 ·exact ⟨none,0,rfl⟩
 ·exact ⟨_,cap,rfl⟩
theorem zg2 (w:World)(v:Value)(k:Int)(e:TypeId):∀ j u,([v,.int .i64 k]:List Value)[j]? = some u→(w.alloc (.cells #[v,.int .i64 k] e)).cell? ((⟨w.heap.size,0,none⟩:Addr).add j)=some u :=
 fun j u hu=>World.news_of_block (heap_alloc_new w _) j u hu
theorem zio {v:Value}{ad:Option Addr}{n cap:Nat}(hv:v = .slice ad n cap)(k:Int):∀ u∈([v,.int .i64 k]:List Value),u.oneCell' = true:=by
 intro u hu
 simp only [List.mem_cons,List.not_mem_nil,or_false] at hu
 rcases hu with rfl | rfl
 ·rw [hv];rfl
 ·rfl
def MarkRow (w:World)(v:Value)(s n:Nat)(c:List Value):Prop :=
 ∃ ad cap,v = .slice ad n cap∧n≤cap∧(0<n→∃ b off,ad=some ⟨b,off,none⟩∧b<w.heap.size∧∀ i,i<n→∀ j u,c[j]? = some u→w.cell? ⟨b,off+i*s+j,none⟩=some u)
theorem MarkRow.grown {w w' : World}{v:Value}{s n:Nat}{c:List Value}{row:Option Nat}(h:MarkRow w v s n c)(hg:w.grownBy w' row)(hne:∀ q,v.ownBlock=some q→some q ≠ row):MarkRow w' v s n c:=by
 obtain ⟨ad,cap,rfl,hcap,H⟩:=h
 refine ⟨ad,cap,rfl,hcap,fun h0 => ?_⟩
 obtain ⟨b,off,rfl,hlt,hrow⟩:=H h0
 have hb:some b ≠ row:=hne b rfl
 exact ⟨b,off,rfl,Nat.lt_of_lt_of_le hlt hg.size,fun i hi j u hu=>hg.cell (hrow i hi j u hu) hb⟩
def reps (n:Nat)(c:List Value):List Value:=(List.replicate n c).flatten
theorem zkF (n:Nat)(c:List Value):reps (n+1) c=reps n c ++ c:=by
 unfold reps
 rw [List.replicate_succ',List.flatten_append]
 simp
theorem zkE (n:Nat)(c:List Value):(reps n c).length=n*c.length:=by
 induction n with
 | zero=>simp [reps]
 | succ n ih=>rw [zkF,List.length_append,ih,Nat.succ_mul]
theorem zkD {n:Nat}{c:List Value}{i j:Nat}{u:Value}(hi:i<n)(hu:c[j]? = some u):(reps n c)[i*c.length+j]? = some u:=by
 have hj:j<c.length:=(List.getElem?_eq_some_iff.1 hu).1
 induction n with
 | zero=>omega
 | succ n ih =>
  rw [zkF]
  by_cases h:i<n
  ·have h1:=ih h
   have h2:i*c.length+j<(reps n c).length:=(List.getElem?_eq_some_iff.1 h1).1
   rw [List.getElem?_append_left h2]
   exact h1
  ·obtain rfl:i=n:=by omega
   rw [List.getElem?_append_right (by rw [zkE];omega),zkE,Nat.add_sub_cancel_left]
   exact hu
theorem zgo {w:World}{base:Nat}{e:TypeId}{v:Value}{n:Nat}{c:List Value}(h:w.ownsRow base e c.length v n (reps n c)):MarkRow w v c.length n c:=by
 rcases h.2 with ⟨rfl,rfl⟩ | ⟨g,cap,cur,rfl,hg,hb,h1,h2,h3,h4⟩
 ·exact ⟨none,0,rfl,Nat.le_refl _,fun h=>by omega⟩
 ·refine ⟨_,cap,rfl,h1,fun _=>⟨g,0,rfl,(Array.getElem?_eq_some_iff.1 hb).1,fun i hi j u hu => ?_⟩⟩
  have hx:=zkD hi hu
  have hlt:=(List.getElem?_eq_some_iff.1 hx).1
  rw [zkE] at hlt
  rw [← h4,List.getElem?_take,if_pos hlt,Array.getElem?_toList] at hx
  rw [Nat.zero_add]
  simp [World.cell?,hb,hx]
def digs:Nat→Nat→List UInt8
 | 0,_ => []
 | f+1,k=>if k=0 then [] else UInt8.ofNat (48+k % 10) :: digs f (k / 10)
def markT (k:Nat):ByteArray:=bstr ([109,97,114,107,32] ++ digs 20 k)
def eT:Nat→TypeId
 | 0=>74
 | 1=>80
 | 2=>88
 | _=>83
def elT:Nat→TypeId
 | 0=>76
 | 1=>3
 | 2=>9
 | _=>85
def mkC:Nat→Int→List Value
 | 0,k=>enc (mark k)
 | 1,k => [.int .i64 (-1 - k)]
 | 2,k => [.string (markT k.toNat)]
 | _,k => [.int .i64 (-1 - k),.int .i64 0,.slice none 0 0]
def szC:Nat→Nat
 | 0=>6
 | 1=>1
 | 2=>1
 | _=>3
theorem zgy:∀ (f:Nat) (k:Int),(mkC f k).length=szC f
 | 0,_=>rfl
 | 1,_=>rfl
 | 2,_=>rfl
 | _+3,_=>rfl
def updF {α:Type}(g:Nat→α)(f:Nat)(x:α):Nat→α:=fun j=>if j=f then x else g j
theorem zne {α:Type}(g:Nat→α)(f:Nat)(x:α):updF g f x f=x:=if_pos rfl
theorem znd {α:Type}(g:Nat→α){f j:Nat}(x:α)(h:j ≠ f):updF g f x j=g j:=if_neg h
theorem zng {α:Type}(g:Nat→α)(f:Nat)(x y:α):updF (updF g f x) f y=updF g f y:=by
 funext j
 unfold updF
 split <;> rfl
theorem znf {α:Type}(g:Nat→α)(f:Nat):updF g f (g f)=g:=by
 funext j
 unfold updF
 split
 ·rename_i h;rw [h]
 ·rfl
structure Bk (w:World)(B:Nat)(va:Nat→Value)(es:Nat→List (Value × Int)):Prop where
 c:∀ f,f<4→w.cell? ⟨B,f,none⟩=some (va f)
 fz:∀ o,w.frozen? ⟨B,o,none⟩=false
 row:∀ f,f<4→w.ownsRow (B+1) (eT f) 2 (va f) (es f).length (flatE (es f))
 good:∀ f,f<4→∀ p∈es f,∃ n,n≤16777216∧MarkRow w p.1 (szC f) n (mkC f p.2)
 bnd:∀ f,f<4→∀ p∈es f,0≤p.2∧p.2≤16777216
 sep:∀ f,f<4→∀ p∈es f,∀ q,p.1.ownBlock=some q→q<w.heap.size∧q ≠ B∧∀ j,j<4→some q ≠ (va j).ownBlock
 apart:∀ f j,f<4→j<4→f ≠ j→∀ q,(va f).ownBlock=some q→(va j).ownBlock ≠ some q
 cross:∀ f j,f<4→j<4→f ≠ j→∀ p∈es f,∀ p' ∈ es j,∀ q,p.1.ownBlock=some q→p'.1.ownBlock ≠ some q
theorem Bk.lt {w:World}{B:Nat}{va:Nat→Value}{es:Nat→List (Value × Int)}(h:Bk w B va es):B<w.heap.size:=by
 obtain ⟨c,e,fr,hb,_⟩:=Go.Sort.cells_of_cell? (h.c 0 (by decide))
 exact (Array.getElem?_eq_some_iff.1 hb).1
theorem Bk.kept {w w' : World}{B:Nat}{va:Nat→Value}{es:Nat→List (Value × Int)}{row:Option Nat}(h:Bk w B va es)(hg:w.grownBy w' row)(hB:some B ≠ row)(hva:∀ f,f<4→∀ q,(va f).ownBlock=some q→some q ≠ row)(hes:∀ f,f<4→∀ p∈es f,∀ q,p.1.ownBlock=some q→some q ≠ row):Bk w' B va es where
 c f hf:=hg.cell (h.c f hf) hB
 fz o:=by rw [← h.fz o];exact World.frozen?_of_block (w:=w) (hg.block B h.lt hB)
 row f hf:=zia (h.row f hf) hg (hva f hf)
 good f hf p hp:=by obtain ⟨n,hnb,hn⟩:=h.good f hf p hp;exact ⟨n,hnb,hn.grown hg (hes f hf p hp)⟩
 bnd:=h.bnd
 sep f hf p hp q hq:=⟨Nat.lt_of_lt_of_le (h.sep f hf p hp q hq).1 hg.size,(h.sep f hf p hp q hq).2⟩
 apart:=h.apart
 cross:=h.cross
theorem Bk.below {w w' : World}{B:Nat}{va:Nat→Value}{es:Nat→List (Value × Int)}(h:Bk w B va es)(hb:Below w.heap.size w w'):Bk w' B va es :=
 h.kept (zaP hb none) (by simp) (by simp) (by simp)
theorem Bk.inplace {w w' : World}{B g N f:Nat}{va:Nat→Value}{es:Nat→List (Value × Int)}{k:Int}(h:Bk w B va es)(hf:f<4)(hg:w.grownBy w' (some g))(hgB:g ≠ B)(hgv:∀ j,j<4→some g ≠ (va j).ownBlock)
  (hrow:∀ i,i<N→∀ j u,(mkC f k)[j]? = some u→w'.cell? ⟨g,i*szC f+j,none⟩=some u) (hlt:g<w'.heap.size) (hN:N≤16777216)
  (hoth:∀ j,j<4→j ≠ f→∀ p∈es j,p.1.ownBlock ≠ some g)
  (hcur:∀ p∈es f,p.1.ownBlock=some g→∃ m cap,p.1 = .slice (some ⟨g,0,none⟩) m cap∧m≤N∧m≤cap∧p.2=k):Bk w' B va es where
 c j hj:=hg.cell (h.c j hj) (fun e=>hgB (by cases e;rfl))
 fz o:=by rw [← h.fz o];exact World.frozen?_of_block (w:=w) (hg.block B h.lt (fun e=>hgB (by cases e;rfl)))
 row j hj:=zia (h.row j hj) hg (fun q hq e=>hgv j hj (by rw [hq,e]))
 good j hj p hp:=by
  by_cases e:p.1.ownBlock=some g
  ·by_cases hjf:j=f
   ·subst hjf
    obtain ⟨m,cap,hp1,hm,hmc,hk⟩:=hcur p hp e
    refine ⟨m,by omega,?_⟩
    rw [hp1,hk]
    refine ⟨_,cap,rfl,hmc,fun _=>⟨g,0,rfl,hlt,fun i hi t u hu => ?_⟩⟩
    rw [Nat.zero_add]
    exact hrow i (by omega) t u hu
   ·exact absurd e (hoth j hj hjf p hp)
  ·obtain ⟨n,hnb,hn⟩:=h.good j hj p hp
   exact ⟨n,hnb,hn.grown hg (fun q hq e' => e (by rw [hq,e']))⟩
 bnd:=h.bnd
 sep j hj p hp q hq:=⟨Nat.lt_of_lt_of_le (h.sep j hj p hp q hq).1 hg.size,(h.sep j hj p hp q hq).2⟩
 apart:=h.apart
 cross:=h.cross
theorem Bk.push {w w2:World}{B f:Nat}{va:Nat→Value}{es:Nat→List (Value × Int)}(h:Bk w B va es)(hf:f<4)(s:Value)(k:Int){g cap:Nat}(tmp:Obj)
  (hkb:0≤k∧k≤16777216) (hgood:∃ n,n≤16777216∧MarkRow w s (szC f) n (mkC f k))
  (hsep:∀ q,s.ownBlock=some q→q<w.heap.size∧q ≠ B∧∀ j,j<4→some q ≠ (va j).ownBlock)
  (hcross:∀ j,j<4→j ≠ f→∀ p∈es j,∀ q,s.ownBlock=some q→p.1.ownBlock ≠ some q)
  (hown:w2.ownsRow (B+1) (eT f) 2 (.slice (some ⟨g,0,none⟩) ((es f).length+1) cap) ((es f).length+1) (flatE (es f) ++ [s,.int .i64 k]))
  (hcase:((w.alloc tmp).grownBy w2 none∧(w.alloc tmp).heap.size≤g)∨((va f).ownBlock=some g∧(w.alloc tmp).grownBy w2 (some g))) :
  Bk (w2.setCell ⟨B,f,none⟩ (.slice (some ⟨g,0,none⟩) ((es f).length+1) cap)) B (updF va f (.slice (some ⟨g,0,none⟩) ((es f).length+1) cap)) (updF es f (es f ++ [(s,k)])):=by
 have hgB:B+1≤g:=zh4 hown g rfl
 have hBlt:=h.lt
 have hal:w.grownBy (w.alloc tmp) none:=World.grownBy_alloc w tmp none
 obtain ⟨row,hg,hrow⟩:∃ row,w.grownBy w2 row∧∀ q,row=some q→(va f).ownBlock=some q:=by
  rcases hcase with ⟨h1,_⟩ | ⟨h1,h2⟩
  ·exact ⟨none,zev hal h1,fun q hq=>by cases hq⟩
  ·exact ⟨some g,zev (hal.but _) h2,fun q hq=>by cases hq;exact h1⟩
 have hfresh:∀ q,q<w.heap.size→some q ≠ (va f).ownBlock→q ≠ g:=by
  intro q hq hne e
  subst e
  rcases hcase with ⟨_,h2⟩ | ⟨h2,_⟩
  ·simp at h2;omega
  ·exact hne h2.symm
 have hBr:some B ≠ row:=fun e=>by
  have:=zh4 (h.row f hf) B (hrow B e.symm)
  omega
 have hsc:=zet w2 ⟨B,f,none⟩ (.slice (some ⟨g,0,none⟩) ((es f).length+1) cap)
 have hcB:∀ j,j<4→w2.cell? ⟨B,j,none⟩=some (va j):=fun j hj=>hg.cell (h.c j hj) hBr
 have hmem:∀ j,j<4→∀ p∈updF es f (es f ++ [(s,k)]) j,p∈es j∨(j=f∧p=(s,k)):=by
  intro j _ p hp
  by_cases e:j=f
  ·subst e
   rw [zne] at hp
   rcases List.mem_append.1 hp with hp | hp
   ·exact .inl hp
   ·exact .inr ⟨rfl,List.mem_singleton.1 hp⟩
  ·rw [znd _ _ e] at hp
   exact .inl hp
 have hsep' : ∀ j,j<4→∀ p∈updF es f (es f ++ [(s,k)]) j,∀ q,p.1.ownBlock=some q→q<w.heap.size∧q ≠ B∧∀ t,t<4→some q ≠ (va t).ownBlock:=by
  intro j hj p hp
  rcases hmem j hj p hp with hp | ⟨rfl,rfl⟩
  ·exact h.sep j hj p hp
  ·exact hsep
 refine ⟨fun j hj => ?_,fun o => ?_,fun j hj => ?_,fun j hj p hp => ?_,fun j hj p hp => ?_,fun j hj p hp q hq => ?_,fun j t hj ht hne q hq => ?_,fun j t hj ht hne p hp p' hp' q hq => ?_⟩
 ·by_cases e:j=f
  ·subst e
   rw [zne]
   exact World.cell?_setCell_same _ _ _ (hcB j hj)
  ·rw [znd _ _ e]
   exact (World.cell?_setCell_other _ _ _ _ (fun e' => e (by cases e';rfl))).trans (hcB j hj)
 ·rw [World.frozen?_setCell,← h.fz o]
  exact World.frozen?_of_block (w:=w) (hg.block B hBlt hBr)
 ·by_cases e:j=f
  ·subst e
   rw [zne,zne,zdp,List.length_append]
   exact zia hown hsc (fun q hq=>by cases hq;intro e;cases e;omega)
  ·rw [znd _ _ e,znd _ _ e]
   refine zia (zia (h.row j hj) hg (fun q hq e' => h.apart j f hj hf e q hq (hrow q e'.symm))) hsc (fun q hq e' => ?_)
   have:=zh4 (h.row j hj) q hq
   have hqB:q=B:=by cases e';rfl
   omega
 ·have hs:=hsep' j hj p hp
  have hgd:∃ n,n≤16777216∧MarkRow w p.1 (szC j) n (mkC j p.2):=by
   rcases hmem j hj p hp with hp | ⟨rfl,rfl⟩
   ·exact h.good j hj p hp
   ·exact hgood
  obtain ⟨n,hnb,hn⟩:=hgd
  exact ⟨n,hnb,(hn.grown hg (fun q hq e=>(hs q hq).2.2 f hf (hrow q e.symm).symm)).grown hsc (fun q hq e=>(hs q hq).2.1 (by cases e;rfl))⟩
 ·rcases hmem j hj p hp with hp | ⟨rfl,rfl⟩
  ·exact h.bnd j hj p hp
  ·exact hkb
 ·have hs:=hsep' j hj p hp q hq
  refine ⟨Nat.lt_of_lt_of_le hs.1 (Nat.le_trans hg.size hsc.size),hs.2.1,fun t ht e => ?_⟩
  by_cases et:t=f
  ·subst et
   rw [zne] at e
   exact hfresh q hs.1 (hs.2.2 t ht) (by cases e;rfl)
  ·rw [znd _ _ et] at e
   exact hs.2.2 t ht e
 ·by_cases ej:j=f
  ·subst ej
   rw [zne] at hq
   rw [znd _ _ (Ne.symm hne)]
   obtain rfl:=zh2 hq
   intro e
   exact hfresh g (zh3 (h.row t ht) g e) (fun e' => h.apart j t hj ht hne g e'.symm e) rfl
  ·rw [znd _ _ ej] at hq
   by_cases et:t=f
   ·subst et
    rw [zne]
    intro e
    obtain rfl:=zh2 e
    exact hfresh g (zh3 (h.row j hj) g hq) (fun e' => h.apart j t hj ht hne g hq e'.symm) rfl
   ·rw [znd _ _ et]
    exact h.apart j t hj ht hne q hq
 ·rcases hmem j hj p hp with g1 | ⟨g1,g2⟩
  ·rcases hmem t ht p' hp' with g3 | ⟨g3,g4⟩
   ·exact h.cross j t hj ht hne p g1 p' g3 q hq
   ·rw [g4]
    exact fun e=>hcross j hj (by rw [← g3];exact hne) p g1 q e hq
  ·rcases hmem t ht p' hp' with g3 | ⟨g3,g4⟩
   ·rw [g2] at hq
    exact hcross t ht (by rw [← g1];exact Ne.symm hne) p' g3 q hq
   ·exact absurd (g1.trans g3.symm) hne
abbrev Col:=Nat→Nat × Nat
def paint (col:Col)(n:Nat)(κ:Nat × Nat):Col:=fun q=>if q<n then col q else κ
theorem zin (col:Col){n q:Nat}(κ:Nat × Nat)(h:q<n):paint col n κ q=col q:=if_pos h
theorem zim (col:Col){n q:Nat}(κ:Nat × Nat)(h:n≤q):paint col n κ q=κ:=if_neg (by omega)
theorem Fr.mono {X Y:Nat→Prop}{w w' : World}(h:Fr X w w')(hXY:∀ q,q<w.heap.size→X q→Y q):Fr Y w w' :=
 ⟨h.os,h.tape,h.output,h.size,fun k hk hy=>h.block k hk (fun hx=>hy (hXY k hk hx))⟩
structure FrC (S:Nat × Nat→Prop)(col col' : Col)(w w' : World):Prop where
 fr:Fr (fun q=>S (col q)) w w'
 col:∀ q,q<w.heap.size→col' q=col q
theorem FrC.refl (S:Nat × Nat→Prop)(col:Col)(w:World):FrC S col col w w:=⟨Fr.refl _ _,fun _ _=>rfl⟩
theorem FrC.mono {S T:Nat × Nat→Prop}{c c1:Col}{w w1:World}(h:FrC S c c1 w w1)(hST:∀ x,S x→T x):FrC T c c1 w w1 :=
 ⟨h.fr.mono fun _ _ hx=>hST _ hx,h.col⟩
theorem FrC.trans {S:Nat × Nat→Prop}{c c1 c2:Col}{w w1 w2:World}(h:FrC S c c1 w w1)(k:FrC S c1 c2 w1 w2):FrC S c c2 w w2 :=
 ⟨h.fr.trans k.fr fun q hq hx=>by rw [← h.col q hq];exact hx,fun q hq=>(k.col q (Nat.lt_of_lt_of_le hq h.fr.size)).trans (h.col q hq)⟩
theorem zdH {S:Nat × Nat→Prop}{col:Col}{w w' : World}(hb:Below w.heap.size w w')(κ:Nat × Nat):FrC S col (paint col w.heap.size κ) w w' :=
 ⟨(Fr.refl _ w).below hb,fun _ hq=>zin col κ hq⟩
theorem zdJ {S:Nat × Nat→Prop}{col:Col}{w w' : World}(hb:Below w.heap.size w w'):FrC S col col w w' := ⟨(Fr.refl _ w).below hb,fun _ _=>rfl⟩
theorem FrC.size {S:Nat × Nat→Prop}{c c1:Col}{w w1:World}(h:FrC S c c1 w w1):w.heap.size≤w1.heap.size:=h.fr.size
theorem FrC.block {S:Nat × Nat→Prop}{c c1:Col}{w w1:World}(h:FrC S c c1 w w1){q:Nat}{b:Obj}(hb:w.heap[q]? = some b)(hS:¬ S (c q)):w1.heap[q]? = some b :=
 (h.fr.block q (Array.getElem?_eq_some_iff.1 hb).1 hS).trans hb
theorem FrC.colB {S:Nat × Nat→Prop}{c c1:Col}{w w1:World}(h:FrC S c c1 w w1){q:Nat}{b:Obj}(hb:w.heap[q]? = some b):c1 q=c q:=h.col q (Array.getElem?_eq_some_iff.1 hb).1
theorem FrC.below {S:Nat × Nat→Prop}{c c1:Col}{w w1 w2:World}(h:FrC S c c1 w w1)(hb:Below w1.heap.size w1 w2)(κ:Nat × Nat):FrC S c (paint c1 w1.heap.size κ) w w2:=h.trans (zdH hb κ)
def Held (w:World)(col:Col)(κ:Nat × Nat)(v:Value)(l:List At):Prop :=
 ∃ ad cap,v = .slice ad l.length cap∧l.length≤cap∧(0<l.length→∃ b off,ad=some ⟨b,off,none⟩∧b<w.heap.size∧col b=κ∧RowAt w b off l)
theorem Held.slice {w:World}{col:Col}{κ:Nat × Nat}{v:Value}{l:List At}(h:Held w col κ v l):SliceOf w v l:=by
 obtain ⟨ad,cap,rfl,hc,H⟩:=h
 refine ⟨ad,cap,rfl,hc,fun h0 => ?_⟩
 obtain ⟨b,off,rfl,hb,_,hr⟩:=H h0
 exact ⟨b,off,rfl,hb,hr⟩
theorem zbu {w w' : World}{b o:Nat}{a:At}(h:w'.heap[b]? = w.heap[b]?)(hr:cellsAt w b o a):cellsAt w' b o a:=by
 obtain ⟨c0,c1,c2,c3,c4,c5⟩:=hr
 refine ⟨?_,?_,?_,?_,?_,?_⟩ <;> (rw [World.cell?_of_block (w:=w) h];assumption)
theorem Held.kept {w w' : World}{col col' : Col}{κ:Nat × Nat}{v:Value}{l:List At}{S:Nat × Nat→Prop}(h:Held w col κ v l)(hf:FrC S col col' w w')(hS:¬ S κ):Held w' col' κ v l:=by
 obtain ⟨ad,cap,rfl,hc,H⟩:=h
 refine ⟨ad,cap,rfl,hc,fun h0 => ?_⟩
 obtain ⟨b,off,rfl,hb,hk,hr⟩:=H h0
 have he:=hf.fr.block b hb (by rw [hk];exact hS)
 exact ⟨b,off,rfl,Nat.lt_of_lt_of_le hb hf.size,(hf.col b hb).trans hk,fun k hl=>zbu he (hr k hl)⟩
theorem zeQ (w:World)(col:Col)(κ:Nat × Nat):Held w col κ (.slice none 0 0) []:=⟨none,0,rfl,Nat.le_refl _,fun h=>by simp at h⟩
theorem zeS {w:World}{col:Col}{κ:Nat × Nat}{base:Nat}{e:TypeId}{v:Value}{l:List At}{n:Nat}(hn:n=l.length)(h:w.ownsRow base e 6 v n (flat l))(hc:∀ q,v.ownBlock=some q→col q=κ):Held w col κ v l:=by
 subst hn
 obtain ⟨_,h⟩:=h
 rcases h with ⟨rfl,h0⟩ | ⟨g,cap,cur,rfl,hg,hb,h1,h2,h3,h4⟩
 ·obtain rfl:=List.length_eq_zero_iff.1 h0
  exact zeQ w col κ
 ·exact ⟨_,cap,rfl,h1,fun _=>⟨g,0,rfl,(Array.getElem?_eq_some_iff.1 hb).1,hc g rfl,zkP hb h4⟩⟩
theorem zeP {w w' : World}{col:Col}{κ:Nat × Nat}{e:TypeId}{v:Value}{l:List At}{n:Nat}(hn:n=l.length)(h:w'.ownsRow w.heap.size e 6 v n (flat l)):Held w' (paint col w.heap.size κ) κ v l :=
 zeS hn h fun q hq=>zim col κ (zh4 h q hq)
structure RowC (w:World)(col:Col)(κ:Nat × Nat)(e:TypeId)(s:Nat)(v:Value)(n:Nat)(xs:List Value):Prop where
 own:w.ownsRow 0 e s v n xs
 col:∀ q,v.ownBlock=some q→col q=κ
theorem RowC.kept {w w' : World}{col col' : Col}{κ:Nat × Nat}{e:TypeId}{s n:Nat}{v:Value}{xs:List Value}{S:Nat × Nat→Prop}(h:RowC w col κ e s v n xs)(hf:FrC S col col' w w')(hS:¬ S κ):RowC w' col' κ e s v n xs where
 own:=zh8 h.own hf.fr fun q hq=>by rw [h.col q hq];exact hS
 col q hq:=(hf.col q (zh3 h.own q hq)).trans (h.col q hq)
theorem zkR (w:World)(col:Col)(κ:Nat × Nat)(e:TypeId)(s:Nat):RowC w col κ e s (.slice none 0 0) 0 []:=⟨World.ownsRow_nil w 0 e s,fun q hq=>by cases hq⟩
theorem zkQ {w w' : World}{col:Col}{κ:Nat × Nat}{e:TypeId}{s n:Nat}{v:Value}{xs:List Value}(h:w'.ownsRow w.heap.size e s v n xs):RowC w' (paint col w.heap.size κ) κ e s v n xs :=
 ⟨zic h (Nat.zero_le _),fun q hq=>zim col κ (zh4 h q hq)⟩
theorem RowC.lies {w w1 w2:World}{col:Col}{κ:Nat × Nat}{e:TypeId}{s n m g cap H:Nat}{v:Value}{xs ys:List Value}(h:RowC w col κ e s v n xs)(h1:Below w.heap.size w w1)
  (hown:w2.ownsRow 0 e s (.slice (some ⟨g,0,none⟩) m cap) m ys) (hg:w1.grownBy w2 v.ownBlock) (hat:v.ownBlock=some g∨g=H) (hH:w.heap.size≤H) :
  RowC w2 (paint col w.heap.size κ) κ e s (.slice (some ⟨g,0,none⟩) m cap) m ys∧FrC (fun x=>x=κ) col (paint col w.heap.size κ) w w2:=by
 have hf:Fr (fun q=>col q=κ) w w1:=(Fr.refl _ w).below h1
 refine ⟨⟨hown,fun q hq => ?_⟩,⟨hf.step hg (fun q hq => .inr (h.col q hq)),fun q hq=>zin col κ hq⟩⟩
 obtain rfl:=zh2 hq
 rcases hat with e | e
 ·rw [zin col κ (zh3 h.own g e),h.col g e]
 ·exact zim col κ (by omega)
theorem RowC.at {w:World}{col:Col}{κ:Nat × Nat}{e:TypeId}{s n:Nat}{v:Value}{xs:List Value}(h:RowC w col κ e s v n xs)(hn:0<n):∃ g cap,v = .slice (some ⟨g,0,none⟩) n cap∧n≤cap∧cap≤maxLen∧g<w.heap.size∧col g=κ∧(∀ j u,xs[j]? = some u→w.cell? ⟨g,j,none⟩=some u)∧∀ j,w.frozen? ⟨g,j,none⟩=false:=by
 rcases h.own.2 with ⟨_,h0⟩ | ⟨g,cap,cur,rfl,hg,hb,h1,h2,h3,h4⟩
 ·omega
 ·refine ⟨g,cap,rfl,h1,h2,(Array.getElem?_eq_some_iff.1 hb).1,h.col g rfl,fun j u hu => ?_,fun j=>by simp [World.frozen?,hb]⟩
  have hj:j<xs.length:=(List.getElem?_eq_some_iff.1 hu).1
  rw [← h4,List.getElem?_take] at hu
  split at hu
  ·rw [Array.getElem?_toList] at hu
   simp [World.cell?,hb,hu]
  ·cases hu
theorem RowC.form {w:World}{col:Col}{κ:Nat × Nat}{e:TypeId}{s n:Nat}{v:Value}{xs:List Value}(h:RowC w col κ e s v n xs):∃ ad cap,v = .slice ad n cap∧n≤cap:=by
 rcases h.own.2 with ⟨rfl,rfl⟩ | ⟨g,cap,cur,rfl,hg,hb,h1,h2,h3,h4⟩
 ·exact ⟨_,_,rfl,Nat.le_refl _⟩
 ·exact ⟨_,_,rfl,h1⟩
theorem RowC.store {w:World}{col:Col}{κ:Nat × Nat}{e:TypeId}{s n g cap:Nat}{xs:List Value}(h:RowC w col κ e s (.slice (some ⟨g,0,none⟩) n cap) n xs)(j:Nat)(u:Value) :
  RowC (w.setCell ⟨g,j,none⟩ u) col κ e s (.slice (some ⟨g,0,none⟩) n cap) n (xs.set j u)∧FrC (fun x=>x=κ) col col w (w.setCell ⟨g,j,none⟩ u):=by
 refine ⟨⟨?_,h.col⟩,⟨(Fr.refl _ w).step (zet w ⟨g,j,none⟩ u) (fun q hq=>by cases hq;exact .inr (h.col g rfl)),fun _ _=>rfl⟩⟩
 rcases h.own.2 with ⟨h0,_⟩ | ⟨g',cap',cur,hv,hg,hh,h1,h2,h3,h4⟩
 ·cases h0
 cases hv
 refine ⟨by rw [List.length_set];exact h.own.1,.inr ⟨g,cap,_,rfl,hg,zeK hh u,h1,h2,by simp [h3],?_⟩⟩
 rw [Array.toList_setIfInBounds,← h4,List.take_set]
theorem zdt {α:Type}(f:α→List Value)(s:Nat)(hf:∀ a,(f a).length=s)(l:List α):(l.flatMap f).length=l.length*s:=by
 induction l with
 | nil=>simp
 | cons a l ih=>rw [List.flatMap_cons,List.length_append,ih,hf,List.length_cons];rw [Nat.add_mul];omega
theorem zds {α:Type}(f:α→List Value)(s:Nat)(hf:∀ a,(f a).length=s)(l:List α)(k j:Nat)(h:k<l.length)(hj:j<s):(l.flatMap f)[k*s+j]? = (f l[k])[j]? := by
 induction l generalizing k with
 | nil=>simp at h
 | cons a l ih =>
  have hl:=hf a
  cases k with
  | zero=>simp [List.getElem?_append_left (by rw [hl];omega:j<(f a).length)]
  | succ k =>
   have:=ih k (by simpa using h)
   simp only [List.flatMap_cons,List.getElem_cons_succ]
   rw [List.getElem?_append_right (by rw [hl,Nat.add_mul];omega),hl,show (k+1)*s+j - s=k*s+j by rw [Nat.add_mul];omega]
   exact this
theorem zdv {α:Type}(f:α→List Value)(s:Nat)(hf:∀ a,(f a).length=s)(l:List α)(k j:Nat)(u:Value)(a' : α)(h:k<l.length)(hj:j<s)(ha:(f l[k]).set j u=f a'):(l.flatMap f).set (k*s+j) u=(l.set k a').flatMap f:=by
 induction l generalizing k with
 | nil=>simp at h
 | cons a l ih =>
  have hl:=hf a
  cases k with
  | zero =>
   simp only [List.flatMap_cons,List.set_cons_zero,List.getElem_cons_zero] at ha ⊢
   rw [List.set_append_left _ _ (by rw [hl];omega),Nat.zero_mul,Nat.zero_add,ha]
  | succ k =>
   have:=ih k (by simpa using h) (by simpa using ha)
   simp only [List.flatMap_cons,List.set_cons_succ]
   rw [List.set_append_right _ _ (by rw [hl,Nat.add_mul];omega),hl,show (k+1)*s+j - s=k*s+j by rw [Nat.add_mul];omega,this]
theorem RowC.elem {α:Type}{f:α→List Value}{w:World}{col:Col}{κ:Nat × Nat}{e:TypeId}{s:Nat}{v:Value}{l:List α}(hf:∀ a,(f a).length=s)(h:RowC w col κ e s v l.length (l.flatMap f)) :
  ∃ ad cap,v = .slice ad l.length cap∧l.length≤cap∧(0<l.length→∃ g,ad=some ⟨g,0,none⟩∧g<w.heap.size∧col g=κ∧(∀ j,w.frozen? ⟨g,j,none⟩=false)∧∀ k (hk:k<l.length) j u,(f l[k])[j]? = some u→w.cell? ⟨g,k*s+j,none⟩=some u):=by
 by_cases h0:0<l.length
 ·obtain ⟨g,cap,hv,hc,hm,hg,hk,hcell,hfz⟩:=h.at h0
  refine ⟨_,cap,hv,hc,fun _=>⟨g,rfl,hg,hk,hfz,fun k hk j u hu=>hcell _ u ?_⟩⟩
  rw [zds f s hf l k j hk (by rw [← hf l[k]];exact (List.getElem?_eq_some_iff.1 hu).1)]
  exact hu
 ·obtain ⟨ad,cap,hv,hc⟩:=h.form
  exact ⟨ad,cap,hv,hc,fun h=>absurd h h0⟩
theorem zaX {w:World}{g:Nat}{cur:Array Value}{e:TypeId}{fz:Nat × Nat}(h:w.heap[g]? = some (.cells cur e fz))(k:Nat):w.cell? ⟨g,k,none⟩=cur[k]? := by simp [World.cell?,h]
theorem zaZ {w:World}{g:Nat}{cur:Array Value}{e:TypeId}(h:w.heap[g]? = some (.cells cur e (0,0)))(k:Nat):w.frozen? ⟨g,k,none⟩=false:=by simp [World.frozen?,h]
theorem zaY {w:World}{g:Nat}{b:Obj}(h:w.heap[g]? = some b):g<w.heap.size:=(Array.getElem?_eq_some_iff.1 h).1
theorem zdK {S:Nat × Nat→Prop}{col:Col}{w:World}{g:Nat}(k:Nat)(u:Value)(h:S (col g)):FrC S col col w (w.setCell ⟨g,k,none⟩ u) :=
 ⟨(Fr.refl _ w).step (zet w ⟨g,k,none⟩ u) (fun q hq=>by cases hq;exact .inr h),fun _ _=>rfl⟩
theorem zie {w:World}{base q o:Nat}{e:TypeId}{s n:Nat}{v u:Value}{xs:List Value}(h:w.ownsRow base e s v n xs)(hq:q<base):(w.setCell ⟨q,o,none⟩ u).ownsRow base e s v n xs :=
 zia h (zet w ⟨q,o,none⟩ u) fun k hk e=>by
  have h1:=zh4 h k hk
  have h2:k=q:=Option.some.inj e
  omega
theorem zeq {w w' : World}{row:Option Nat}(h:w.drew.grownBy w' row):w.grownBy w' row:=⟨h.os,h.tape,h.output,h.size,h.block⟩
end Go.Proofs.YtahdlejgjcjeoabGreatDoor
